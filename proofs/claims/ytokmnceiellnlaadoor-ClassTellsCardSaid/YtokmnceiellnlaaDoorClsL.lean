/- What is asked of class's functions; classes; the walks of the statements. -/
import Derived.Test.YtokmnceiellnlaaDoorClsA
namespace Go.Proofs.YtokmnceiellnlaaDoor.Cls
open Go.RowKit
set_option linter.unusedVariables false

/-- 'Tb': what the code's package variables hold, of a world. -/
structure Does (Tb : World → Prop) : Prop where
  keep : ∀ (w w' : World), Below w.heap.size w w' → Tb w → Tb w'
  size : ∀ (c : Int) (w : World), Tb w → -9223372036854775808 ≤ c → c ≤ 9223372036854775807 → Calls Tryd.prog 10 #[.int .i64 c] w fun e w' => e = .returned (.int .i64 (szC c)) ∧ Below w.heap.size w w'
  of_ : ∀ (s : Int) (w : World), Tb w → -9223372036854775808 ≤ s → s ≤ 9223372036854775807 → Calls Tryd.prog 8 #[.int .i64 s] w fun e w' => e = .returned (.tuple #[.int .i64 (ofC s).1, .int .i64 (ofC s).2]) ∧ Below w.heap.size w w'
  blocks : ∀ (c : Int) (w : World), Tb w → -9223372036854775808 ≤ c → c ≤ 9223372036854775807 → Calls Tryd.prog 12 #[.int .i64 c] w fun e w' => e = .returned (.int .i64 (blC c)) ∧ Below w.heap.size w w'
  pad : ∀ (c : Int) (w : World), Tb w → -9223372036854775808 ≤ c → c ≤ 9223372036854775807 → Calls Tryd.prog 14 #[.int .i64 c] w fun e w' => e = .returned (.int .i64 (pdC c)) ∧ Below w.heap.size w w'
  place : ∀ (c i : Int) (w : World), Tb w → -9223372036854775808 ≤ c → c ≤ 9223372036854775807 → -9223372036854775808 ≤ i → i ≤ 9223372036854775807 → Calls Tryd.prog 17 #[.int .i64 c, .int .i64 i] w fun e w' => e = .returned (.tuple #[.int .i64 (plC c i).1, .int .i64 (plC c i).2]) ∧ Below w.heap.size w w'
  index : ∀ (c a : Int) (w : World), Tb w → -9223372036854775808 ≤ c → c ≤ 9223372036854775807 → -9223372036854775808 ≤ a → a ≤ 9223372036854775807 → Calls Tryd.prog 19 #[.int .i64 c, .int .i64 a] w fun e w' => e = .returned (.tuple #[.int .i64 (idC c a).1, .bool (idC c a).2]) ∧ Below w.heap.size w w'
  entry : ∀ (p : Int) (w : World), Tb w → -9223372036854775808 ≤ p → p ≤ 9223372036854775807 → Calls Tryd.prog 21 #[.int .i64 p] w fun e w' => e = .returned (.tuple #[.int .i64 (enC p).1, .int .i64 (enC p).2]) ∧ Below w.heap.size w w'
  node : ∀ (l : Int) (w : World), Tb w → -9223372036854775808 ≤ l → l ≤ 9223372036854775807 → Calls Tryd.prog 23 #[.int .i64 l] w fun e w' => e = .returned (.tuple #[.int .i64 (noC l).1, .int .i64 (noC l).2]) ∧ Below w.heap.size w w'

set_option maxRecDepth 100000 in
set_option maxHeartbeats 2000000 in
theorem classes_any {Tb : World → Prop} (D : Does Tb) (w : World) (ht : Tb w) : Calls Tryd.prog 16 #[] w fun e w' => e = .returned (.bool true) ∧ Below w.heap.size w w' := by
  have e1 : ofC 33 = (2, 0) := by decide
  have e2 : plC 2 20 = (960, 0) := by decide
  have e3 : enC 480 = (9, 0) := by decide
  have e4 : noC 17 = (2, 0) := by decide
  have H1 := fun u (hu : Below w.heap.size w u) => D.of_ 33 u (D.keep w u hu ht) (by decide) (by decide)
  have H2 := fun u (hu : Below w.heap.size w u) => D.place 2 20 u (D.keep w u hu ht) (by decide) (by decide) (by decide) (by decide)
  have H3 := fun u (hu : Below w.heap.size w u) => D.entry 480 u (D.keep w u hu ht) (by decide) (by decide)
  have H4 := fun u (hu : Below w.heap.size w u) => D.node 17 u (D.keep w u hu ht) (by decide) (by decide)
  rw [e1] at H1
  rw [e2] at H2
  rw [e3] at H3
  rw [e4] at H4
  have H1 := Lib.hid H1
  have H2 := Lib.hid H2
  have H3 := Lib.hid H3
  have H4 := Lib.hid H4
  have H5 := Lib.hid (fun u (hu : Below w.heap.size w u) => (show blC 2 = 21 by decide) ▸ D.blocks 2 u (D.keep w u hu ht) (by decide) (by decide))
  have H6 := Lib.hid (fun u (hu : Below w.heap.size w u) => (show pdC 2 = 16 by decide) ▸ D.pad 2 u (D.keep w u hu ht) (by decide) (by decide))
  have H7 := Lib.hid (fun u (hu : Below w.heap.size w u) => (show szC 9 = 512 by decide) ▸ D.size 9 u (D.keep w u hu ht) (by decide) (by decide))
  have hb := Below.refl w.heap.size w
  clear e1 e2 e3 e4
  go_enter Tryd.func16, Tryd.ntmps16
  go_wp2_with (first | (go_at_call 8; refine (H1.out _ hb).mono ?_; rintro e w1 ⟨rfl, hb1⟩; replace hb := hb.trans (hb1.mono hb.size); clear hb1) | (go_at_call 17; refine (H2.out _ hb).mono ?_; rintro e w1 ⟨rfl, hb1⟩; replace hb := hb.trans (hb1.mono hb.size); clear hb1) | (go_at_call 21; refine (H3.out _ hb).mono ?_; rintro e w1 ⟨rfl, hb1⟩; replace hb := hb.trans (hb1.mono hb.size); clear hb1) | (go_at_call 23; refine (H4.out _ hb).mono ?_; rintro e w1 ⟨rfl, hb1⟩; replace hb := hb.trans (hb1.mono hb.size); clear hb1) | (go_at_call 12; refine (H5.out _ hb).mono ?_; rintro e w1 ⟨rfl, hb1⟩; replace hb := hb.trans (hb1.mono hb.size); clear hb1) | (go_at_call 14; refine (H6.out _ hb).mono ?_; rintro e w1 ⟨rfl, hb1⟩; replace hb := hb.trans (hb1.mono hb.size); clear hb1) | (go_at_call 10; refine (H7.out _ hb).mono ?_; rintro e w1 ⟨rfl, hb1⟩; replace hb := hb.trans (hb1.mono hb.size); clear hb1))
  go_ret
  exact ⟨rfl, hb⟩

set_option maxRecDepth 100000 in
set_option maxHeartbeats 2000000 in
theorem classTells_walk {Tb : World → Prop} (D : Does Tb) (c s : Int) (w : World) (ht : Tb w) (c1 : -9223372036854775808 ≤ c) (c2 : c ≤ 9223372036854775807) (s1 : -9223372036854775808 ≤ s) (s2 : s ≤ 9223372036854775807) :
    Calls Tryd.prog 3 #[.int .i64 c, .int .i64 s] w fun e w' => e = .returned (.bool true) ∧ Below w.heap.size w w' := by
  have HCl := Lib.hid (fun u (hu : Below w.heap.size w u) => classes_any D u (D.keep w u hu ht))
  have H1 := Lib.hid (fun u (hu : Below w.heap.size w u) => D.of_ s u (D.keep w u hu ht) s1 s2)
  have H2 := Lib.hid (fun u (hu : Below w.heap.size w u) => D.size c u (D.keep w u hu ht) c1 c2)
  have H3 := Lib.hid (fun u (hu : Below w.heap.size w u) => D.blocks c u (D.keep w u hu ht) c1 c2)
  have H4 := Lib.hid (fun u (hu : Below w.heap.size w u) => D.pad c u (D.keep w u hu ht) c1 c2)
  have R1 := Lib.hid (fun u => refOf_any s u s1 s2)
  have R2 := Lib.hid (fun u => refSize_any c u)
  have R3 := Lib.hid (fun u => refBlocks_any c u)
  have R4 := Lib.hid (fun u => refPad_any c u)
  generalize ofC s = r at H1 R1
  obtain ⟨r1, r2⟩ := r
  generalize szC c = x at H2 R2
  generalize blC c = y at H3 R3
  generalize pdC c = z at H4 R4
  have hb := Below.refl w.heap.size w
  clear D c1 c2 s1 s2
  go_enter Tryd.func3, Tryd.ntmps3
  go_wp2_with (first | (go_at_call 8; refine (H1.out _ hb).mono ?_; rintro e w1 ⟨rfl, hb1⟩; replace hb := hb.trans (hb1.mono hb.size); clear hb1) | (go_at_call 10; refine (H2.out _ hb).mono ?_; rintro e w1 ⟨rfl, hb1⟩; replace hb := hb.trans (hb1.mono hb.size); clear hb1) | (go_at_call 12; refine (H3.out _ hb).mono ?_; rintro e w1 ⟨rfl, hb1⟩; replace hb := hb.trans (hb1.mono hb.size); clear hb1) | (go_at_call 14; refine (H4.out _ hb).mono ?_; rintro e w1 ⟨rfl, hb1⟩; replace hb := hb.trans (hb1.mono hb.size); clear hb1) | (go_at_call 9; refine (R1.out _).mono ?_; rintro e w1 ⟨rfl, rfl⟩) | (go_at_call 11; refine (R2.out _).mono ?_; rintro e w1 ⟨rfl, rfl⟩) | (go_at_call 13; refine (R3.out _).mono ?_; rintro e w1 ⟨rfl, rfl⟩) | (go_at_call 15; refine (R4.out _).mono ?_; rintro e w1 ⟨rfl, rfl⟩) | (go_at_call 16; refine (HCl.out _ hb).mono ?_; rintro e w1 ⟨rfl, hb1⟩; replace hb := hb.trans (hb1.mono hb.size); clear hb1))
  go_ret
  exact ⟨rfl, hb⟩

set_option maxRecDepth 100000 in
set_option maxHeartbeats 2000000 in
theorem classPlaces_walk {Tb : World → Prop} (D : Does Tb) (c i a : Int) (w : World) (ht : Tb w) (c1 : -9223372036854775808 ≤ c) (c2 : c ≤ 9223372036854775807) (i1 : -9223372036854775808 ≤ i) (i2 : i ≤ 9223372036854775807) (a1 : -9223372036854775808 ≤ a) (a2 : a ≤ 9223372036854775807) :
    Calls Tryd.prog 4 #[.int .i64 c, .int .i64 i, .int .i64 a] w fun e w' => e = .returned (.bool true) ∧ Below w.heap.size w w' := by
  have HCl := Lib.hid (fun u (hu : Below w.heap.size w u) => classes_any D u (D.keep w u hu ht))
  have H1 := Lib.hid (fun u (hu : Below w.heap.size w u) => D.place c i u (D.keep w u hu ht) c1 c2 i1 i2)
  have H2 := Lib.hid (fun u (hu : Below w.heap.size w u) => D.index c a u (D.keep w u hu ht) c1 c2 a1 a2)
  have R1 := Lib.hid (fun u => refPlace_any c i u i1 i2)
  have R2 := Lib.hid (fun u => refIndex_any c a u a1 a2)
  generalize plC c i = r at H1 R1
  obtain ⟨r1, r2⟩ := r
  generalize idC c a = q at H2 R2
  obtain ⟨q1, q2⟩ := q
  have hb := Below.refl w.heap.size w
  clear D c1 c2 i1 i2 a1 a2
  go_enter Tryd.func4, Tryd.ntmps4
  go_wp2_with (first | (go_at_call 17; refine (H1.out _ hb).mono ?_; rintro e w1 ⟨rfl, hb1⟩; replace hb := hb.trans (hb1.mono hb.size); clear hb1) | (go_at_call 19; refine (H2.out _ hb).mono ?_; rintro e w1 ⟨rfl, hb1⟩; replace hb := hb.trans (hb1.mono hb.size); clear hb1) | (go_at_call 18; refine (R1.out _).mono ?_; rintro e w1 ⟨rfl, rfl⟩) | (go_at_call 20; refine (R2.out _).mono ?_; rintro e w1 ⟨rfl, rfl⟩) | (go_at_call 16; refine (HCl.out _ hb).mono ?_; rintro e w1 ⟨rfl, hb1⟩; replace hb := hb.trans (hb1.mono hb.size); clear hb1))
  go_ret
  exact ⟨rfl, hb⟩

set_option maxRecDepth 100000 in
set_option maxHeartbeats 2000000 in
theorem classHolds_walk {Tb : World → Prop} (D : Does Tb) (p l : Int) (w : World) (ht : Tb w) (p1 : -9223372036854775808 ≤ p) (p2 : p ≤ 9223372036854775807) (l1 : -9223372036854775808 ≤ l) (l2 : l ≤ 9223372036854775807) :
    Calls Tryd.prog 5 #[.int .i64 p, .int .i64 l] w fun e w' => e = .returned (.bool true) ∧ Below w.heap.size w w' := by
  have HCl := Lib.hid (fun u (hu : Below w.heap.size w u) => classes_any D u (D.keep w u hu ht))
  have H1 := Lib.hid (fun u (hu : Below w.heap.size w u) => D.entry p u (D.keep w u hu ht) p1 p2)
  have H2 := Lib.hid (fun u (hu : Below w.heap.size w u) => D.node l u (D.keep w u hu ht) l1 l2)
  have R1 := Lib.hid (fun u => refEntry_any p u p1 p2)
  have R2 := Lib.hid (fun u => refNode_any l u l1 l2)
  generalize enC p = r at H1 R1
  obtain ⟨r1, r2⟩ := r
  generalize noC l = q at H2 R2
  obtain ⟨q1, q2⟩ := q
  have hb := Below.refl w.heap.size w
  clear D p1 p2 l1 l2
  go_enter Tryd.func5, Tryd.ntmps5
  go_wp2_with (first | (go_at_call 21; refine (H1.out _ hb).mono ?_; rintro e w1 ⟨rfl, hb1⟩; replace hb := hb.trans (hb1.mono hb.size); clear hb1) | (go_at_call 23; refine (H2.out _ hb).mono ?_; rintro e w1 ⟨rfl, hb1⟩; replace hb := hb.trans (hb1.mono hb.size); clear hb1) | (go_at_call 22; refine (R1.out _).mono ?_; rintro e w1 ⟨rfl, rfl⟩) | (go_at_call 24; refine (R2.out _).mono ?_; rintro e w1 ⟨rfl, rfl⟩) | (go_at_call 16; refine (HCl.out _ hb).mono ?_; rintro e w1 ⟨rfl, hb1⟩; replace hb := hb.trans (hb1.mono hb.size); clear hb1))
  go_ret
  exact ⟨rfl, hb⟩
end Go.Proofs.YtokmnceiellnlaaDoor.Cls
