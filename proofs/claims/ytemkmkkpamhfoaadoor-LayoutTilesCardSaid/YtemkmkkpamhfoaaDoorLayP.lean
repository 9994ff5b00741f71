/- The walks of LayoutPlaces, LayoutTells. -/
import Derived.Test.YtemkmkkpamhfoaaDoorLayL
namespace Go.Proofs.YtemkmkkpamhfoaaDoor.Lay
open Go.RowKit
set_option linter.unusedVariables false

set_option maxRecDepth 100000 in
set_option maxHeartbeats 4000000 in
theorem layoutPlaces_walk {Tb : World → Prop} (D : Does Tb) (s n i a : Int) (w : World) (ht : Tb w) (s1 : -9223372036854775808 ≤ s) (s2 : s ≤ 9223372036854775807) (n1 : -9223372036854775808 ≤ n) (n2 : n ≤ 9223372036854775807) (i1 : -9223372036854775808 ≤ i) (i2 : i ≤ 9223372036854775807) (a1 : -9223372036854775808 ≤ a) (a2 : a ≤ 9223372036854775807) :
    Calls Tryd.prog 4 #[.agg #[.int .i64 s, .int .i64 n], .int .i64 i, .int .i64 a] w fun e w' => e = .returned (.bool true) ∧ Below w.heap.size w w' := by
  have HL := Lib.hid (fun u (hu : Tb u) => lies_any D u hu)
  have H1 := Lib.hid (fun u (hu : Tb u) => D.slab s n a u hu s1 s2 n1 n2 a1 a2)
  have R1 := Lib.hid (fun u => refSlab_any s n a u a1 a2)
  have H2 := Lib.hid (fun u (hu : Tb u) => D.headAt s n i u hu s1 s2 n1 n2 i1 i2)
  have R2 := Lib.hid (fun u => refHeadAt_any s n i u i1 i2)
  have H3 := Lib.hid (fun u (hu : Tb u) => D.slotAt s n i u hu s1 s2 n1 n2 i1 i2)
  have R3 := Lib.hid (fun u => refSlotAt_any s n i u i1 i2)
  have H4 := Lib.hid (fun u (hu : Tb u) => D.slabAt s n i u hu s1 s2 n1 n2 i1 i2)
  have R4 := Lib.hid (fun u => refSlabAt_any s n i u i1 i2)
  generalize inC s n a = q at H1 R1
  obtain ⟨q1, q2⟩ := q
  generalize headC s n i = x at H2 R2
  generalize slotC s n i = y at H3 R3
  generalize slabC s n i = z at H4 R4
  obtain ⟨c1, c2, hlt1, hb⟩ := one_box (Below.refl (W1 w s n).heap.size (W1 w s n))
  unfold W1 at c1 c2 hlt1 hb
  have HKeep := Lib.hid D.keep
  have HKd := Lib.hid (fun u (hu : Tb u) => D.keep u u.drew (Below.refl _ u).drew hu)
  have htb := D.keep _ _ (below_made w (.cells #[.int .i64 s, .int .i64 n] 23)) ht
  have hq : (q2 == q2) = true := by simp
  have hx : ((x : Int) == (x : Int)) = true := by simp
  have hy : ((y : Int) == (y : Int)) = true := by simp
  have hz : ((z : Int) == (z : Int)) = true := by simp
  have hq1 : ((q1 : Int) == (q1 : Int)) = true := by simp
  clear D s1 s2 n1 n2 i1 i2 a1 a2
  go_enter Tryd.func4, Tryd.ntmps4
  go_wp2_with (first | (go_at_call 20; refine (H1.out _ (by first | exact htb | exact HKd.out _ htb)).mono ?_; rintro e w1 ⟨rfl, hw1⟩; replace c1 := (hw1.cell (p := ⟨w.heap.size, 0, none⟩) hlt1).trans c1; replace c2 := (hw1.cell (p := ⟨w.heap.size, 1, none⟩) hlt1).trans c2; replace hb := hb.trans (hw1.mono hb.size); replace htb := HKeep.out _ _ hw1 htb; replace hlt1 := Nat.lt_of_lt_of_le hlt1 hw1.size; clear hw1) | (go_at_call 21; refine (R1.out _).mono ?_; rintro e w1 ⟨rfl, hw1⟩; replace c1 := (hw1.cell (p := ⟨w.heap.size, 0, none⟩) hlt1).trans c1; replace c2 := (hw1.cell (p := ⟨w.heap.size, 1, none⟩) hlt1).trans c2; replace hb := hb.trans (hw1.mono hb.size); replace htb := HKeep.out _ _ hw1 htb; replace hlt1 := Nat.lt_of_lt_of_le hlt1 hw1.size; clear hw1))
  have k1 := Kept.cell c1 hlt1
  have k2 := Kept.cell c2 hlt1
  have HKT := Lib.hid (fun kk : Kept _ _ => HKeep.out _ _ kk.below htb)
  refine wp_region_kept (by kernel_rfl) (by kernel_rfl) ?_
  repeat (go_big_quiet_step (first | (go_at_call 22; exact Calls.kept_of (H2.out _ (HKT.out _)) (Nat.le_refl _)) | (go_at_call 23; exact Calls.kept_of (R2.out _) (Nat.le_refl _)) | (go_at_call 24; exact Calls.kept_of (H3.out _ (HKT.out _)) (Nat.le_refl _)) | (go_at_call 25; exact Calls.kept_of (R3.out _) (Nat.le_refl _)) | (go_at_call 26; exact Calls.kept_of (H4.out _ (HKT.out _)) (Nat.le_refl _)) | (go_at_call 27; exact Calls.kept_of (R4.out _) (Nat.le_refl _)) | (go_at_call 19; exact Calls.kept_of (HL.out _ (HKT.out _)) (Nat.le_refl _))))
  refine wpQuiet_nil ?_
  intro _ hw'
  obtain ⟨kk, rfl⟩ := hw'
  have hb2 := hb.trans (kk.below.mono hb.size)
  go_wp2
  go_ret
  exact ⟨rfl, hb2⟩

theorem drawn_below {w w' : World} (hm : ∃ m, w' = w.drewN m) : Below w.heap.size w w' := below_drawn (Below.refl _ _) hm

set_option maxRecDepth 100000 in
set_option maxHeartbeats 2000000 in
theorem layoutTells_walk {Tb : World → Prop} (D : Does Tb) (s n : Int) (w : World) (ht : Tb w) (s1 : -9223372036854775808 ≤ s) (s2 : s ≤ 9223372036854775807) (n1 : -9223372036854775808 ≤ n) (n2 : n ≤ 9223372036854775807) :
    Calls Tryd.prog 3 #[.agg #[.int .i64 s, .int .i64 n]] w fun e w' => e = .returned (.bool true) ∧ Below w.heap.size w w' := by
  have HL := Lib.hid (fun u (hu : Tb u) => lies_any D u hu)
  have H1 := Lib.hid (fun u (hu : Tb u) => D.right s n u hu s1 s2 n1 n2)
  have R1 := Lib.hid (fun u => refRight_any s n u)
  have H2 := Lib.hid (fun u (hu : Tb u) => D.size s n u hu s1 s2 n1 n2)
  have R2 := Lib.hid (fun u => refSize_any s n u)
  have H3 := Lib.hid (fun u (hu : Tb u) => D.base s n u hu s1 s2 n1 n2)
  have R3 := Lib.hid (fun u => refBase_any s n u)
  have H4 := Lib.hid (fun u (hu : Tb u) => D.most s n u hu s1 s2 n1 n2)
  have R4 := Lib.hid (fun u => refMost_any s n u)
  have H5 := Lib.hid (fun u (hu : Tb u) => D.runs s n u hu s1 s2 n1 n2)
  have R5 := Lib.hid (fun u => refRuns_any s n u)
  unfold RGot at H5 R5
  generalize rightC s n = q at H1 R1
  generalize sizeC s n = x at H2 R2
  generalize baseC s n = y at H3 R3
  generalize mostC s n = z at H4 R4
  generalize runsC s n = P at H5 R5
  obtain ⟨c1, c2, hlt1, hb⟩ := one_box (Below.refl (W1 w s n).heap.size (W1 w s n))
  unfold W1 at c1 c2 hlt1 hb
  have HKeep := Lib.hid D.keep
  have HKd := Lib.hid (fun u (hu : Tb u) => D.keep u u.drew (Below.refl _ u).drew hu)
  have htb := D.keep _ _ (below_made w (.cells #[.int .i64 s, .int .i64 n] 23)) ht
  have hq : (q == q) = true := by simp
  have hx : ((x : Int) == (x : Int)) = true := by simp
  have hy : ((y : Int) == (y : Int)) = true := by simp
  have hz : ((z : Int) == (z : Int)) = true := by simp
  clear D s1 s2 n1 n2
  go_enter Tryd.func3, Tryd.ntmps3
  go_wp2_with fail
  go_region_held3 (fun w' => w'.cell? ⟨w.heap.size, 0, none⟩ = some (.int .i64 s) ∧ w'.cell? ⟨w.heap.size, 1, none⟩ = some (.int .i64 n))
    (first | exact ⟨c1, c2⟩ | go_keep)
    ((first | (go_at_call 8; refine (H1.out _ (by first | exact htb | exact HKd.out _ htb)).mono ?_; rintro e w1 ⟨rfl, hw1⟩; replace c1 := (hw1.cell (p := ⟨w.heap.size, 0, none⟩) hlt1).trans c1; replace c2 := (hw1.cell (p := ⟨w.heap.size, 1, none⟩) hlt1).trans c2; (first | replace hb := hb.trans (hw1.mono hb.size); replace htb := HKeep.out _ _ hw1 htb | replace hb := hb.drew.trans (hw1.mono hb.size); replace htb := HKeep.out _ _ hw1 (HKd.out _ htb)); replace hlt1 := Nat.lt_of_lt_of_le hlt1 hw1.size; clear hw1) | (go_at_call 9; refine (R1.out _).mono ?_; rintro e w1 ⟨rfl, hw1⟩; replace c1 := (hw1.cell (p := ⟨w.heap.size, 0, none⟩) hlt1).trans c1; replace c2 := (hw1.cell (p := ⟨w.heap.size, 1, none⟩) hlt1).trans c2; (first | replace hb := hb.trans (hw1.mono hb.size); replace htb := HKeep.out _ _ hw1 htb | replace hb := hb.drew.trans (hw1.mono hb.size); replace htb := HKeep.out _ _ hw1 (HKd.out _ htb)); replace hlt1 := Nat.lt_of_lt_of_le hlt1 hw1.size; clear hw1) | (go_at_call 10; refine (H2.out _ (by first | exact htb | exact HKd.out _ htb)).mono ?_; rintro e w1 ⟨rfl, hw1⟩; replace c1 := (hw1.cell (p := ⟨w.heap.size, 0, none⟩) hlt1).trans c1; replace c2 := (hw1.cell (p := ⟨w.heap.size, 1, none⟩) hlt1).trans c2; (first | replace hb := hb.trans (hw1.mono hb.size); replace htb := HKeep.out _ _ hw1 htb | replace hb := hb.drew.trans (hw1.mono hb.size); replace htb := HKeep.out _ _ hw1 (HKd.out _ htb)); replace hlt1 := Nat.lt_of_lt_of_le hlt1 hw1.size; clear hw1) | (go_at_call 11; refine (R2.out _).mono ?_; rintro e w1 ⟨rfl, hw1⟩; replace c1 := (hw1.cell (p := ⟨w.heap.size, 0, none⟩) hlt1).trans c1; replace c2 := (hw1.cell (p := ⟨w.heap.size, 1, none⟩) hlt1).trans c2; (first | replace hb := hb.trans (hw1.mono hb.size); replace htb := HKeep.out _ _ hw1 htb | replace hb := hb.drew.trans (hw1.mono hb.size); replace htb := HKeep.out _ _ hw1 (HKd.out _ htb)); replace hlt1 := Nat.lt_of_lt_of_le hlt1 hw1.size; clear hw1) | (go_at_call 12; refine (H3.out _ (by first | exact htb | exact HKd.out _ htb)).mono ?_; rintro e w1 ⟨rfl, hw1⟩; replace c1 := (hw1.cell (p := ⟨w.heap.size, 0, none⟩) hlt1).trans c1; replace c2 := (hw1.cell (p := ⟨w.heap.size, 1, none⟩) hlt1).trans c2; (first | replace hb := hb.trans (hw1.mono hb.size); replace htb := HKeep.out _ _ hw1 htb | replace hb := hb.drew.trans (hw1.mono hb.size); replace htb := HKeep.out _ _ hw1 (HKd.out _ htb)); replace hlt1 := Nat.lt_of_lt_of_le hlt1 hw1.size; clear hw1) | (go_at_call 13; refine (R3.out _).mono ?_; rintro e w1 ⟨rfl, hw1⟩; replace c1 := (hw1.cell (p := ⟨w.heap.size, 0, none⟩) hlt1).trans c1; replace c2 := (hw1.cell (p := ⟨w.heap.size, 1, none⟩) hlt1).trans c2; (first | replace hb := hb.trans (hw1.mono hb.size); replace htb := HKeep.out _ _ hw1 htb | replace hb := hb.drew.trans (hw1.mono hb.size); replace htb := HKeep.out _ _ hw1 (HKd.out _ htb)); replace hlt1 := Nat.lt_of_lt_of_le hlt1 hw1.size; clear hw1) | (go_at_call 14; refine (H4.out _ (by first | exact htb | exact HKd.out _ htb)).mono ?_; rintro e w1 ⟨rfl, hw1⟩; replace c1 := (hw1.cell (p := ⟨w.heap.size, 0, none⟩) hlt1).trans c1; replace c2 := (hw1.cell (p := ⟨w.heap.size, 1, none⟩) hlt1).trans c2; (first | replace hb := hb.trans (hw1.mono hb.size); replace htb := HKeep.out _ _ hw1 htb | replace hb := hb.drew.trans (hw1.mono hb.size); replace htb := HKeep.out _ _ hw1 (HKd.out _ htb)); replace hlt1 := Nat.lt_of_lt_of_le hlt1 hw1.size; clear hw1) | (go_at_call 15; refine (R4.out _).mono ?_; rintro e w1 ⟨rfl, hw1⟩; replace c1 := (hw1.cell (p := ⟨w.heap.size, 0, none⟩) hlt1).trans c1; replace c2 := (hw1.cell (p := ⟨w.heap.size, 1, none⟩) hlt1).trans c2; (first | replace hb := hb.trans (hw1.mono hb.size); replace htb := HKeep.out _ _ hw1 htb | replace hb := hb.drew.trans (hw1.mono hb.size); replace htb := HKeep.out _ _ hw1 (HKd.out _ htb)); replace hlt1 := Nat.lt_of_lt_of_le hlt1 hw1.size; clear hw1) | (go_at_call 19; refine (HL.out _ (by first | exact htb | exact HKd.out _ htb)).mono ?_; rintro e w1 ⟨rfl, hw1⟩; replace c1 := (hw1.cell (p := ⟨w.heap.size, 0, none⟩) hlt1).trans c1; replace c2 := (hw1.cell (p := ⟨w.heap.size, 1, none⟩) hlt1).trans c2; (first | replace hb := hb.trans (hw1.mono hb.size); replace htb := HKeep.out _ _ hw1 htb | replace hb := hb.drew.trans (hw1.mono hb.size); replace htb := HKeep.out _ _ hw1 (HKd.out _ htb)); replace hlt1 := Nat.lt_of_lt_of_le hlt1 hw1.size; clear hw1) | (go_at_call 17; refine (H5.out _ (by first | exact htb | exact HKd.out _ htb)).mono ?_; rintro e w1 ⟨u1, rfl, hw1, hA1⟩; replace c1 := (hw1.cell (p := ⟨w.heap.size, 0, none⟩) hlt1).trans c1; replace c2 := (hw1.cell (p := ⟨w.heap.size, 1, none⟩) hlt1).trans c2; (first | replace hb := hb.trans (hw1.mono hb.size); replace htb := HKeep.out _ _ hw1 htb | replace hb := hb.drew.trans (hw1.mono hb.size); replace htb := HKeep.out _ _ hw1 (HKd.out _ htb)); replace hlt1 := Nat.lt_of_lt_of_le hlt1 hw1.size; clear hw1) | (go_at_call 18; refine (R5.out _).mono ?_; rintro e w1 ⟨u2, rfl, hw1, hA2⟩; replace hA1 := hA1.mono hw1 (Nat.le_refl _); replace c1 := (hw1.cell (p := ⟨w.heap.size, 0, none⟩) hlt1).trans c1; replace c2 := (hw1.cell (p := ⟨w.heap.size, 1, none⟩) hlt1).trans c2; (first | replace hb := hb.trans (hw1.mono hb.size); replace htb := HKeep.out _ _ hw1 htb | replace hb := hb.drew.trans (hw1.mono hb.size); replace htb := HKeep.out _ _ hw1 (HKd.out _ htb)); replace hlt1 := Nat.lt_of_lt_of_le hlt1 hw1.size; clear hw1) | (go_at_call 16; refine (sameR_any _ _ P _ hA1 hA2).mono ?_; rintro e w1 ⟨rfl, hm⟩; have hw1 := drawn_below hm; replace c1 := (hw1.cell (p := ⟨w.heap.size, 0, none⟩) hlt1).trans c1; replace c2 := (hw1.cell (p := ⟨w.heap.size, 1, none⟩) hlt1).trans c2; (first | replace hb := hb.trans (hw1.mono hb.size); replace htb := HKeep.out _ _ hw1 htb | replace hb := hb.drew.trans (hw1.mono hb.size); replace htb := HKeep.out _ _ hw1 (HKd.out _ htb)); replace hlt1 := Nat.lt_of_lt_of_le hlt1 hw1.size; clear hw1)))
  go_wp2
  go_ret
  exact ⟨rfl, hb⟩
end Go.Proofs.YtemkmkkpamhfoaaDoor.Lay
