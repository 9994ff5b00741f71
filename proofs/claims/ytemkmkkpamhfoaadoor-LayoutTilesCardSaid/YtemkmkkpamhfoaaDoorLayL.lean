/- What is asked of layout's functions; lies; the walks of the statements. -/
import Derived.Test.YtemkmkkpamhfoaaDoorLayB
import Derived.Deep.RegionHeld3
namespace Go.Proofs.YtemkmkkpamhfoaaDoor.Lay
open Go.RowKit
set_option linter.unusedVariables false

/-- 'Tb': what the code's package variables hold, of a world. -/
structure Does (Tb : World → Prop) : Prop where
  keep : ∀ (w w' : World), Below w.heap.size w w' → Tb w → Tb w'
  right : ∀ (s n  : Int) (w : World), Tb w → -9223372036854775808 ≤ s → s ≤ 9223372036854775807 → -9223372036854775808 ≤ n → n ≤ 9223372036854775807 → Calls Tryd.prog 8 #[.agg #[.int .i64 s, .int .i64 n]] w fun e w' => e = .returned (.bool (rightC s n)) ∧ Below w.heap.size w w'
  size : ∀ (s n  : Int) (w : World), Tb w → -9223372036854775808 ≤ s → s ≤ 9223372036854775807 → -9223372036854775808 ≤ n → n ≤ 9223372036854775807 → Calls Tryd.prog 10 #[.agg #[.int .i64 s, .int .i64 n]] w fun e w' => e = .returned (.int .i64 (sizeC s n)) ∧ Below w.heap.size w w'
  base : ∀ (s n  : Int) (w : World), Tb w → -9223372036854775808 ≤ s → s ≤ 9223372036854775807 → -9223372036854775808 ≤ n → n ≤ 9223372036854775807 → Calls Tryd.prog 12 #[.agg #[.int .i64 s, .int .i64 n]] w fun e w' => e = .returned (.int .i64 (baseC s n)) ∧ Below w.heap.size w w'
  most : ∀ (s n  : Int) (w : World), Tb w → -9223372036854775808 ≤ s → s ≤ 9223372036854775807 → -9223372036854775808 ≤ n → n ≤ 9223372036854775807 → Calls Tryd.prog 14 #[.agg #[.int .i64 s, .int .i64 n]] w fun e w' => e = .returned (.int .i64 (mostC s n)) ∧ Below w.heap.size w w'
  headAt : ∀ (s n i : Int) (w : World), Tb w → -9223372036854775808 ≤ s → s ≤ 9223372036854775807 → -9223372036854775808 ≤ n → n ≤ 9223372036854775807 → -9223372036854775808 ≤ i → i ≤ 9223372036854775807 → Calls Tryd.prog 22 #[.agg #[.int .i64 s, .int .i64 n], .int .i64 i] w fun e w' => e = .returned (.int .i64 (headC s n i)) ∧ Below w.heap.size w w'
  slotAt : ∀ (s n i : Int) (w : World), Tb w → -9223372036854775808 ≤ s → s ≤ 9223372036854775807 → -9223372036854775808 ≤ n → n ≤ 9223372036854775807 → -9223372036854775808 ≤ i → i ≤ 9223372036854775807 → Calls Tryd.prog 24 #[.agg #[.int .i64 s, .int .i64 n], .int .i64 i] w fun e w' => e = .returned (.int .i64 (slotC s n i)) ∧ Below w.heap.size w w'
  slabAt : ∀ (s n i : Int) (w : World), Tb w → -9223372036854775808 ≤ s → s ≤ 9223372036854775807 → -9223372036854775808 ≤ n → n ≤ 9223372036854775807 → -9223372036854775808 ≤ i → i ≤ 9223372036854775807 → Calls Tryd.prog 26 #[.agg #[.int .i64 s, .int .i64 n], .int .i64 i] w fun e w' => e = .returned (.int .i64 (slabC s n i)) ∧ Below w.heap.size w w'
  slab : ∀ (s n a : Int) (w : World), Tb w → -9223372036854775808 ≤ s → s ≤ 9223372036854775807 → -9223372036854775808 ≤ n → n ≤ 9223372036854775807 → -9223372036854775808 ≤ a → a ≤ 9223372036854775807 → Calls Tryd.prog 20 #[.agg #[.int .i64 s, .int .i64 n], .int .i64 a] w fun e w' => e = .returned (.tuple #[.int .i64 (inC s n a).1, .bool (inC s n a).2]) ∧ Below w.heap.size w w'
  runs : ∀ (s n : Int) (w : World), Tb w → -9223372036854775808 ≤ s → s ≤ 9223372036854775807 → -9223372036854775808 ≤ n → n ≤ 9223372036854775807 → Calls Tryd.prog 17 #[.agg #[.int .i64 s, .int .i64 n]] w (RGot w (runsC s n))

theorem drewN_more {w wr : World} (h : ∃ m, wr = w.drewN m) (n : Nat) : ∃ m, wr.drewN n = w.drewN m := by
  obtain ⟨m, rfl⟩ := h
  exact ⟨m + n, World.drewN_drewN _ _ _⟩
theorem below_drawn {B : Nat} {a w w' : World} (h : Below B a w) (hm : ∃ m, w' = w.drewN m) : Below B a w' := by
  obtain ⟨m, rfl⟩ := hm
  exact below_drewN h m

set_option maxRecDepth 100000 in
theorem sameR_any (v1 v2 : Value) (P : List (Nat × Nat × Nat)) (w : World) (h1 : ARow 3 encR (0, 0, 0) w v1 P) (h2 : ARow 3 encR (0, 0, 0) w v2 P) :
    Calls Tryd.prog 16 #[v1, v2] w fun e w' => e = .returned (.bool true) ∧ ∃ m, w' = w.drewN m := by
  obtain ⟨a1, k1, rfl, q1, q2, g1⟩ := h1
  obtain ⟨a2, k2, rfl, -, -, g2⟩ := h2
  have G1 := Lib.hid g1
  have G2 := Lib.hid g2
  have hPl : (P.length : Int) ≤ 9223372036854775807 := by omega
  clear g1 g2
  go_enter Tryd.func16, Tryd.ntmps16
  go_wp2
  go_loopw [5] (fun i wr => ∃ k : Nat, k ≤ P.length ∧ i = .int .i64 k ∧ Hid (∃ m, wr = w.drewN m)) (fun i _ => P.length - (intOf i).toNat)
  case atStart => exact ⟨0, Nat.zero_le _, rfl, 0, rfl⟩
  case round =>
    obtain ⟨k, hk, rfl, HW⟩ := hrel
    by_cases hlt : k < P.length
    · have hlt1 : (k : Int) < (P.length : Int) := by omega
      have hlt0 : (0 : Int) ≤ (k : Int) := by omega
      have hbel := below_drawn (Below.refl w.heap.size w) HW.out
      obtain ⟨b1, o1, rfl, hb1, hc1⟩ := G1.out (by rintro rfl; simp at hlt)
      obtain ⟨b2, o2, rfl, hb2, hc2⟩ := G2.out (by rintro rfl; simp at hlt)
      have c1 : wr.cell? ⟨b1, o1 + k * 3, none⟩ = _ := (hbel.cell (p := ⟨b1, o1 + k * 3, none⟩) hb1).trans (hc1 k hlt 0 _ rfl)
      have c2 := (hbel.cell (p := ⟨b1, o1 + k * 3 + 1, none⟩) hb1).trans (hc1 k hlt 1 _ rfl)
      have c3 := (hbel.cell (p := ⟨b1, o1 + k * 3 + 2, none⟩) hb1).trans (hc1 k hlt 2 _ rfl)
      have c4 : wr.cell? ⟨b2, o2 + k * 3, none⟩ = _ := (hbel.cell (p := ⟨b2, o2 + k * 3, none⟩) hb2).trans (hc2 k hlt 0 _ rfl)
      have c5 := (hbel.cell (p := ⟨b2, o2 + k * 3 + 1, none⟩) hb2).trans (hc2 k hlt 1 _ rfl)
      have c6 := (hbel.cell (p := ⟨b2, o2 + k * 3 + 2, none⟩) hb2).trans (hc2 k hlt 2 _ rfl)
      obtain ⟨x, hx⟩ : ∃ x, x = P.getD k (0, 0, 0) := ⟨_, rfl⟩
      rw [← hx] at c1 c2 c3 c4 c5 c6
      obtain ⟨x1, x2, x3⟩ := x
      simp only [] at c1 c2 c3 c4 c5 c6
      clear hc1 hc2 hx hbel
      go_wp2_with fail
      go_quiet (fail)
      go_wp2
      go_roundw
      case rel => exact ⟨k + 1, by omega, by go_num, drewN_more HW.out _⟩
      case measure => simp [intOf]; omega
    · obtain rfl : k = P.length := by omega
      go_wp2
      go_ret
      exact ⟨rfl, HW.out⟩

theorem lex : rightC 7 224 = true := by decide
theorem lex1 : headC 7 224 0 = 128 := by decide
theorem lex2 : slotC 7 224 0 = 240 := by decide
theorem lex3 : baseC 7 224 = 1136 := by decide
theorem lex4 : sizeC 7 224 = 8304 := by decide
theorem lex5 : inC 7 224 8303 = (6, true) := by decide
theorem lex6 : mostC 7 224 = 224 := by decide
theorem lex7 : (runsC 7 224).length = 5 := by decide

set_option maxRecDepth 100000 in
set_option maxHeartbeats 2000000 in
theorem lies_any {Tb : World → Prop} (D : Does Tb) (w : World) (ht : Tb w) : Calls Tryd.prog 19 #[] w fun e w' => e = .returned (.bool true) ∧ Below w.heap.size w w' := by
  have H0 := Lib.hid (fun u (hu : Tb u) => lex ▸ D.right 7 224 u hu (by decide) (by decide) (by decide) (by decide))
  have H1 := Lib.hid (fun u (hu : Tb u) => lex1 ▸ D.headAt 7 224 0 u hu (by decide) (by decide) (by decide) (by decide) (by decide) (by decide))
  have H2 := Lib.hid (fun u (hu : Tb u) => lex2 ▸ D.slotAt 7 224 0 u hu (by decide) (by decide) (by decide) (by decide) (by decide) (by decide))
  have H3 := Lib.hid (fun u (hu : Tb u) => lex3 ▸ D.base 7 224 u hu (by decide) (by decide) (by decide) (by decide))
  have H4 := Lib.hid (fun u (hu : Tb u) => lex4 ▸ D.size 7 224 u hu (by decide) (by decide) (by decide) (by decide))
  have H6 := Lib.hid (fun u (hu : Tb u) => lex6 ▸ D.most 7 224 u hu (by decide) (by decide) (by decide) (by decide))
  have h5 := fun u (hu : Tb u) => D.slab 7 224 8303 u hu (by decide) (by decide) (by decide) (by decide) (by decide) (by decide)
  rw [lex5] at h5
  have H5 := Lib.hid h5
  have H7 : Hid (∀ u, Tb u → Calls Tryd.prog 17 #[.agg #[.int .i64 7, .int .i64 224]] u fun e w' => ∃ a cap, e = .returned (.slice a 5 cap) ∧ Below u.heap.size u w') := fun u (hu : Tb u) => (D.runs 7 224 u hu (by decide) (by decide) (by decide) (by decide)).mono fun e w' ⟨v, h1, h2, a, cap, h3, _⟩ => ⟨a, cap, by rw [h1, h3, lex7], h2⟩
  obtain ⟨c1, c2, hlt1, hb⟩ := one_box (Below.refl (W1 w 7 224).heap.size (W1 w 7 224))
  unfold W1 at c1 c2 hlt1 hb
  have HKeep := Lib.hid D.keep
  have HKd := Lib.hid (fun u (hu : Tb u) => D.keep u u.drew (Below.refl _ u).drew hu)
  have htb := D.keep _ _ (below_made w (.cells #[.int .i64 7, .int .i64 224] 23)) ht
  clear h5 D
  go_enter Tryd.func19, Tryd.ntmps19
  go_wp2_with (first | (go_at_call 8; refine (H0.out _ (by first | exact htb | exact HKd.out _ htb)).mono ?_; rintro e w1 ⟨rfl, hw1⟩; replace c1 := (hw1.cell (p := ⟨w.heap.size, 0, none⟩) hlt1).trans c1; replace c2 := (hw1.cell (p := ⟨w.heap.size, 1, none⟩) hlt1).trans c2; replace hb := hb.trans (hw1.mono hb.size); replace htb := HKeep.out _ _ hw1 htb; replace hlt1 := Nat.lt_of_lt_of_le hlt1 hw1.size; clear hw1) | (go_at_call 22; refine (H1.out _ (by first | exact htb | exact HKd.out _ htb)).mono ?_; rintro e w1 ⟨rfl, hw1⟩; replace c1 := (hw1.cell (p := ⟨w.heap.size, 0, none⟩) hlt1).trans c1; replace c2 := (hw1.cell (p := ⟨w.heap.size, 1, none⟩) hlt1).trans c2; replace hb := hb.trans (hw1.mono hb.size); replace htb := HKeep.out _ _ hw1 htb; replace hlt1 := Nat.lt_of_lt_of_le hlt1 hw1.size; clear hw1) | (go_at_call 24; refine (H2.out _ (by first | exact htb | exact HKd.out _ htb)).mono ?_; rintro e w1 ⟨rfl, hw1⟩; replace c1 := (hw1.cell (p := ⟨w.heap.size, 0, none⟩) hlt1).trans c1; replace c2 := (hw1.cell (p := ⟨w.heap.size, 1, none⟩) hlt1).trans c2; replace hb := hb.trans (hw1.mono hb.size); replace htb := HKeep.out _ _ hw1 htb; replace hlt1 := Nat.lt_of_lt_of_le hlt1 hw1.size; clear hw1) | (go_at_call 12; refine (H3.out _ (by first | exact htb | exact HKd.out _ htb)).mono ?_; rintro e w1 ⟨rfl, hw1⟩; replace c1 := (hw1.cell (p := ⟨w.heap.size, 0, none⟩) hlt1).trans c1; replace c2 := (hw1.cell (p := ⟨w.heap.size, 1, none⟩) hlt1).trans c2; replace hb := hb.trans (hw1.mono hb.size); replace htb := HKeep.out _ _ hw1 htb; replace hlt1 := Nat.lt_of_lt_of_le hlt1 hw1.size; clear hw1) | (go_at_call 10; refine (H4.out _ (by first | exact htb | exact HKd.out _ htb)).mono ?_; rintro e w1 ⟨rfl, hw1⟩; replace c1 := (hw1.cell (p := ⟨w.heap.size, 0, none⟩) hlt1).trans c1; replace c2 := (hw1.cell (p := ⟨w.heap.size, 1, none⟩) hlt1).trans c2; replace hb := hb.trans (hw1.mono hb.size); replace htb := HKeep.out _ _ hw1 htb; replace hlt1 := Nat.lt_of_lt_of_le hlt1 hw1.size; clear hw1) | (go_at_call 20; refine (H5.out _ (by first | exact htb | exact HKd.out _ htb)).mono ?_; rintro e w1 ⟨rfl, hw1⟩; replace c1 := (hw1.cell (p := ⟨w.heap.size, 0, none⟩) hlt1).trans c1; replace c2 := (hw1.cell (p := ⟨w.heap.size, 1, none⟩) hlt1).trans c2; replace hb := hb.trans (hw1.mono hb.size); replace htb := HKeep.out _ _ hw1 htb; replace hlt1 := Nat.lt_of_lt_of_le hlt1 hw1.size; clear hw1) | (go_at_call 14; refine (H6.out _ (by first | exact htb | exact HKd.out _ htb)).mono ?_; rintro e w1 ⟨rfl, hw1⟩; replace c1 := (hw1.cell (p := ⟨w.heap.size, 0, none⟩) hlt1).trans c1; replace c2 := (hw1.cell (p := ⟨w.heap.size, 1, none⟩) hlt1).trans c2; replace hb := hb.trans (hw1.mono hb.size); replace htb := HKeep.out _ _ hw1 htb; replace hlt1 := Nat.lt_of_lt_of_le hlt1 hw1.size; clear hw1) | (go_at_call 17; refine (H7.out _ (by first | exact htb | exact HKd.out _ htb)).mono ?_; rintro e w1 ⟨a, cap, rfl, hw1⟩; replace c1 := (hw1.cell (p := ⟨w.heap.size, 0, none⟩) hlt1).trans c1; replace c2 := (hw1.cell (p := ⟨w.heap.size, 1, none⟩) hlt1).trans c2; replace hb := hb.trans (hw1.mono hb.size); replace htb := HKeep.out _ _ hw1 htb; replace hlt1 := Nat.lt_of_lt_of_le hlt1 hw1.size; clear hw1))
  go_ret
  exact ⟨rfl, hb⟩
end Go.Proofs.YtemkmkkpamhfoaaDoor.Lay
