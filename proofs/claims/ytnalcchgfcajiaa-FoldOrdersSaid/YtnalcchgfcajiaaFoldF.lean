/- The walk of the statement FoldOrders. -/
import Derived.Test.YtnalcchgfcajiaaFoldE
import Derived.Test.YtnalcchgfcajiaaKit4
namespace Go.Proofs.Ytnalcchgfcajiaa.Fold
open Go.RowKit
set_option linter.unusedVariables false

theorem bs_extract (s : ByteArray) (n : Nat) : bs (s.extract 0 n) = (bs s).take n := by
  unfold bs
  rw [← List.map_take]
  congr 1
  simp [ByteArray.data_extract]
theorem sameS_take (a b : ByteArray) : sameS (a.extract 0 (comS a b)) (b.extract 0 (comS a b)) = true := by
  unfold sameS sameB
  rw [bs_extract, bs_extract, beq_iff_eq]
  exact com_take (bs a) (bs b)

set_option maxRecDepth 100000 in
set_option maxHeartbeats 4000000 in
theorem foldOrders_walk (a b c : ByteArray) (w : World) (ha : a.size ≤ 9223372036854775807) (hb : b.size ≤ 9223372036854775807) (hc : c.size ≤ 9223372036854775807) :
    Calls Try.prog 7 #[.string a, .string b, .string c] w fun e w' => e = .returned (.bool true) ∧ Below w.heap.size w w' := by
  by_cases hl : 3000 < (a.size : Int)
  · go_enter Try.func7, Try.ntmps7
    go_wp2_with (go_at_call 8; refine (folds_any _).mono ?_; rintro e w' ⟨rfl, hb⟩)
    go_ret
    exact ⟨rfl, hb⟩
  by_cases hl2 : 3000 < (b.size : Int)
  · go_enter Try.func7, Try.ntmps7
    go_wp2_with (go_at_call 8; refine (folds_any _).mono ?_; rintro e w' ⟨rfl, hb⟩)
    go_ret
    exact ⟨rfl, hb⟩
  by_cases hl3 : 3000 < (c.size : Int)
  · go_enter Try.func7, Try.ntmps7
    go_wp2_with (go_at_call 8; refine (folds_any _).mono ?_; rintro e w' ⟨rfl, hb⟩)
    go_ret
    exact ⟨rfl, hb⟩
  have C1 := Lib.hid (fun w => compare_any a b w ha hb)
  have C2 := Lib.hid (fun w => compare_any b c w hb hc)
  have C3 := Lib.hid (fun w => compare_any a c w ha hc)
  have C4 := Lib.hid (fun w => compare_any b a w hb ha)
  have C5 := Lib.hid (fun w => compare_any a a w ha ha)
  have hneg : cmpS b a = -cmpS a b := cmp_neg _ _
  have hself := Lib.hid ((cmpS_same a a).2 (by unfold sameS sameB; exact beq_self_eq_true _))
  have hbd : -1 ≤ cmpS a b ∧ cmpS a b ≤ 1 := cmp_bd _ _
  have hsame := Lib.hid (show sameS a b = (cmpS a b == 0) by rw [Bool.eq_iff_iff, ← cmpS_same, beq_iff_eq])
  have htr : cmpS a b ≤ 0 → cmpS b c ≤ 0 → cmpS a c ≤ 0 ∧ (cmpS a c = 0 → cmpS a b = 0 ∧ cmpS b c = 0) := cmp_trans _ _ _
  obtain ⟨x, hx⟩ : ∃ x, x = cmpS a b := ⟨_, rfl⟩
  obtain ⟨y, hy⟩ : ∃ y, y = cmpS b c := ⟨_, rfl⟩
  obtain ⟨z, hz⟩ : ∃ z, z = cmpS a c := ⟨_, rfl⟩
  rw [← hx] at C1 hneg hbd hsame htr
  rw [← hy] at C2 htr
  rw [← hz] at C3 htr
  rw [hneg] at C4
  clear hx hy hz hneg
  obtain ⟨hbd1, hbd2⟩ := hbd
  have K1 := Lib.hid (comS_le a b)
  have K2 := Lib.hid (show comS b a = comS a b from com_comm _ _)
  have K3 := Lib.hid (sameS_take a b)
  have C6 := Lib.hid (fun w => common_any a b w ha hb)
  have C7 := Lib.hid (fun w => common_any b a w hb ha)
  rw [K2.out] at C7
  obtain ⟨n, hn⟩ : ∃ n, n = comS a b := ⟨_, rfl⟩
  rw [← hn] at K1 K3 C6 C7
  clear hn K2
  have HT := Lib.hid htr
  clear htr
  go_enter Try.func7, Try.ntmps7
  go_wp2_with fail
  refine (C1.out _).mono ?_
  rintro e w1 ⟨rfl, hm1⟩
  have hb1 := below_drawn (Below.refl w.heap.size w) hm1
  clear hm1
  go_wp2_with fail
  refine (C2.out _).mono ?_
  rintro e w2 ⟨rfl, hm2⟩
  have hb2 := below_drawn hb1 hm2
  clear hb1 hm2
  go_wp2_with fail
  refine (C3.out _).mono ?_
  rintro e w3 ⟨rfl, hm3⟩
  have hb3 := below_drawn hb2 hm3
  clear hb2 hm3
  go_wp2_with fail
  refine (C4.out _).mono ?_
  rintro e w4 ⟨rfl, hm4⟩
  have hb4 := below_drawn hb3 hm4
  clear hb3 hm4
  go_wp2_with fail
  refine (same_any a b _ ha hb).mono ?_
  rintro e w5 ⟨rfl, hm5⟩
  rw [hsame.out]
  have hb5 := below_drawn hb4 hm5
  clear hb4 hm5
  go_wp2_with fail
  refine (C5.out _).mono ?_
  rintro e w6 ⟨rfl, hm6⟩
  rw [hself.out]
  have hb6 := below_drawn hb5 hm6
  clear hb5 hm6
  have hcase : (¬ x ≤ 0) ∨ (x ≤ 0 ∧ ¬ y ≤ 0) ∨ (x ≤ 0 ∧ y ≤ 0 ∧ ¬ 0 < z ∧ (z == 0) = false) ∨ (x = 0 ∧ y = 0 ∧ z = 0) := by
    by_cases h1 : x ≤ 0
    · by_cases h2 : y ≤ 0
      · have h3 := HT.out h1 h2
        by_cases h4 : z = 0
        · have h5 := h3.2 h4
          simp [h4, h5]
        · simp [h1, h2, h4]; omega
      · simp [h1]; omega
    · simp; omega
  rcases hcase with h1 | ⟨h1, h2⟩ | ⟨h1, h2, h3, h4⟩ | ⟨rfl, rfl, rfl⟩
  all_goals
    clear HT C1 C2 C3 C4 C5 hself hsame
    go_wp2_with fail
    refine (C6.out _).mono ?_
    rintro e w7 ⟨rfl, hm7⟩
    have hb7 := below_drawn hb6 hm7
    clear hb6 hm7
    have k1 : (n : Int) ≤ (a.size : Int) := by have := K1.out; omega
    have k2 : (n : Int) ≤ (b.size : Int) := by have := K1.out; omega
    have k3 : n ≤ a.size := by omega
    have k4 : n ≤ b.size := by omega
    have S1 : Hid ((a.extract 0 n).size ≤ 9223372036854775807) := by unfold Hid; rw [ByteArray.size_extract]; omega
    have S2 : Hid ((b.extract 0 n).size ≤ 9223372036854775807) := by unfold Hid; rw [ByteArray.size_extract]; omega
    have sm := fun w => same_any (a.extract 0 n) (b.extract 0 n) w S1.out S2.out
    simp only [K3.out] at sm
    have SM := Lib.hid sm
    clear sm
    go_wp2_with fail
    refine wp_region_kept (by kernel_rfl) (by kernel_rfl) ?_
    repeat (quiet_step (first
      | (go_at_call 16; exact Calls.kept_drew (C7.out _))
      | (go_at_call 13; exact Calls.kept_drew (SM.out _))
      | (go_at_call 8; exact Calls.kept_of (folds_any _) (Nat.le_refl _))))
    refine wpQuiet_nil ?_
    intro _ hw'
    obtain ⟨kk, rfl⟩ := hw'
    have hb8 := hb7.trans (kk.below.mono hb7.size)
    go_wp2
    go_ret
    exact ⟨rfl, hb8⟩
end Go.Proofs.Ytnalcchgfcajiaa.Fold
