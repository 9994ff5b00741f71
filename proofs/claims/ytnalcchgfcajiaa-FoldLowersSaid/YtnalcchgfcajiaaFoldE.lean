/- The walks of the statements FoldLowers, FoldLabels, FoldPairs, FoldTwice. -/
import Derived.Test.YtnalcchgfcajiaaFoldD
namespace Go.Proofs.Ytnalcchgfcajiaa.Fold
open Go.RowKit
set_option linter.unusedVariables false

theorem below_drawn {B : Nat} {a w w' : World} (h : Below B a w) (hm : ∃ m, w' = w.drewN m) : Below B a w' := by
  obtain ⟨m, rfl⟩ := hm
  exact below_drewN h m

set_option maxRecDepth 100000 in
theorem folds_any (w : World) : Calls Try.prog 8 #[] w fun e w' => e = .returned (.bool true) ∧ Below w.heap.size w w' := by
  have f1 := Lib.hid (show lowS ⟨#[65, 98, 45, 90]⟩ = ⟨#[97, 98, 45, 122]⟩ by rfl)
  have f2 := Lib.hid (show labS ⟨#[97, 32, 98]⟩ = 20 by rfl)
  have f3 := Lib.hid (show labS ⟨#[97]⟩ = 0 by rfl)
  have f4 := Lib.hid (show cmpS ⟨#[66]⟩ ⟨#[97]⟩ = 1 by rfl)
  have f5 := Lib.hid (show sameS ⟨#[97, 66]⟩ ⟨#[65, 98]⟩ = true by rfl)
  have f6 := Lib.hid (show comS ⟨#[97, 66, 99]⟩ ⟨#[65, 98, 100]⟩ = 2 by rfl)
  go_enter Try.func8, Try.ntmps8
  go_wp2_with fail
  refine (lower_any _ _ (by decide)).mono ?_
  rintro e w1 ⟨rfl, hb1⟩
  rw [f1.out]
  go_wp2_with fail
  refine (label_any _ _).mono ?_
  rintro e w2 ⟨rfl, hb2⟩
  rw [f2.out]
  have hb3 := hb1.trans (hb2.mono hb1.size)
  clear hb1 hb2
  go_wp2_with fail
  refine (label_any _ _).mono ?_
  rintro e w3 ⟨rfl, hb4⟩
  rw [f3.out]
  have hb5 := hb3.trans (hb4.mono hb3.size)
  clear hb3 hb4
  go_wp2_with fail
  refine (compare_any _ _ _ (by decide) (by decide)).mono ?_
  rintro e w4 ⟨rfl, hm4⟩
  rw [f4.out]
  have hb6 := below_drawn hb5 hm4
  clear hb5 hm4
  go_wp2_with fail
  refine (same_any _ _ _ (by decide) (by decide)).mono ?_
  rintro e w5 ⟨rfl, hm5⟩
  rw [f5.out]
  have hb7 := below_drawn hb6 hm5
  clear hb6 hm5
  go_wp2_with fail
  refine (common_any _ _ _ (by decide) (by decide)).mono ?_
  rintro e w6 ⟨rfl, hm6⟩
  rw [f6.out]
  have hb8 := below_drawn hb7 hm6
  clear hb7 hm6
  go_wp2
  go_ret
  exact ⟨rfl, hb8⟩

theorem foldLowers_walk (s : ByteArray) (w : World) (hs : s.size ≤ 9223372036854775807) :
    Calls Try.prog 3 #[.string s] w fun e w' => e = .returned (.bool true) ∧ Below w.heap.size w w' := by
  by_cases hl : 3000 < (s.size : Int)
  · go_enter Try.func3, Try.ntmps3
    go_wp2_with (go_at_call 8; refine (folds_any _).mono ?_; rintro e w' ⟨rfl, hb⟩)
    go_ret
    exact ⟨rfl, hb⟩
  · go_enter Try.func3, Try.ntmps3
    go_wp2_with fail
    refine (lower_any s _ hs).mono ?_
    rintro e w1 ⟨rfl, hb1⟩
    go_wp2_with fail
    refine (refLower_any s _ (by omega)).mono ?_
    rintro e w2 ⟨rfl, hb2⟩
    have hb3 := hb1.trans (hb2.mono hb1.size)
    clear hb1 hb2
    go_wp2_with (go_at_call 8; refine (folds_any _).mono ?_; rintro e w' ⟨rfl, hb⟩)
    go_ret
    exact ⟨rfl, hb3.trans (hb.mono hb3.size)⟩

theorem foldLabels_walk (s : ByteArray) (w : World) (hs : s.size ≤ 9223372036854775807) :
    Calls Try.prog 4 #[.string s] w fun e w' => e = .returned (.bool true) ∧ Below w.heap.size w w' := by
  by_cases hl : 3000 < (s.size : Int)
  · go_enter Try.func4, Try.ntmps4
    go_wp2_with (go_at_call 8; refine (folds_any _).mono ?_; rintro e w' ⟨rfl, hb⟩)
    go_ret
    exact ⟨rfl, hb⟩
  · go_enter Try.func4, Try.ntmps4
    go_wp2_with fail
    refine (label_any s _).mono ?_
    rintro e w1 ⟨rfl, hb1⟩
    go_wp2_with fail
    refine (refLabel_any s _).mono ?_
    rintro e w2 ⟨rfl, rfl⟩
    go_wp2_with (go_at_call 8; refine (folds_any _).mono ?_; rintro e w' ⟨rfl, hb⟩)
    go_ret
    exact ⟨rfl, hb1.trans (hb.mono hb1.size)⟩

theorem foldPairs_walk (a b : ByteArray) (w : World) (ha : a.size ≤ 9223372036854775807) (hb0 : b.size ≤ 9223372036854775807) :
    Calls Try.prog 5 #[.string a, .string b] w fun e w' => e = .returned (.bool true) ∧ Below w.heap.size w w' := by
  by_cases hl : 3000 < (a.size : Int)
  · go_enter Try.func5, Try.ntmps5
    go_wp2_with (go_at_call 8; refine (folds_any _).mono ?_; rintro e w' ⟨rfl, hb⟩)
    go_ret
    exact ⟨rfl, hb⟩
  · by_cases hl2 : 3000 < (b.size : Int)
    · go_enter Try.func5, Try.ntmps5
      go_wp2_with (go_at_call 8; refine (folds_any _).mono ?_; rintro e w' ⟨rfl, hb⟩)
      go_ret
      exact ⟨rfl, hb⟩
    · have HQ := Lib.hid (show ((lowS a).toList == (lowS b).toList) = sameS a b by rw [str_beq, bs_lowS, bs_lowS]; rfl)
      go_enter Try.func5, Try.ntmps5
      go_wp2_with fail
      refine (same_any a b _ ha hb0).mono ?_
      rintro e w1 ⟨rfl, hm1⟩
      have hb1 := below_drawn (Below.refl w.heap.size w) hm1
      clear hm1
      go_wp2_with fail
      refine (refLower_any a _ (by omega)).mono ?_
      rintro e w2 ⟨rfl, hb2⟩
      have hb3 := hb1.trans (hb2.mono hb1.size)
      clear hb1 hb2
      go_wp2_with fail
      refine (refLower_any b _ (by omega)).mono ?_
      rintro e w3 ⟨rfl, hb4⟩
      have hb5 := hb3.trans (hb4.mono hb3.size)
      clear hb3 hb4
      have hq := HQ.out
      obtain ⟨q, hq2⟩ : ∃ q, q = sameS a b := ⟨_, rfl⟩
      rw [← hq2] at hq ⊢
      clear hq2 HQ
      go_wp2_with fail
      refine (compare_any a b _ ha hb0).mono ?_
      rintro e w4 ⟨rfl, hm4⟩
      have hb6 := below_drawn hb5 hm4
      clear hb5 hm4 hq
      go_wp2_with fail
      refine (refCompare_any a b _ ha hb0).mono ?_
      rintro e w5 ⟨rfl, hm5⟩
      have hb7 := below_drawn hb6 hm5
      clear hb6 hm5
      go_wp2_with fail
      refine (common_any a b _ ha hb0).mono ?_
      rintro e w6 ⟨rfl, hm6⟩
      have hb8 := below_drawn hb7 hm6
      clear hb7 hm6
      go_wp2_with fail
      refine (refCommon_any a b _ ha hb0).mono ?_
      rintro e w7 ⟨rfl, hm7⟩
      have hb9 := below_drawn hb8 hm7
      clear hb8 hm7
      go_wp2_with (go_at_call 8; refine (folds_any _).mono ?_; rintro e w' ⟨rfl, hb⟩)
      go_ret
      exact ⟨rfl, hb9.trans (hb.mono hb9.size)⟩

theorem cmpS_same (a b : ByteArray) : cmpS a b = 0 ↔ sameS a b = true := by
  unfold cmpS sameS sameB
  rw [cmp_zero, beq_iff_eq]
theorem sameS_low (s : ByteArray) : sameS s (lowS s) = true := by
  unfold sameS sameB
  rw [bs_lowS, low_low, beq_self_eq_true]
theorem comS_low (s : ByteArray) : comS s (lowS s) = s.size := by
  have := (com_same (bs s) (bs (lowS s))).2 (by rw [bs_lowS, low_low])
  rw [bs_length] at this
  exact this.2
theorem labS_low (s : ByteArray) : labS (lowS s) = labS s := by unfold labS; rw [bs_lowS, lab_low]

theorem foldTwice_walk (s : ByteArray) (w : World) (hs : s.size ≤ 9223372036854775807) :
    Calls Try.prog 6 #[.string s] w fun e w' => e = .returned (.bool true) ∧ Below w.heap.size w w' := by
  by_cases hl : 3000 < (s.size : Int)
  · go_enter Try.func6, Try.ntmps6
    go_wp2_with (go_at_call 8; refine (folds_any _).mono ?_; rintro e w' ⟨rfl, hb⟩)
    go_ret
    exact ⟨rfl, hb⟩
  · have HL := Lib.hid (lower_any s w hs)
    have f1 := Lib.hid (lowS_lowS s)
    have f2 := Lib.hid (lowS_size s)
    have f3 := Lib.hid (sameS_low s)
    have f4 := Lib.hid ((cmpS_same _ _).2 (sameS_low s))
    have f5 := Lib.hid (comS_low s)
    have f6 := Lib.hid (labS_low s)
    obtain ⟨T, hT⟩ : ∃ T, T = lowS s := ⟨_, rfl⟩
    rw [← hT] at HL f1 f2 f3 f4 f5 f6
    clear hT
    go_enter Try.func6, Try.ntmps6
    go_wp2_with fail
    refine HL.out.mono ?_
    rintro e w1 ⟨rfl, hb1⟩
    have hTs : T.size ≤ 9223372036854775807 := by rw [f2.out]; exact hs
    go_wp2_with fail
    refine (lower_any T _ hTs).mono ?_
    rintro e w2 ⟨rfl, hb2⟩
    rw [f1.out]
    have hb3 := hb1.trans (hb2.mono hb1.size)
    clear hb1 hb2
    have h2 : ((T.size : Int) == (s.size : Int)) = true := by rw [beq_iff_eq, f2.out]
    go_wp2_with fail
    refine (same_any s T _ hs hTs).mono ?_
    rintro e w3 ⟨rfl, hm3⟩
    rw [f3.out]
    have hb4 := below_drawn hb3 hm3
    clear hb3 hm3 h2
    go_wp2_with fail
    refine (compare_any s T _ hs hTs).mono ?_
    rintro e w4 ⟨rfl, hm4⟩
    rw [f4.out]
    have hb5 := below_drawn hb4 hm4
    clear hb4 hm4
    go_wp2_with fail
    refine (common_any s T _ hs hTs).mono ?_
    rintro e w5 ⟨rfl, hm5⟩
    rw [f5.out]
    have hb6 := below_drawn hb5 hm5
    clear hb5 hm5
    go_wp2_with fail
    refine (label_any s _).mono ?_
    rintro e w6 ⟨rfl, hb7⟩
    have hb8 := hb6.trans (hb7.mono hb6.size)
    clear hb6 hb7
    go_wp2_with fail
    refine (label_any T _).mono ?_
    rintro e w7 ⟨rfl, hb9⟩
    rw [f6.out]
    have hb10 := hb8.trans (hb9.mono hb8.size)
    clear hb8 hb9
    go_wp2_with (go_at_call 8; refine (folds_any _).mono ?_; rintro e w' ⟨rfl, hb⟩)
    go_ret
    exact ⟨rfl, hb10.trans (hb.mono hb10.size)⟩
end Go.Proofs.Ytnalcchgfcajiaa.Fold
