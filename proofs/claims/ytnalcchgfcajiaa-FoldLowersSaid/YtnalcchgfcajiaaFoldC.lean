/- Contracts of the document's Common, of Same, Compare, and the document's. -/
import Derived.Test.YtnalcchgfcajiaaFoldB
namespace Go.Proofs.Ytnalcchgfcajiaa.Fold
open Go.RowKit
set_option linter.unusedVariables false

set_option maxRecDepth 100000 in
theorem refCommon_any (a b : ByteArray) (w : World) (ha : a.size ≤ 9223372036854775807) (hb : b.size ≤ 9223372036854775807) :
    Calls Try.prog 17 #[.string a, .string b] w fun e w' => e = .returned (.int .i64 (comS a b)) ∧ ∃ m, w' = w.drewN m := by
  go_enter Try.func17, Try.ntmps17
  go_wp2
  go_loopw [5] (fun i wr => ∃ k : Nat, k ≤ a.size ∧ k ≤ b.size ∧ i = .int .i64 k ∧ Hid (com ((bs a).drop k) ((bs b).drop k) + k = comS a b) ∧ Hid (∃ m, wr = w.drewN m)) (fun i _ => a.size - (intOf i).toNat)
  case atStart => exact ⟨0, Nat.zero_le _, Nat.zero_le _, rfl, by unfold Hid; simp [comS], 0, rfl⟩
  case round =>
    obtain ⟨k, hk1, hk2, rfl, HC, HW⟩ := hrel
    by_cases l1 : k < a.size
    · have i1 : (k : Int) < (a.size : Int) := by omega
      have d1 : decide (k < a.size) = true := by simpa using l1
      by_cases l2 : k < b.size
      · have i2 : (k : Int) < (b.size : Int) := by omega
        have d2 : decide (k < b.size) = true := by simpa using l2
        have x1 : ((a[k]'l1).toNat : Int) < 256 := by have := (a[k]'l1).toNat_lt; omega
        have x2 : ((b[k]'l2).toNat : Int) < 256 := by have := (b[k]'l2).toNat_lt; omega
        obtain ⟨s1, s2⟩ := com_step l1 l2 HC.out
        by_cases he : lw (a[k]'l1).toNat = lw (b[k]'l2).toNat
        · have S := Lib.hid (s1 he)
          have hb : (lw (a[k]'l1).toNat == lw (b[k]'l2).toNat) = true := by simpa using he
          clear s1 s2 he
          go_wp2_with fail
          go_quiet ((go_at_call 19; exact Calls.quiet_of_same (refLow_q _ _ (by omega) (by omega))))
          go_wp2
          go_roundw
          case rel => exact ⟨k + 1, by omega, by omega, by go_num, S, drewN_more HW.out _⟩
          case measure => simp [intOf]; omega
        · have S := Lib.hid (s2 he)
          have hb : (lw (a[k]'l1).toNat == lw (b[k]'l2).toNat) = false := by simpa using he
          clear s1 s2 he
          go_wp2_with fail
          go_quiet ((go_at_call 19; exact Calls.quiet_of_same (refLow_q _ _ (by omega) (by omega))))
          go_wp2
          go_ret
          exact ⟨ret_int (by rw [← S.out]), drewN_more HW.out _⟩
      · have i2 : ¬ (k : Int) < (b.size : Int) := by omega
        have d2 : decide (k < b.size) = false := by simpa using l2
        have S := Lib.hid (com_last (by omega) HC.out)
        go_wp2_with fail
        go_quiet (fail)
        go_wp2
        go_ret
        exact ⟨ret_int (by rw [← S.out]), drewN_more HW.out _⟩
    · have i1 : ¬ (k : Int) < (a.size : Int) := by omega
      have d1 : decide (k < a.size) = false := by simpa using l1
      have S := Lib.hid (com_last (by omega) HC.out)
      go_wp2_with fail
      go_quiet (fail)
      go_wp2
      go_ret
      exact ⟨ret_int (by rw [← S.out]), drewN_more HW.out _⟩

def sameS (a b : ByteArray) : Bool := sameB (bs a) (bs b)
theorem sameS_com (a b : ByteArray) : sameS a b = (decide (a.size = b.size) && decide (comS a b = a.size)) := by
  have := sameB_com (bs a) (bs b)
  rw [bs_length, bs_length] at this
  exact this

theorem same_any (a b : ByteArray) (w : World) (ha : a.size ≤ 9223372036854775807) (hb : b.size ≤ 9223372036854775807) :
    Calls Try.prog 13 #[.string a, .string b] w fun e w' => e = .returned (.bool (sameS a b)) ∧ ∃ m, w' = w.drewN m := by
  have HS := Lib.hid (sameS_com a b)
  by_cases h : a.size = b.size
  · have h1 : ((a.size : Int) == (b.size : Int)) = true := by rw [beq_iff_eq]; omega
    have H := Lib.hid h
    clear h
    go_enter Try.func13, Try.ntmps13
    go_wp2_with (go_at_call 16; refine (common_any _ _ _ ha hb).mono ?_; rintro e w1 ⟨rfl, hm⟩; have HM := Lib.hid hm; clear hm)
    go_ret
    exact ⟨ret_bool (by rw [HS.out, Bool.eq_iff_iff]; have := H.out; simp; omega), HM.out⟩
  · have h1 : ((a.size : Int) == (b.size : Int)) = false := by rw [beq_eq_false_iff_ne]; omega
    have H := Lib.hid h
    clear h
    go_enter Try.func13, Try.ntmps13
    go_wp2
    go_ret
    exact ⟨ret_bool (by rw [HS.out, Bool.eq_iff_iff]; have := H.out; simp [this]), 0, rfl⟩

def cmpS (a b : ByteArray) : Int := cmpL (bs a) (bs b)
theorem cmpS_com (a b : ByteArray) : cmpS a b = if comS a b < a.size ∧ comS a b < b.size then cmp3 (lw ((bs a).getD (comS a b) 0)) (lw ((bs b).getD (comS a b) 0)) else cmp3 a.size b.size := by
  have := cmp_com (bs a) (bs b)
  rw [bs_length, bs_length] at this
  exact this

theorem cmp8_q (x y : Int) (w : World) :
    Calls Try.prog 23 #[.int .u8 x, .int .u8 y] w fun e w' => e = .returned (.int .i64 (cmp3 x y)) ∧ w' = w :=
  (cmp8_any x y w).mono fun _ _ ⟨a, b⟩ => ⟨a, b.symm⟩

set_option maxRecDepth 100000 in
theorem compare_any (a b : ByteArray) (w : World) (ha : a.size ≤ 9223372036854775807) (hb : b.size ≤ 9223372036854775807) :
    Calls Try.prog 14 #[.string a, .string b] w fun e w' => e = .returned (.int .i64 (cmpS a b)) ∧ ∃ m, w' = w.drewN m := by
  have HS := cmpS_com a b
  have hle := comS_le a b
  have HC := Lib.hid (common_any a b w ha hb)
  obtain ⟨n, hn⟩ : ∃ n, n = comS a b := ⟨_, rfl⟩
  rw [← hn] at HS hle HC
  clear hn
  obtain ⟨hle1, hle2⟩ := hle
  by_cases h1 : n < a.size
  · by_cases h2 : n < b.size
    · rw [if_pos ⟨h1, h2⟩, bs_getD a n h1, bs_getD b n h2] at HS
      have H := Lib.hid HS
      clear HS
      have i1 : (n : Int) < (a.size : Int) := by omega
      have i2 : (n : Int) < (b.size : Int) := by omega
      have x1 : ((a[n]'h1).toNat : Int) < 256 := by have := (a[n]'h1).toNat_lt; omega
      have x2 : ((b[n]'h2).toNat : Int) < 256 := by have := (b[n]'h2).toNat_lt; omega
      go_enter Try.func14, Try.ntmps14
      go_wp2_with (go_at_call 16; refine HC.out.mono ?_; rintro e w1 ⟨rfl, hm⟩; have HM := Lib.hid hm; clear hm)
      go_quiet ((first | (go_at_call 18; exact Calls.quiet_of_same (lowered_q _ _ (by omega) (by omega))) | (go_at_call 23; exact Calls.quiet_of_same (cmp8_q _ _ _))))
      go_wp2
      go_ret
      exact ⟨ret_int H.out.symm, drewN_more HM.out _⟩
    · rw [if_neg (by omega)] at HS
      have H := Lib.hid HS
      clear HS
      have i1 : (n : Int) < (a.size : Int) := by omega
      have i2 : ¬ (n : Int) < (b.size : Int) := by omega
      go_enter Try.func14, Try.ntmps14
      go_wp2_with (first | (go_at_call 16; refine HC.out.mono ?_; rintro e w1 ⟨rfl, hm⟩; have HM := Lib.hid hm; clear hm) | (go_at_call 24; refine (cmpI_any _ _ _).mono ?_; rintro e w' ⟨rfl, rfl⟩))
      go_ret
      exact ⟨ret_int H.out.symm, HM.out⟩
  · rw [if_neg (by omega)] at HS
    have H := Lib.hid HS
    clear HS
    have i1 : ¬ (n : Int) < (a.size : Int) := by omega
    go_enter Try.func14, Try.ntmps14
    go_wp2_with (first | (go_at_call 16; refine HC.out.mono ?_; rintro e w1 ⟨rfl, hm⟩; have HM := Lib.hid hm; clear hm) | (go_at_call 24; refine (cmpI_any _ _ _).mono ?_; rintro e w' ⟨rfl, rfl⟩))
    go_ret
    exact ⟨ret_int H.out.symm, HM.out⟩

theorem cmp3_lt {x y : Int} (h : x < y) : cmp3 x y = -1 := by rw [cmp3, if_pos h]
theorem cmp3_gt {x y : Int} (h : y < x) : cmp3 x y = 1 := by rw [cmp3, if_neg (by omega), if_pos h]
theorem cmp3_eq {x y : Int} (h : x = y) : cmp3 x y = 0 := by rw [cmp3, if_neg (by omega), if_neg (by omega)]
theorem cmp_step {a b : ByteArray} {k : Nat} (h1 : k < a.size) (h2 : k < b.size) (hk : cmpL ((bs a).drop k) ((bs b).drop k) = cmpS a b) :
    (if lw (a[k]'h1).toNat < lw (b[k]'h2).toNat then -1 else if lw (b[k]'h2).toNat < lw (a[k]'h1).toNat then 1 else cmpL ((bs a).drop (k + 1)) ((bs b).drop (k + 1))) = cmpS a b := by
  rw [cmp_cons _ _ _ (by rw [bs_length]; exact h1) (by rw [bs_length]; exact h2), bs_getD a k h1, bs_getD b k h2] at hk
  exact hk
theorem cmp_last {a b : ByteArray} {k : Nat} (h1 : k ≤ a.size) (h2 : k ≤ b.size) (h : a.size ≤ k ∨ b.size ≤ k) (hk : cmpL ((bs a).drop k) ((bs b).drop k) = cmpS a b) : cmp3 a.size b.size = cmpS a b := by
  rw [cmp_end _ _ _ (by rw [bs_length]; exact h1) (by rw [bs_length]; exact h2) (by rw [bs_length, bs_length]; exact h), bs_length, bs_length] at hk
  exact hk

set_option maxRecDepth 100000 in
theorem refCompare_any (a b : ByteArray) (w : World) (ha : a.size ≤ 9223372036854775807) (hb : b.size ≤ 9223372036854775807) :
    Calls Try.prog 15 #[.string a, .string b] w fun e w' => e = .returned (.int .i64 (cmpS a b)) ∧ ∃ m, w' = w.drewN m := by
  go_enter Try.func15, Try.ntmps15
  go_wp2
  go_loopw [5] (fun i wr => ∃ k : Nat, k ≤ a.size ∧ k ≤ b.size ∧ i = .int .i64 k ∧ Hid (cmpL ((bs a).drop k) ((bs b).drop k) = cmpS a b) ∧ Hid (∃ m, wr = w.drewN m)) (fun i _ => a.size - (intOf i).toNat)
  case atStart => exact ⟨0, Nat.zero_le _, Nat.zero_le _, rfl, by unfold Hid; simp [cmpS], 0, rfl⟩
  case round =>
    obtain ⟨k, hk1, hk2, rfl, HC, HW⟩ := hrel
    by_cases hlt : k < a.size ∧ k < b.size
    · obtain ⟨l1, l2⟩ := hlt
      have i1 : (k : Int) < (a.size : Int) := by omega
      have i2 : (k : Int) < (b.size : Int) := by omega
      have x1 : ((a[k]'l1).toNat : Int) < 256 := by have := (a[k]'l1).toNat_lt; omega
      have x2 : ((b[k]'l2).toNat : Int) < 256 := by have := (b[k]'l2).toNat_lt; omega
      have s1 := cmp_step l1 l2 HC.out
      by_cases he : lw (a[k]'l1).toNat < lw (b[k]'l2).toNat
      · rw [if_pos he] at s1
        have S := Lib.hid s1
        clear s1
        go_wp2_with fail
        go_quiet ((go_at_call 19; exact Calls.quiet_of_same (refLow_q _ _ (by omega) (by omega))))
        go_wp2
        go_ret
        exact ⟨ret_int S.out, drewN_more HW.out _⟩
      · rw [if_neg he] at s1
        by_cases he2 : lw (b[k]'l2).toNat < lw (a[k]'l1).toNat
        · rw [if_pos he2] at s1
          have S := Lib.hid s1
          clear s1
          go_wp2_with fail
          go_quiet ((go_at_call 19; exact Calls.quiet_of_same (refLow_q _ _ (by omega) (by omega))))
          obtain ⟨w1, hw1⟩ : ∃ w1, w1 = wr.drewN nq := ⟨_, rfl⟩
          rw [← hw1]
          have HW1 : Hid (∃ m, w1 = w.drewN m) := by rw [hw1]; exact drewN_more HW.out _
          clear hw1
          go_wp2_with fail
          go_quiet ((go_at_call 19; exact Calls.quiet_of_same (refLow_q _ _ (by omega) (by omega))))
          go_wp2
          go_ret
          exact ⟨ret_int S.out, drewN_more HW1.out _⟩
        · rw [if_neg he2] at s1
          have S := Lib.hid s1
          clear s1
          go_wp2_with fail
          go_quiet ((go_at_call 19; exact Calls.quiet_of_same (refLow_q _ _ (by omega) (by omega))))
          obtain ⟨w1, hw1⟩ : ∃ w1, w1 = wr.drewN nq := ⟨_, rfl⟩
          rw [← hw1]
          have HW1 : Hid (∃ m, w1 = w.drewN m) := by rw [hw1]; exact drewN_more HW.out _
          clear hw1
          go_wp2_with fail
          go_quiet ((go_at_call 19; exact Calls.quiet_of_same (refLow_q _ _ (by omega) (by omega))))
          go_wp2
          go_roundw
          case rel => exact ⟨k + 1, by omega, by omega, by go_num, S, drewN_more HW1.out _⟩
          case measure => simp [intOf]; omega
    · have S := Lib.hid (cmp_last hk1 hk2 (by omega) HC.out)
      by_cases l1 : k < a.size
      · have i1 : (k : Int) < (a.size : Int) := by omega
        have i2 : ¬ (k : Int) < (b.size : Int) := by omega
        have e1 : ¬ (a.size : Int) < (b.size : Int) := by omega
        have e2 : (b.size : Int) < (a.size : Int) := by omega
        clear hlt
        go_wp2
        go_ret
        exact ⟨ret_int ((cmp3_gt (by omega)).symm.trans S.out), HW.out⟩
      · have i1 : ¬ (k : Int) < (a.size : Int) := by omega
        clear hlt
        by_cases e1 : (a.size : Int) < (b.size : Int)
        · go_wp2
          go_ret
          exact ⟨ret_int ((cmp3_lt (by omega)).symm.trans S.out), HW.out⟩
        · have e2 : ¬ (b.size : Int) < (a.size : Int) := by omega
          go_wp2
          go_ret
          exact ⟨ret_int ((cmp3_eq (by omega)).symm.trans S.out), HW.out⟩
end Go.Proofs.Ytnalcchgfcajiaa.Fold
