/- Contracts of fold's Common, Same. -/
import Derived.Test.YthnlcfnfbilbdaaDoorFoldA
namespace Go.Proofs.YthnlcfnfbilbdaaDoor.Fold
open Go.RowKit
set_option linter.unusedVariables false

/-- With how many bytes two texts begin. -/
def comS (a b : ByteArray) : Nat := com (bs a) (bs b)
theorem comS_le (a b : ByteArray) : comS a b ≤ a.size ∧ comS a b ≤ b.size := by
  have := com_le (bs a) (bs b)
  rw [bs_length, bs_length] at this
  exact this

theorem lowered_q (c : Int) (w : World) (h0 : 0 ≤ c) (h1 : c < 256) :
    Calls Tryd.prog 33 #[.int .u8 c] w fun e w' => e = .returned (.int .u8 (lw c)) ∧ w' = w :=
  (lowered_any c w h0 h1).mono fun _ _ ⟨a, b⟩ => ⟨a, b.symm⟩
theorem refLow_q (c : Int) (w : World) (h0 : 0 ≤ c) (h1 : c < 256) :
    Calls Tryd.prog 34 #[.int .u8 c] w fun e w' => e = .returned (.int .u8 (lw c)) ∧ w' = w :=
  (refLow_any c w h0 h1).mono fun _ _ ⟨a, b⟩ => ⟨a, b.symm⟩

theorem drewN_more {w wr : World} (h : ∃ m, wr = w.drewN m) (n : Nat) : ∃ m, wr.drewN n = w.drewN m := by
  obtain ⟨m, rfl⟩ := h
  exact ⟨m + n, World.drewN_drewN _ _ _⟩

/-- What a round of Common finds. -/
theorem com_step {a b : ByteArray} {k : Nat} (h1 : k < a.size) (h2 : k < b.size) (hk : com ((bs a).drop k) ((bs b).drop k) + k = comS a b) :
    (lw (a[k]'h1).toNat = lw (b[k]'h2).toNat → com ((bs a).drop (k + 1)) ((bs b).drop (k + 1)) + (k + 1) = comS a b) ∧ (¬ lw (a[k]'h1).toNat = lw (b[k]'h2).toNat → k = comS a b) := by
  rw [com_cons _ _ _ (by rw [bs_length]; exact h1) (by rw [bs_length]; exact h2), bs_getD a k h1, bs_getD b k h2] at hk
  constructor
  · intro h
    rw [if_pos h] at hk
    omega
  · intro h
    rw [if_neg h] at hk
    omega
theorem com_last {a b : ByteArray} {k : Nat} (h : a.size ≤ k ∨ b.size ≤ k) (hk : com ((bs a).drop k) ((bs b).drop k) + k = comS a b) : k = comS a b := by
  rw [com_end _ _ _ (by rw [bs_length, bs_length]; exact h)] at hk
  omega

set_option maxRecDepth 100000 in
theorem common_any (a b : ByteArray) (w : World) (ha : a.size ≤ 9223372036854775807) (hb : b.size ≤ 9223372036854775807) :
    Calls Tryd.prog 41 #[.string a, .string b] w fun e w' => e = .returned (.int .i64 (comS a b)) ∧ ∃ m, w' = w.drewN m := by
  go_enter Tryd.func41, Tryd.ntmps41
  go_wp2
  all_goals
    go_loopw [13] (fun i wr => ∃ k : Nat, k ≤ a.size ∧ k ≤ b.size ∧ i = .int .i64 k ∧ Hid (com ((bs a).drop k) ((bs b).drop k) + k = comS a b) ∧ Hid (∃ m, wr = w.drewN m)) (fun i _ => a.size - (intOf i).toNat)
    case atStart => exact ⟨0, Nat.zero_le _, Nat.zero_le _, rfl, by unfold Hid; simp [comS], 0, rfl⟩
    case round =>
      obtain ⟨k, hk1, hk2, rfl, HC, HW⟩ := hrel
      by_cases hlt : k < a.size ∧ k < b.size
      · obtain ⟨l1, l2⟩ := hlt
        have i1 : (k : Int) < (a.size : Int) := by omega
        have i2 : (k : Int) < (b.size : Int) := by omega
        have x1 : ((a[k]'l1).toNat : Int) < 256 := by have := (a[k]'l1).toNat_lt; omega
        have x2 : ((b[k]'l2).toNat : Int) < 256 := by have := (b[k]'l2).toNat_lt; omega
        obtain ⟨s1, s2⟩ := com_step l1 l2 HC.out
        by_cases he : lw (a[k]'l1).toNat = lw (b[k]'l2).toNat
        · have S := Lib.hid (s1 he)
          have hb : (lw (a[k]'l1).toNat != lw (b[k]'l2).toNat) = false := by simpa using he
          clear s1 s2 he
          go_wp2_with fail
          go_quiet ((go_at_call 33; exact Calls.quiet_of_same (lowered_q _ _ (by omega) (by omega))))
          go_wp2
          go_roundw
          case rel => exact ⟨k + 1, by omega, by omega, by go_num, S, drewN_more HW.out _⟩
          case measure => simp [intOf]; omega
        · have S := Lib.hid (s2 he)
          have hb : (lw (a[k]'l1).toNat != lw (b[k]'l2).toNat) = true := by simpa using he
          clear s1 s2 he
          go_wp2_with fail
          go_quiet ((go_at_call 33; exact Calls.quiet_of_same (lowered_q _ _ (by omega) (by omega))))
          go_wp2
          go_ret
          exact ⟨ret_int (by rw [← S.out]), drewN_more HW.out _⟩
      · have S := Lib.hid (com_last (by omega) HC.out)
        first
          | (have hge : ¬ ((k : Int) < (a.size : Int)) := by omega
             have hM : a.size = k := by omega
             rw [hM]
             go_wp2
             go_ret
             exact ⟨ret_int (by rw [← S.out]), HW.out⟩)
          | (have hge : ¬ ((k : Int) < (b.size : Int)) := by omega
             go_wp2
             go_ret
             exact ⟨ret_int (by rw [← S.out]; omega), HW.out⟩)
def sameS (a b : ByteArray) : Bool := sameB (bs a) (bs b)
theorem sameS_com (a b : ByteArray) : sameS a b = (decide (a.size = b.size) && decide (comS a b = a.size)) := by
  have := sameB_com (bs a) (bs b)
  rw [bs_length, bs_length] at this
  exact this

theorem same_any (a b : ByteArray) (w : World) (ha : a.size ≤ 9223372036854775807) (hb : b.size ≤ 9223372036854775807) :
    Calls Tryd.prog 30 #[.string a, .string b] w fun e w' => e = .returned (.bool (sameS a b)) ∧ ∃ m, w' = w.drewN m := by
  have HS := Lib.hid (sameS_com a b)
  by_cases h : a.size = b.size
  · have h1 : ((a.size : Int) == (b.size : Int)) = true := by rw [beq_iff_eq]; omega
    have H := Lib.hid h
    clear h
    go_enter Tryd.func30, Tryd.ntmps30
    go_wp2_with (go_at_call 41; refine (common_any _ _ _ ha hb).mono ?_; rintro e w1 ⟨rfl, hm⟩; have HM := Lib.hid hm; clear hm)
    go_ret
    exact ⟨ret_bool (by rw [HS.out, Bool.eq_iff_iff]; have := H.out; simp; omega), HM.out⟩
  · have h1 : ((a.size : Int) == (b.size : Int)) = false := by rw [beq_eq_false_iff_ne]; omega
    have H := Lib.hid h
    clear h
    go_enter Tryd.func30, Tryd.ntmps30
    go_wp2
    go_ret
    exact ⟨ret_bool (by rw [HS.out, Bool.eq_iff_iff]; have := H.out; simp [this]), 0, rfl⟩

end Go.Proofs.YthnlcfnfbilbdaaDoor.Fold
