/- Contracts of fold's Label and the document's. -/
import Derived.Test.YtjhmjimfehanbaaFoldA
namespace Go.Proofs.Ytjhmjimfehanbaa.Fold
open Go.RowKit
set_option linter.unusedVariables false

/-- What the test of Label says of a rune. -/
theorem holds_any (r : Int) (w : World) :
    Calls Try.prog 35 #[.int .i32 r] w fun e w' => e = .returned (.bool (good r)) ∧ w = w' := by
  by_cases h : 33 ≤ r ∧ r ≤ 126
  · have f := Lib.hid (show wth r 33 126 = true by simp [wth, h])
    have g := Lib.hid (show good r = (r != 46) by rw [Bool.eq_iff_iff]; simp [good, h])
    clear h
    go_enter Try.func35, Try.ntmps35
    go_wp2_with (go_at_call 36; refine (within_any _ _ _ _).mono ?_; rintro e w' ⟨rfl, rfl⟩; rw [f.out])
    go_ret
    exact ⟨ret_bool (by rw [g.out]), rfl⟩
  · have f := Lib.hid (show wth r 33 126 = false by simp [wth]; omega)
    have g := Lib.hid (show good r = false by simp [good]; omega)
    clear h
    go_enter Try.func35, Try.ntmps35
    go_wp2_with (go_at_call 36; refine (within_any _ _ _ _).mono ?_; rintro e w' ⟨rfl, rfl⟩; rw [f.out])
    go_ret
    exact ⟨ret_bool g.out.symm, rfl⟩

/-- What a round of the range over a text finds. -/
theorem good_rune {s : ByteArray} {k : Nat} (h : k < s.size) :
    (good (s[k]'h).toNat = true → good (Utf8.decode s k).1 = true ∧ (Utf8.decode s k).2 = 1) ∧ (good (s[k]'h).toNat = false → good (Utf8.decode s k).1 = false) := by
  by_cases ha : (s[k]'h).toNat < 128
  · rw [decode_ascii s k h ha]
    exact ⟨fun g => ⟨g, rfl⟩, fun g => g⟩
  · have e : good (s[k]'h).toNat = false := by simp [good]; omega
    have := (decode_high s k h (by omega)).1
    exact ⟨fun g => by rw [e] at g; exact absurd g (by simp), fun _ => by simp [good]; omega⟩
theorem all_step {s : ByteArray} {k : Nat} (h : k < s.size) : ((bs s).drop k).all good = (good (s[k]'h).toNat && ((bs s).drop (k + 1)).all good) := by
  rw [List.drop_eq_getElem_cons (by rw [bs_length]; exact h), List.all_cons]
  have := bs_getD s k h
  rw [List.getD, List.getElem?_eq_getElem (by rw [bs_length]; exact h), Option.getD_some] at this
  rw [this]
theorem all_last {s : ByteArray} {k : Nat} (h : ¬ k < s.size) : ((bs s).drop k).all good = true := by
  rw [List.drop_eq_nil_of_le (by rw [bs_length]; omega)]
  rfl

theorem below_iter {B : Nat} {w : World} (hB : B ≤ w.heap.size) (s : ByteArray) (p : Nat) : Below B w (w.iter s p) := (Below.refl B w).alloc hB _

set_option maxRecDepth 100000 in
theorem every_any (s : ByteArray) (w : World) :
    Calls Try.prog 34 #[.string s, .func (.func 35) #[] #[]] w fun e w' => e = .returned (.bool ((bs s).all good)) ∧ Below w.heap.size w w' := by
  go_enter Try.func34, Try.ntmps34
  go_wp2
  go_loopw [6] (fun _ wr => ∃ pos, wr = w.iter s pos ∧ Hid (((bs s).drop pos).all good = (bs s).all good)) (fun _ w' => s.size - w'.iterPos w.heap.size)
  case atStart => exact ⟨0, rfl, by unfold Hid; simp⟩
  case round =>
    obtain ⟨pos, rfl, HA⟩ := hrel
    by_cases hp : pos < s.size
    · have hnx : ∀ ty, (Instr.next (.pointer (some ⟨w.heap.size, 0, none⟩)) true ty).run Try.prog (w.iter s pos) = _ := fun ty => run_next_any w s pos ty hp
      have hs := all_step hp
      have hr := good_rune hp
      by_cases hg : good (s[pos]'hp).toNat = true
      · have HG := Lib.hid (hr.1 hg)
        rw [hg, Bool.true_and, HA.out] at hs
        have HS := Lib.hid hs
        clear hs hr hg
        go_wp2_with (go_at_call 35; refine (holds_any _ _).mono ?_; rintro e w' ⟨rfl, rfl⟩; rw [HG.out.1])
        go_roundw
        case rel => exact ⟨_, rfl, by rw [HG.out.2]; exact HS.out.symm⟩
        case measure =>
          have := HG.out.2
          simp [this]
          omega
      · have hg' : good (s[pos]'hp).toNat = false := by simpa using hg
        have HG := Lib.hid (hr.2 hg')
        rw [hg', Bool.false_and, HA.out] at hs
        have HS := Lib.hid hs
        clear hs hr hg hg'
        go_wp2_with (go_at_call 35; refine (holds_any _ _).mono ?_; rintro e w' ⟨rfl, rfl⟩; rw [HG.out])
        go_ret
        exact ⟨ret_bool HS.out.symm, below_iter (Nat.le_refl _) _ _⟩
    · have hnx : ∀ ty, (Instr.next (.pointer (some ⟨w.heap.size, 0, none⟩)) true ty).run Try.prog (w.iter s pos) = _ := fun ty => run_next_end w s pos ty hp
      have HS := Lib.hid ((all_last hp).symm.trans HA.out)
      go_wp2
      go_ret
      exact ⟨ret_bool HS.out, below_iter (Nat.le_refl _) _ _⟩

def labS (s : ByteArray) : Int := lab (bs s)
theorem labS_no {s : ByteArray} (h : ¬ (1 ≤ s.size ∧ s.size ≤ 63)) : labS s = 20 := by
  unfold labS lab
  rw [bs_length, if_neg]
  omega
theorem labS_yes {s : ByteArray} (h : 1 ≤ s.size ∧ s.size ≤ 63) : labS s = if (bs s).all good = true then 0 else 20 := by
  unfold labS lab
  rw [bs_length]
  simp [h]

theorem label_any (s : ByteArray) (w : World) :
    Calls Try.prog 30 #[.string s] w fun e w' => e = .returned (.int .i64 (labS s)) ∧ Below w.heap.size w w' := by
  by_cases h1 : (s.size : Int) < 1
  · have H := Lib.hid (labS_no (show ¬ (1 ≤ s.size ∧ s.size ≤ 63) by omega))
    have h2 : s.size = 0 := by omega
    go_enter Try.func30, Try.ntmps30
    go_wp2
    go_ret
    exact ⟨ret_int H.out.symm, Below.refl _ _⟩
  · have h1' : ¬ s.size = 0 := by omega
    by_cases h2 : 63 < (s.size : Int)
    · have H := Lib.hid (labS_no (show ¬ (1 ≤ s.size ∧ s.size ≤ 63) by omega))
      have h2' : 63 < s.size := by omega
      go_enter Try.func30, Try.ntmps30
      go_wp2
      go_ret
      exact ⟨ret_int H.out.symm, Below.refl _ _⟩
    · have h2' : ¬ 63 < s.size := by omega
      have hl := labS_yes (show 1 ≤ s.size ∧ s.size ≤ 63 by omega)
      by_cases hg : (bs s).all good = true
      · rw [if_pos hg] at hl
        have HG := Lib.hid hg
        have H := Lib.hid hl
        clear hg hl
        go_enter Try.func30, Try.ntmps30
        go_wp2_with (go_at_call 34; refine (every_any _ _).mono ?_; rintro e w' ⟨rfl, hb⟩; rw [HG.out])
        go_ret
        exact ⟨ret_int H.out.symm, hb⟩
      · rw [if_neg hg] at hl
        have HG := Lib.hid (show (bs s).all good = false by simpa using hg)
        have H := Lib.hid hl
        clear hg hl
        go_enter Try.func30, Try.ntmps30
        go_wp2_with (go_at_call 34; refine (every_any _ _).mono ?_; rintro e w' ⟨rfl, hb⟩; rw [HG.out])
        go_ret
        exact ⟨ret_int H.out.symm, hb⟩

theorem good_tests (c : Int) : (good c = true → ¬ c ≤ 32 ∧ ¬ 126 < c ∧ (c == 46) = false) ∧ (good c = false → c ≤ 32 ∨ (¬ c ≤ 32 ∧ 126 < c) ∨ (¬ c ≤ 32 ∧ ¬ 126 < c ∧ (c == 46) = true)) := by
  constructor
  · intro h; simp [good] at h ⊢; omega
  · intro h; simp [good] at h ⊢; omega

set_option maxRecDepth 100000 in
theorem refLabel_any (s : ByteArray) (w : World) :
    Calls Try.prog 22 #[.string s] w fun e w' => e = .returned (.int .i64 (labS s)) ∧ w = w' := by
  by_cases h1 : (s.size : Int) < 1
  · have H := Lib.hid (labS_no (show ¬ (1 ≤ s.size ∧ s.size ≤ 63) by omega))
    have h2 : s.size = 0 := by omega
    go_enter Try.func22, Try.ntmps22
    go_wp2
    go_ret
    exact ⟨ret_int H.out.symm, rfl⟩
  · have h1' : ¬ s.size = 0 := by omega
    by_cases h2 : 63 < (s.size : Int)
    · have H := Lib.hid (labS_no (show ¬ (1 ≤ s.size ∧ s.size ≤ 63) by omega))
      have h2' : 63 < s.size := by omega
      go_enter Try.func22, Try.ntmps22
      go_wp2
      go_ret
      exact ⟨ret_int H.out.symm, rfl⟩
    · have h2' : ¬ 63 < s.size := by omega
      have HL := Lib.hid (labS_yes (show 1 ≤ s.size ∧ s.size ≤ 63 by omega))
      have b1 : 1 ≤ s.size := by omega
      have b2 : s.size ≤ 63 := by omega
      go_enter Try.func22, Try.ntmps22
      go_wp2
      go_loop [3] (fun i => ∃ k : Nat, k ≤ s.size ∧ i = .int .i64 k ∧ Hid (((bs s).drop k).all good = (bs s).all good)) (fun i => s.size - (intOf i).toNat)
      case atStart => exact ⟨0, Nat.zero_le _, rfl, by unfold Hid; simp⟩
      case round =>
        obtain ⟨k, hk, rfl, HA⟩ := hrel
        by_cases hp : k < s.size
        · have i1 : (k : Int) < (s.size : Int) := by omega
          have hs := all_step hp
          have ht := good_tests (s[k]'hp).toNat
          by_cases hg : good (s[k]'hp).toNat = true
          · obtain ⟨t1, t2, t3⟩ := ht.1 hg
            rw [hg, Bool.true_and, HA.out] at hs
            have HS := Lib.hid hs
            clear hs ht hg
            go_wp2
            go_round
            case rel => exact ⟨k + 1, by omega, by go_num, HS.out.symm⟩
            case measure => simp [intOf]; omega
          · have hg' : good (s[k]'hp).toNat = false := by simpa using hg
            rw [hg', Bool.false_and, HA.out] at hs
            have HS := Lib.hid (show labS s = 20 by rw [HL.out, hs]; simp)
            have ht2 := ht.2 hg'
            clear hs ht hg hg'
            rcases ht2 with t1 | ⟨t1, t2⟩ | ⟨t1, t2, t3⟩
            · go_wp2
              go_ret
              exact ⟨ret_int HS.out.symm, rfl⟩
            · go_wp2
              go_ret
              exact ⟨ret_int HS.out.symm, rfl⟩
            · go_wp2
              go_ret
              exact ⟨ret_int HS.out.symm, rfl⟩
        · have i1 : ¬ (k : Int) < (s.size : Int) := by omega
          have HS := Lib.hid (show labS s = 0 by rw [HL.out, ← HA.out, all_last hp]; simp)
          go_wp2
          go_ret
          exact ⟨ret_int HS.out.symm, rfl⟩
end Go.Proofs.Ytjhmjimfehanbaa.Fold
