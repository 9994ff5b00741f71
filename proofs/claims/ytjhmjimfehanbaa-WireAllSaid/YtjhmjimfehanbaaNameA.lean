/- Contracts of name's Wire, Check, Text, and the document's. -/
import Derived.Test.YtjhmjimfehanbaaRows
import Derived.Test.YtjhmjimfehanbaaFoldB
import Derived.Test.YtjhmjimfehanbaaFoldD
import Derived.Test.YtjhmjimfehanbaaKit5
import Derived.Test.YtjhmjimfehanbaaNameM
namespace Go.Proofs.Ytjhmjimfehanbaa.Name
open Go.RowKit Fold
set_option linter.unusedVariables false

theorem ret_string {a b : ByteArray} (h : a = b) : Ending.returned (.string a) = .returned (.string b) := by rw [h]

theorem holds_any (s : ByteArray) (w : World) :
    Calls Try.prog 32 #[.string s] w fun e w' => e = .returned (.bool (labS s == 0)) ∧ Below w.heap.size w w' := by
  go_enter Try.func32, Try.ntmps32
  go_wp2_with fail
  refine (label_any _ _).mono ?_
  rintro e w1 ⟨rfl, hb⟩
  go_wp2
  go_ret
  exact ⟨rfl, hb⟩

theorem allLab_drop {l : List ByteArray} {k : Nat} (h : k < l.length) : allLab (l.drop k) = ((labS (l.getD k ByteArray.empty) == 0) && allLab (l.drop (k + 1))) := by
  have e : l.getD k ByteArray.empty = l[k] := by simp [List.getD, h]
  rw [e, List.drop_eq_getElem_cons h]
  rfl
theorem allLab_end {l : List ByteArray} : allLab (l.drop l.length) = true := by rw [List.drop_length]; rfl

set_option maxRecDepth 100000 in
theorem every_any (v : Value) (l : List ByteArray) (w : World) (hr : SRow w v l) :
    Calls Try.prog 31 #[v, .func (.func 32) #[] #[]] w fun e w' => e = .returned (.bool (allLab l)) ∧ Below w.heap.size w w' := by
  obtain ⟨ad, cap, rfl, q2, q3, q4, q5⟩ := hr
  have HC := Lib.hid q5
  clear q4 q5
  go_enter Try.func31, Try.ntmps31
  go_wp2
  go_loopw [9] (fun i wr => ∃ k : Nat, k ≤ l.length ∧ i = .int .i64 k ∧ Below w.heap.size w wr ∧ Hid (allLab (l.drop k) = allLab l)) (fun i _ => l.length - (intOf i).toNat)
  case atStart => exact ⟨0, Nat.zero_le _, rfl, Below.refl _ _, rfl⟩
  case round =>
    obtain ⟨k, hk, rfl, hb, HA⟩ := hrel
    by_cases hlt : k < l.length
    · have hlt1 : (k : Int) < (l.length : Int) := by omega
      obtain ⟨b, off, rfl, hlb, hc⟩ := HC.out (by rintro rfl; simp at hlt)
      have hcell := (hb.cell (p := ⟨b, off + k, none⟩) hlb).trans (hc k hlt)
      have hA := HA.out
      rw [allLab_drop hlt] at hA
      obtain ⟨x, hx⟩ : ∃ x, x = l.getD k ByteArray.empty := ⟨_, rfl⟩
      rw [← hx] at hcell hA
      clear hc hx
      by_cases hl : (labS x == 0) = true
      · rw [hl, Bool.true_and] at hA
        have HL := Lib.hid hl
        have HA2 := Lib.hid hA
        clear hl hA
        go_wp2_with (go_at_call 32; refine (holds_any _ _).mono ?_; rintro e w1 ⟨rfl, hb1⟩; rw [HL.out]; have HB1 := Lib.hid (hb.trans (hb1.mono hb.size)); clear hb1)
        go_roundw
        case rel => exact ⟨k + 1, by omega, by go_num, HB1.out, HA2⟩
        case measure => simp [intOf]; omega
      · have hl' : (labS x == 0) = false := by simpa using hl
        rw [hl', Bool.false_and] at hA
        have HL := Lib.hid hl'
        have HA2 := Lib.hid hA
        clear hl hl' hA
        go_wp2_with (go_at_call 32; refine (holds_any _ _).mono ?_; rintro e w1 ⟨rfl, hb1⟩; rw [HL.out]; have HB1 := Lib.hid (hb.trans (hb1.mono hb.size)); clear hb1)
        go_ret
        exact ⟨ret_bool HA2.out, HB1.out⟩
    · obtain rfl : k = l.length := by omega
      have HA2 := Lib.hid (allLab_end.symm.trans HA.out)
      go_wp2
      go_ret
      exact ⟨ret_bool HA2.out, hb⟩

set_option maxRecDepth 100000 in
theorem wire_any (v : Value) (l : List ByteArray) (w : World) (hr : SRow w v l) (hw : wire l ≤ 1000000000) :
    Calls Try.prog 21 #[v] w fun e w' => e = .returned (.int .i64 (wire l)) ∧ w = w' := by
  obtain ⟨ad, cap, rfl, q2, q3, q4, q5⟩ := hr
  have HC := Lib.hid q5
  clear q4 q5
  go_enter Try.func21, Try.ntmps21
  go_wp2
  go_loop [3, 8] (fun n i => ∃ k m : Nat, k ≤ l.length ∧ i = .int .i64 k ∧ n = .int .i64 m ∧ m ≤ 1000000000 ∧ Hid (m = wire (l.take k))) (fun _ i => l.length - (intOf i).toNat)
  case atStart => exact ⟨0, 1, Nat.zero_le _, rfl, rfl, by omega, rfl⟩
  case round =>
    obtain ⟨k, m, hk, rfl, rfl, hm, HM⟩ := hrel
    by_cases hlt : k < l.length
    · have hlt1 : (k : Int) < (l.length : Int) := by omega
      obtain ⟨b, off, rfl, hlb, hc⟩ := HC.out (by rintro rfl; simp at hlt)
      have hcell := hc k hlt
      have h1 := wire_take_succ l k hlt
      have h2 := wire_take_le l (k + 1)
      rw [← HM.out] at h1
      obtain ⟨x, hx⟩ : ∃ x, x = l.getD k ByteArray.empty := ⟨_, rfl⟩
      rw [← hx] at hcell h1
      have H1 := Lib.hid h1
      have h3 : m + x.size + 1 ≤ 1000000000 := by omega
      clear hc hx h1 h2
      go_wp2
      go_round
      case rel => exact ⟨k + 1, m + x.size + 1, by omega, by go_num, by go_num, h3, H1.out.symm⟩
      case measure => simp [intOf]; omega
    · obtain rfl : k = l.length := by omega
      have HW : Hid (wire l = m) := by have := HM.out; rw [List.take_length] at this; exact this.symm
      go_wp2
      go_ret
      exact ⟨ret_int (by rw [HW.out]), rfl⟩

set_option maxRecDepth 100000 in
theorem refWire_any (v : Value) (l : List ByteArray) (w : World) (hr : SRow w v l) (hw : wire l ≤ 1000000000) :
    Calls Try.prog 23 #[v] w fun e w' => e = .returned (.int .i64 (wire l)) ∧ w = w' := by
  obtain ⟨ad, cap, rfl, q2, q3, q4, q5⟩ := hr
  have HC := Lib.hid q5
  clear q4 q5
  go_enter Try.func23, Try.ntmps23
  go_wp2
  go_loop [3, 4] (fun n i => ∃ k m : Nat, k ≤ l.length ∧ i = .int .i64 k ∧ n = .int .i64 m ∧ m ≤ 1000000000 ∧ Hid (m = wire (l.take k))) (fun _ i => l.length - (intOf i).toNat)
  case atStart => exact ⟨0, 1, Nat.zero_le _, rfl, rfl, by omega, rfl⟩
  case round =>
    obtain ⟨k, m, hk, rfl, rfl, hm, HM⟩ := hrel
    by_cases hlt : k < l.length
    · have hlt1 : (k : Int) < (l.length : Int) := by omega
      obtain ⟨b, off, rfl, hlb, hc⟩ := HC.out (by rintro rfl; simp at hlt)
      have hcell := hc k hlt
      have h1 := wire_take_succ l k hlt
      have h2 := wire_take_le l (k + 1)
      rw [← HM.out] at h1
      obtain ⟨x, hx⟩ : ∃ x, x = l.getD k ByteArray.empty := ⟨_, rfl⟩
      rw [← hx] at hcell h1
      have H1 := Lib.hid h1
      have h3 : m + x.size + 1 ≤ 1000000000 := by omega
      clear hc hx h1 h2
      go_wp2
      go_round
      case rel => exact ⟨k + 1, m + x.size + 1, by omega, by go_num, by go_num, h3, H1.out.symm⟩
      case measure => simp [intOf]; omega
    · obtain rfl : k = l.length := by omega
      have HW : Hid (wire l = m) := by have := HM.out; rw [List.take_length] at this; exact this.symm
      go_wp2
      go_ret
      exact ⟨ret_int (by rw [HW.out]), rfl⟩

theorem chk_no {l : List ByteArray} (h : allLab l = false) : chk l = 20 := by simp [chk, h]
theorem chk_long {l : List ByteArray} (h : allLab l = true) (h2 : 255 < wire l) : chk l = 21 := by simp [chk, h, h2]
theorem chk_yes {l : List ByteArray} (h : allLab l = true) (h2 : ¬ 255 < wire l) : chk l = 0 := by simp [chk, h, h2]

theorem check_any (v : Value) (l : List ByteArray) (w : World) (hr : SRow w v l) (hw : wire l ≤ 1000000000) :
    Calls Try.prog 26 #[v] w fun e w' => e = .returned (.int .i64 (chk l)) ∧ Below w.heap.size w w' := by
  have HE := Lib.hid (every_any v l w hr)
  have HR := Lib.hid hr
  by_cases ha : allLab l = true
  · by_cases h2 : 255 < wire l
    · have hc := Lib.hid (chk_long ha h2)
      have h3 : 255 < (wire l : Int) := by omega
      have hW := Lib.hid (fun u hu => wire_any v l u hu hw)
      generalize wire l = m at h3 hW
      rw [ha] at HE
      clear ha h2 hw
      go_enter Try.func26, Try.ntmps26
      go_wp2_with fail
      refine HE.out.mono ?_
      rintro e w1 ⟨rfl, hb⟩
      have HR1 := Lib.hid (HR.out.mono hb (Nat.le_refl _))
      go_wp2_with fail
      refine (hW.out _ HR1.out).mono ?_
      rintro e w2 ⟨rfl, rfl⟩
      go_wp2
      go_ret
      exact ⟨ret_int hc.out.symm, hb⟩
    · have hc := Lib.hid (chk_yes ha h2)
      have h3 : ¬ 255 < (wire l : Int) := by omega
      have hW := Lib.hid (fun u hu => wire_any v l u hu hw)
      generalize wire l = m at h3 hW
      rw [ha] at HE
      clear ha h2 hw
      go_enter Try.func26, Try.ntmps26
      go_wp2_with fail
      refine HE.out.mono ?_
      rintro e w1 ⟨rfl, hb⟩
      have HR1 := Lib.hid (HR.out.mono hb (Nat.le_refl _))
      go_wp2_with fail
      refine (hW.out _ HR1.out).mono ?_
      rintro e w2 ⟨rfl, rfl⟩
      go_wp2
      go_ret
      exact ⟨ret_int hc.out.symm, hb⟩
  · have ha' : allLab l = false := by simpa using ha
    have hc := Lib.hid (chk_no ha')
    rw [ha'] at HE
    clear ha ha' hw
    go_enter Try.func26, Try.ntmps26
    go_wp2_with fail
    refine HE.out.mono ?_
    rintro e w1 ⟨rfl, hb⟩
    go_wp2
    go_ret
    exact ⟨ret_int hc.out.symm, hb⟩

end Go.Proofs.Ytjhmjimfehanbaa.Name
