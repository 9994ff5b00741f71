/- The contract of the document's Parse. -/
import Derived.Test.YtjhmjimfehanbaaNameC
namespace Go.Proofs.Ytjhmjimfehanbaa.Name
open Go.RowKit Fold
set_option linter.unusedVariables false

theorem bs_cut (s : ByteArray) (a b : Nat) : bs (s.extract a b) = ((bs s).drop a).take (b - a) := by
  unfold bs
  rw [Lib.extract_data, List.map_take, List.map_drop]
theorem snoc_cons {α : Type} (l : List α) (x : α) (r : List α) : (l ++ [x]) ++ r = l ++ x :: r := by simp
/-- What is still to come of a text T, at place k, if a part began at f. -/
def restP (T : ByteArray) (k f : Nat) : List ByteArray := if k ≤ T.size then (cutA (bs (T.extract f k)) ((bs T).drop k)).map (fun p => strOfNums (low p)) else []
theorem restP_start (T : ByteArray) : restP T 0 0 = (cutA [] (bs T)).map (fun p => strOfNums (low p)) := by
  unfold restP
  rw [if_pos (Nat.zero_le _), bs_cut]
  simp
theorem restP_over (T : ByteArray) (f : Nat) : restP T (T.size + 1) f = [] := by unfold restP; rw [if_neg (by omega)]
theorem restP_end {T : ByteArray} {f : Nat} : restP T T.size f = lowS (T.extract f T.size) :: restP T (T.size + 1) (T.size + 1) := by
  rw [restP_over]
  unfold restP
  rw [if_pos (Nat.le_refl _), List.drop_eq_nil_of_le (by rw [bs_length]; omega)]
  rfl
theorem bs_elem {T : ByteArray} {k : Nat} (h : k < T.size) : (bs T).drop k = ((T[k]'h).toNat : Int) :: (bs T).drop (k + 1) := by
  rw [List.drop_eq_getElem_cons (by rw [bs_length]; exact h)]
  have := bs_getD T k h
  rw [List.getD, List.getElem?_eq_getElem (by rw [bs_length]; exact h), Option.getD_some] at this
  rw [this]
theorem restP_dot {T : ByteArray} {k f : Nat} (h : k < T.size) (hd : (T[k]'h).toNat = 46) : restP T k f = lowS (T.extract f k) :: restP T (k + 1) (k + 1) := by
  unfold restP
  rw [if_pos (by omega), if_pos (by omega), bs_elem h, cutA, if_pos (by omega), List.map_cons, bs_cut T (k + 1), Nat.sub_self, List.take_zero]
  rfl
theorem restP_go {T : ByteArray} {k f : Nat} (h : k < T.size) (hd : ¬ (T[k]'h).toNat = 46) (hf : f ≤ k) : restP T k f = restP T (k + 1) f := by
  unfold restP
  rw [if_pos (by omega), if_pos (by omega), bs_elem h, cutA, if_neg (by omega)]
  have e : bs (T.extract f k) ++ [((T[k]'h).toNat : Int)] = bs (T.extract f (k + 1)) := by
    rw [bs_cut, bs_cut, show k + 1 - f = (k - f) + 1 by omega, List.take_add_one, List.getElem?_drop, show f + (k - f) = k by omega]
    congr 1
    have := bs_getD T k h
    rw [List.getD, List.getElem?_eq_getElem (by rw [bs_length]; exact h), Option.getD_some] at this
    rw [List.getElem?_eq_getElem (by rw [bs_length]; exact h), this]
    rfl
  rw [e]

theorem infoStr : (Try.prog.info? 9).map (fun i => (i.zero, i.size, i.bytes)) = some (some (.string ByteArray.empty), 1, 16) := by kernel_rfl
theorem trim_none {s : ByteArray} (h : s.size = 0) : trim (bs s) = bs s := by
  have : bs s = [] := List.eq_nil_of_length_eq_zero (by rw [bs_length]; exact h)
  rw [this]
  rfl
theorem bs_last {s : ByteArray} {n : Nat} (h : s.size = n + 1) : bs s = bs (s.extract 0 n) ++ [((s[n]'(by omega)).toNat : Int)] := by
  have h1 := bs_elem (T := s) (k := n) (by omega)
  rw [bs_cut, List.drop_zero, Nat.sub_zero]
  conv => lhs; rw [← List.take_append_drop n (bs s)]
  rw [h1, List.drop_eq_nil_of_le (by rw [bs_length]; omega)]
theorem trim_stay {s : ByteArray} (h : s.size - 1 < s.size) (hd : ¬ (s[s.size - 1]'h).toNat = 46) : trim (bs s) = bs s := by
  have e := bs_last (s := s) (n := s.size - 1) (by omega)
  unfold trim
  rw [if_neg]
  rw [e]
  simp
  omega
theorem trim_goes {s : ByteArray} (h : s.size - 1 < s.size) (hd : (s[s.size - 1]'h).toNat = 46) : trim (bs s) = bs (s.extract 0 (s.size - 1)) := by
  have e := bs_last (s := s) (n := s.size - 1) (by omega)
  rw [hd] at e
  unfold trim
  conv => lhs; rw [e]
  simp

end Go.Proofs.Ytjhmjimfehanbaa.Name
