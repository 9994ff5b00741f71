/- Contracts of name's Text and the document's, of Same, Few. -/
import Derived.Test.YtjhmjimfehanbaaNameA
import Derived.ShutString
namespace Go.Proofs.Ytjhmjimfehanbaa.Name
open Go.RowKit Fold
set_option linter.unusedVariables false

/-- A name's text, or none. -/
def txt (l : List ByteArray) : ByteArray := if chk l = 0 then (if l = [] then dotB else tx l) else ByteArray.empty
theorem txt_no {l : List ByteArray} (h : ¬ chk l = 0) : txt l = ByteArray.empty := by rw [txt, if_neg h]
theorem txt_root : txt [] = dotB := rfl
theorem txt_yes {l : List ByteArray} (h : chk l = 0) (hne : l ≠ []) : txt l = tx l := by rw [txt, if_pos h, if_neg hne]
theorem ret_pair {a b : Value} {c d : Value} (h1 : a = c) (h2 : b = d) : Ending.returned (.tuple #[a, b]) = .returned (.tuple #[c, d]) := by rw [h1, h2]

theorem tx_take_one (l : List ByteArray) (h : 0 < l.length) : tx (l.take 1) = l.getD 0 ByteArray.empty := by
  match l, h with
  | x :: r, _ => exact tx_one x
theorem tx_take_succ (l : List ByteArray) (k : Nat) (h0 : 0 < k) (h : k < l.length) : tx (l.take (k + 1)) = tx (l.take k) ++ dotB ++ l.getD k ByteArray.empty := by
  have e : l.getD k ByteArray.empty = l[k] := by simp [List.getD, h]
  rw [e, List.take_succ_eq_append_getElem h, tx_snoc]
  intro he
  have := congrArg List.length he
  rw [List.length_take, List.length_nil] at this
  omega
theorem tx_take_size (l : List ByteArray) (k : Nat) (h0 : 0 < k) (h : k ≤ l.length) : (tx (l.take k)).size + 2 ≤ wire l := by
  have h1 := wire_take_le l k
  have h2 := tx_size (l.take k) (by
    intro he
    have := congrArg List.length he
    rw [List.length_take, List.length_nil] at this
    omega)
  omega

end Go.Proofs.Ytjhmjimfehanbaa.Name
