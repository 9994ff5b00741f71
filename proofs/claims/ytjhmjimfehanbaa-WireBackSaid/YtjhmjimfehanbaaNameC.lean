/- Contracts of name's Parse and the document's. -/
import Derived.Test.YtjhmjimfehanbaaNameB
namespace Go.Proofs.Ytjhmjimfehanbaa.Name
open Go.RowKit Fold
set_option linter.unusedVariables false

/-- What a text is parsed as. -/
def plb (s : ByteArray) : List ByteArray := if s = dotB then [] else if chk (prs s) = 0 then prs s else []
def pch (s : ByteArray) : Int := if s = dotB then 0 else chk (prs s)
def Parsed (w : World) (s : ByteArray) (e : Ending) (w' : World) : Prop :=
  ∃ u, e = .returned (.tuple #[u, .int .i64 (pch s)]) ∧ Below w.heap.size w w' ∧ SRow w' u (plb s)

theorem prs_get_size (s : ByteArray) (i : Nat) (h : i < (prs s).length) : ((prs s).getD i ByteArray.empty).size < s.size + 2 := by
  have := wire_get (prs s) i h
  have := wire_prs s
  omega
theorem str_dot (s : ByteArray) : (s.toList == [46]) = decide (s = dotB) := by
  rw [← show (⟨#[46]⟩ : ByteArray).toList = [46] by rw [ByteArray.toList_eq], str_beq, Bool.eq_iff_iff, beq_iff_eq, decide_eq_true_eq]
  exact ⟨fun h => bs_inj h, fun h => by rw [h]; rfl⟩

end Go.Proofs.Ytjhmjimfehanbaa.Name
