/- Contracts of the document's arena: Zero, Move, Has. -/
import Derived.Test.YtkknegnipodcnaaDoorArnB
namespace Go.Proofs.YtkknegnipodcnaaDoor.Arn
open Go.RowKit Num
set_option linter.unusedVariables false

theorem hasA_step (l X : List Int) (k : Nat) (h : k + X.length ≤ l.length) (he : ((l.drop k).take X.length == X) = false) (hk : (List.range k).all (fun i => !((l.drop i).take X.length == X)) = true) : (List.range (k + 1)).all (fun i => !((l.drop i).take X.length == X)) = true := by
  rw [List.range_succ, List.all_append, hk]
  simp [he]
theorem hasA_yes (l X : List Int) (k : Nat) (h : k + X.length ≤ l.length) (he : ((l.drop k).take X.length == X) = true) : hasA l X = true := by
  rw [hasA, List.any_eq_true]
  exact ⟨k, by simp; omega, he⟩
theorem hasA_no (l X : List Int) (k : Nat) (h : l.length < k + X.length) (hk : (List.range k).all (fun i => !((l.drop i).take X.length == X)) = true) : hasA l X = false := by
  rw [hasA, List.any_eq_false]
  intro i hi
  rw [List.all_eq_true] at hk
  have := hk i (by simp at hi ⊢; omega)
  simpa using this

end Go.Proofs.YtkknegnipodcnaaDoor.Arn
