/- The example of the page. -/
import Derived.Test.YtkknegnipodcnaaDoorArnL
import Derived.Test.YtkknegnipodcnaaDoorKit5
namespace Go.Proofs.YtkknegnipodcnaaDoor.Arn
open Go.RowKit Num
set_option linter.unusedVariables false

def ex1 : List Int := [0, 0, 0, 0, 2, 1, 0, 0, 0, 0, 0, 0, 0, 0, 0, 0]
theorem exPut : putA (List.replicate 16 0) 4 4 258 = (ex1, 0) := by decide +kernel
theorem exGet : ldv ex1 4 2 = (258, 0) := by decide +kernel
theorem exFit : fitB ex1.length 4 1 = true := by decide +kernel
theorem exPart : (ex1.drop 4).take 1 = [2] := by decide +kernel
theorem exHas : hasA ex1 [2, 1, 0] = true := by decide +kernel
theorem exHasNot : hasA ex1 [3] = false := by decide +kernel
theorem exStr : (strOfNums [2]).toList = [2] := by rw [ByteArray.toList_eq]; kernel_rfl
theorem made_const (w : World) (l : List Int) (c : Array Value) (f : Nat × Nat) (n : Nat) (hc : c = (l.map (Value.int .u8)).toArray) (hn : l.length = n) (hb : ∀ i, 0 ≤ l.getD i 0 ∧ l.getD i 0 < 256) (h : l.length ≤ 1000) : Row .u8 (w.alloc (.cells c 5 f)) (.slice (some ⟨w.heap.size, 0, none⟩) n n) l := by
  subst hn
  exact Row.made_mark w l 5 c f hc (fun i _ => by have := hb i; exact WalkArith.wf_u8 (by omega)) (by omega)

end Go.Proofs.YtkknegnipodcnaaDoor.Arn
