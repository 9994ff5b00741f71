/- The walk of the statement NumParts. -/
import Derived.Test.YtncbfagmdldclaaNumF
import Derived.Test.YtncbfagmdldclaaKit2
namespace Go.Proofs.Ytncbfagmdldclaa.Num
open Go.RowKit
set_option linter.unusedVariables false

theorem ldv_ok {l : List Int} {a x : Int} {n : Nat} (hx : isW x = true) (hn : x = n) (h0 : 0 ≤ a) (h1 : a ≤ l.length - x) (h2 : a % x = 0) : ldv l a x = (le ((l.drop a.toNat).take n), 0) := by
  have : plc l.length a x = 0 := by unfold plc; rw [if_neg (by omega), if_pos h2]
  subst hn
  simp [ldv, hx, this]

theorem ldv_one {l : List Int} (i : Nat) (h : i < l.length) : ldv l (i : Int) 1 = (l.getD i 0, 0) := by
  rw [ldv_ok (x := 1) (n := 1) (by decide) rfl (by omega) (by omega) (by omega), Int.toNat_natCast, take_drop_cons l i 0 h, List.take_zero]
  simp [le]

theorem eight (l : List Int) (m : Nat) (h : m + 8 ≤ l.length) : (l.drop m).take 8 = [l.getD m 0, l.getD (m + 1) 0, l.getD (m + 2) 0, l.getD (m + 3) 0, l.getD (m + 4) 0, l.getD (m + 5) 0, l.getD (m + 6) 0, l.getD (m + 7) 0] := by
  rw [take_drop_cons l m 7 (by omega), take_drop_cons l (m + 1) 6 (by omega), take_drop_cons l (m + 2) 5 (by omega), take_drop_cons l (m + 3) 4 (by omega), take_drop_cons l (m + 4) 3 (by omega), take_drop_cons l (m + 5) 2 (by omega), take_drop_cons l (m + 6) 1 (by omega), take_drop_cons l (m + 7) 0 (by omega), List.take_zero]
theorem four (l : List Int) (m : Nat) (h : m + 4 ≤ l.length) : (l.drop m).take 4 = [l.getD m 0, l.getD (m + 1) 0, l.getD (m + 2) 0, l.getD (m + 3) 0] := by
  rw [take_drop_cons l m 3 (by omega), take_drop_cons l (m + 1) 2 (by omega), take_drop_cons l (m + 2) 1 (by omega), take_drop_cons l (m + 3) 0 (by omega), List.take_zero]

end Go.Proofs.Ytncbfagmdldclaa.Num
