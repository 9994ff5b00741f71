/- Contracts of num's Load, whatever it is given, and of the document's. -/
import Derived.Test.YtnpnigeghhcncaaNumC
namespace Go.Proofs.Ytnpnigeghhcncaa.Num
open Go.RowKit
set_option linter.unusedVariables false

/-- What Load answers. -/
def ldv (l : List Int) (a x : Int) : Int × Int :=
  if isW x then (if plc l.length a x = 0 then (le ((l.drop a.toNat).take x.toNat), 0) else (0, plc l.length a x)) else (0, 2)

theorem plc_ok {n a x : Int} (h : plc n a x = 0) : 0 ≤ a ∧ a ≤ n - x ∧ a % x = 0 := by
  unfold plc at h
  split at h
  · omega
  · split at h
    · omega
    · omega

theorem le_cons (b : Int) (r : List Int) : le (b :: r) = b + 256 * le r := rfl
theorem le_bd : ∀ (l : List Int), (∀ i, 0 ≤ l.getD i 0 ∧ l.getD i 0 < 256) → 0 ≤ le l ∧ le l < 256 ^ l.length := by
  intro l
  induction l with
  | nil => intro _; simp [le]
  | cons b r ih =>
    intro h
    have h0 := h 0
    have hr := ih (fun i => by have := h (i + 1); simpa using this)
    simp only [List.getD_cons_zero] at h0
    rw [le_cons, List.length_cons, Int.pow_succ]
    omega

theorem drop_getD (l : List Int) (n i : Nat) : (l.drop n).getD i 0 = l.getD (n + i) 0 := by simp [List.getD]
theorem take_getD (l : List Int) (n i : Nat) (h : i < n) : (l.take n).getD i 0 = l.getD i 0 := by simp [List.getD, h]

end Go.Proofs.Ytnpnigeghhcncaa.Num
