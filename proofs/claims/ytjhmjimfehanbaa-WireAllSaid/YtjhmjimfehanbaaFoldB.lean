/- Contracts of fold's Common, Same. -/
import Derived.Test.YtjhmjimfehanbaaFoldA
namespace Go.Proofs.Ytjhmjimfehanbaa.Fold
open Go.RowKit
set_option linter.unusedVariables false

/-- With how many bytes two texts begin. -/
def comS (a b : ByteArray) : Nat := com (bs a) (bs b)
theorem comS_le (a b : ByteArray) : comS a b ≤ a.size ∧ comS a b ≤ b.size := by
  have := com_le (bs a) (bs b)
  rw [bs_length, bs_length] at this
  exact this

theorem lowered_q (c : Int) (w : World) (h0 : 0 ≤ c) (h1 : c < 256) :
    Calls Try.prog 33 #[.int .u8 c] w fun e w' => e = .returned (.int .u8 (lw c)) ∧ w' = w :=
  (lowered_any c w h0 h1).mono fun _ _ ⟨a, b⟩ => ⟨a, b.symm⟩
theorem refLow_q (c : Int) (w : World) (h0 : 0 ≤ c) (h1 : c < 256) :
    Calls Try.prog 29 #[.int .u8 c] w fun e w' => e = .returned (.int .u8 (lw c)) ∧ w' = w :=
  (refLow_any c w h0 h1).mono fun _ _ ⟨a, b⟩ => ⟨a, b.symm⟩

theorem drewN_more {w wr : World} (h : ∃ m, wr = w.drewN m) (n : Nat) : ∃ m, wr.drewN n = w.drewN m := by
  obtain ⟨m, rfl⟩ := h
  exact ⟨m + n, World.drewN_drewN _ _ _⟩

/-- What a round of Common finds. -/
theorem com_step {a b : ByteArray} {k : Nat} (h1 : k < a.size) (h2 : k < b.size) (hk : com ((bs a).drop k) ((bs b).drop k) + k = comS a b) :
    (lw (a[k]'h1).toNat = lw (b[k]'h2).toNat → com ((bs a).drop (k + 1)) ((bs b).drop (k + 1)) + (k + 1) = comS a b) ∧ (¬ lw (a[k]'h1).toNat = lw (b[k]'h2).toNat → k = comS a b) := by
  rw [com_cons _ _ _ (by rw [bs_length]; exact h1) (by rw [bs_length]; exact h2), bs_getD a k h1, bs_getD b k h2] at hk
  constructor
  · intro h
    rw [if_pos h] at hk
    omega
  · intro h
    rw [if_neg h] at hk
    omega
theorem com_last {a b : ByteArray} {k : Nat} (h : a.size ≤ k ∨ b.size ≤ k) (hk : com ((bs a).drop k) ((bs b).drop k) + k = comS a b) : k = comS a b := by
  rw [com_end _ _ _ (by rw [bs_length, bs_length]; exact h)] at hk
  omega

def sameS (a b : ByteArray) : Bool := sameB (bs a) (bs b)
theorem sameS_com (a b : ByteArray) : sameS a b = (decide (a.size = b.size) && decide (comS a b = a.size)) := by
  have := sameB_com (bs a) (bs b)
  rw [bs_length, bs_length] at this
  exact this

end Go.Proofs.Ytjhmjimfehanbaa.Fold
