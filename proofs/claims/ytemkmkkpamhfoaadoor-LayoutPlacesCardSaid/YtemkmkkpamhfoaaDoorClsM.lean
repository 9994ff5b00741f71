/- Plain mathematics of classes of blocks. -/
import Derived.Test.YtemkmkkpamhfoaaDoorKit4
namespace Go.Proofs.YtemkmkkpamhfoaaDoor.Cls
open Go.RowKit

def szT : List Nat := [32, 48, 64, 96, 128, 192, 256, 384, 512]
def szC (c : Int) : Nat := if 1 ≤ c ∧ c ≤ 9 then szT.getD (c - 1).toNat 0 else 0
def blC (c : Int) : Nat := if szC c = 0 then 0 else 1024 / szC c
def pdC (c : Int) : Nat := if szC c = 0 then 0 else 1024 - blC c * szC c
/-- The least class from c on, of n classes. -/
def ofL (s : Int) : Nat → Nat → Nat × Int
  | _, 0 => (0, 22)
  | c, n + 1 => if s ≤ (szC c : Int) then (c, 0) else ofL s (c + 1) n
def ofC (s : Int) : Nat × Int := if s < 1 then (0, 2) else ofL s 1 9
def plC (c i : Int) : Nat × Int := if szC c = 0 then (0, 2) else if i < 0 ∨ (blC c : Int) ≤ i then (0, 6) else (i.toNat * szC c, 0)
/-- The block, from i on, of n, that begins at a place. -/
def idL (c at_ : Int) : Nat → Nat → Nat × Bool
  | _, 0 => (0, false)
  | i, n + 1 => if ((i * szC c : Nat) : Int) = at_ then (i, true) else idL c at_ (i + 1) n
def idC (c at_ : Int) : Nat × Bool := idL c at_ 0 (blC c)
def enC (p : Int) : Nat × Int := if p < 0 then (0, 2) else if 480 < p then (0, 22) else ofC (32 + p)
def noC (l : Int) : Nat × Int := if l < 1 ∨ 63 < l then (0, 20) else ofC (16 + l)

theorem cls_cases (c : Int) : (c < 1 ∨ 9 < c) ∨ c = 1 ∨ c = 2 ∨ c = 3 ∨ c = 4 ∨ c = 5 ∨ c = 6 ∨ c = 7 ∨ c = 8 ∨ c = 9 := by omega
theorem szC_no {c : Int} (h : c < 1 ∨ 9 < c) : szC c = 0 := by rw [szC, if_neg (by omega)]
theorem szC_bd (c : Int) : szC c = 0 ∨ (32 ≤ szC c ∧ szC c ≤ 512) := by
  rcases cls_cases c with h | rfl | rfl | rfl | rfl | rfl | rfl | rfl | rfl | rfl
  · exact .inl (szC_no h)
  all_goals exact .inr (by decide)
theorem szC_zero {c : Int} : szC c = 0 ↔ (c < 1 ∨ 9 < c) := by
  rcases cls_cases c with h | rfl | rfl | rfl | rfl | rfl | rfl | rfl | rfl | rfl
  · exact ⟨fun _ => h, szC_no⟩
  all_goals decide
theorem blC_no {c : Int} (h : szC c = 0) : blC c = 0 := by rw [blC, if_pos h]
theorem blC_bd (c : Int) : blC c ≤ 32 := by
  rcases szC_bd c with h | h
  · rw [blC_no h]; omega
  · rw [blC, if_neg (by omega)]
    exact Nat.le_trans (Nat.div_le_div_left h.1 (by decide)) (by decide)
theorem blC_fit {c : Int} (h : ¬ szC c = 0) : blC c * szC c ≤ 1024 ∧ 1024 < (blC c + 1) * szC c := by
  have hp : 0 < szC c := by omega
  rw [blC, if_neg h]
  exact ⟨Nat.div_mul_le_self _ _, by rw [Nat.mul_comm]; exact Nat.lt_mul_div_succ 1024 hp⟩
theorem blC_pos {c : Int} (h : ¬ szC c = 0) : 2 ≤ blC c := by
  have := szC_bd c
  rw [blC, if_neg h]
  exact Nat.le_trans (by decide) (Nat.div_le_div_left (show szC c ≤ 512 by omega) (by omega))
theorem pdC_less {c : Int} (h : ¬ szC c = 0) : blC c * szC c + pdC c = 1024 ∧ pdC c < szC c := by
  have h1 := blC_fit h
  rw [Nat.add_mul] at h1
  rw [pdC, if_neg h]
  omega
theorem ofL_spec (s : Int) (c n : Nat) : (∃ k, c ≤ k ∧ k < c + n ∧ ofL s c n = (k, 0) ∧ s ≤ szC k ∧ ∀ j, c ≤ j → j < k → (szC j : Int) < s) ∨ (ofL s c n = (0, 22) ∧ ∀ j, c ≤ j → j < c + n → (szC j : Int) < s) := by
  induction n generalizing c with
  | zero => exact .inr ⟨rfl, fun j h1 h2 => by omega⟩
  | succ n ih =>
    by_cases h : s ≤ (szC c : Int)
    · exact .inl ⟨c, Nat.le_refl _, by omega, by rw [ofL, if_pos h], h, fun j h1 h2 => by omega⟩
    · rcases ih (c + 1) with ⟨k, h1, h2, h3, h4, h5⟩ | ⟨h1, h2⟩
      · refine .inl ⟨k, by omega, by omega, by rw [ofL, if_neg h, h3], h4, fun j g1 g2 => ?_⟩
        by_cases e : j = c
        · subst e; omega
        · exact h5 j (by omega) g2
      · refine .inr ⟨by rw [ofL, if_neg h, h1], fun j g1 g2 => ?_⟩
        by_cases e : j = c
        · subst e; omega
        · exact h2 j (by omega) (by omega)
theorem idL_spec (c at_ : Int) (i n : Nat) : (∃ k, i ≤ k ∧ k < i + n ∧ idL c at_ i n = (k, true) ∧ ((k * szC c : Nat) : Int) = at_) ∨ (idL c at_ i n = (0, false) ∧ ∀ k, i ≤ k → k < i + n → ¬ ((k * szC c : Nat) : Int) = at_) := by
  induction n generalizing i with
  | zero => exact .inr ⟨rfl, fun k h1 h2 => by omega⟩
  | succ n ih =>
    by_cases h : ((i * szC c : Nat) : Int) = at_
    · exact .inl ⟨i, Nat.le_refl _, by omega, by rw [idL, if_pos h], h⟩
    · rcases ih (i + 1) with ⟨k, h1, h2, h3, h4⟩ | ⟨h1, h2⟩
      · exact .inl ⟨k, by omega, by omega, by rw [idL, if_neg h, h3], h4⟩
      · refine .inr ⟨by rw [idL, if_neg h, h1], fun k g1 g2 => ?_⟩
        by_cases e : k = i
        · subst e; exact h
        · exact h2 k (by omega) (by omega)
/-- A block that begins there is found; behind its first byte none begins. -/
theorem idC_hit {c : Int} {i : Nat} (h : ¬ szC c = 0) (hi : i < blC c) : idC c ((i * szC c : Nat) : Int) = (i, true) := by
  rcases idL_spec c ((i * szC c : Nat) : Int) 0 (blC c) with ⟨k, -, -, h3, h4⟩ | ⟨-, h2⟩
  · have : k = i := by
      have h5 : k * szC c = i * szC c := by omega
      exact Nat.eq_of_mul_eq_mul_right (by omega) h5
    rw [idC, h3, this]
  · exact absurd rfl (h2 i (by omega) (by omega))
theorem idC_miss {c : Int} {i : Nat} (h : ¬ szC c = 0) : idC c (((i * szC c : Nat) : Int) + 1) = (0, false) := by
  rcases idL_spec c (((i * szC c : Nat) : Int) + 1) 0 (blC c) with ⟨k, -, -, -, h4⟩ | ⟨h1, -⟩
  · have hb := szC_bd c
    have h5 : k * szC c = i * szC c + 1 := by omega
    have h6 := congrArg (· % szC c) h5
    simp only [Nat.mul_mod_left] at h6
    rw [Nat.mul_comm, Nat.mul_add_mod, Nat.mod_eq_of_lt (by omega)] at h6
    omega
  · exact h1
theorem szC_rise {j k : Nat} (h : j < k) (hk : k ≤ 9) (hj : 1 ≤ j) : szC j < szC k := by
  have : (j = 1 ∨ j = 2 ∨ j = 3 ∨ j = 4 ∨ j = 5 ∨ j = 6 ∨ j = 7 ∨ j = 8) ∧ (k = 2 ∨ k = 3 ∨ k = 4 ∨ k = 5 ∨ k = 6 ∨ k = 7 ∨ k = 8 ∨ k = 9) := by omega
  obtain ⟨h1, h2⟩ := this
  rcases h1 with rfl | rfl | rfl | rfl | rfl | rfl | rfl | rfl <;> rcases h2 with rfl | rfl | rfl | rfl | rfl | rfl | rfl | rfl <;> first | decide | omega
end Go.Proofs.YtemkmkkpamhfoaaDoor.Cls
