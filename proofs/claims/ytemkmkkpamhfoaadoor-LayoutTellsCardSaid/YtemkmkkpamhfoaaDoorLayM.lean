/- Plain mathematics of where the parts of an arena lie. -/
import Derived.Test.YtemkmkkpamhfoaaDoorKit4
namespace Go.Proofs.YtemkmkkpamhfoaaDoor.Lay
open Go.RowKit

def rightC (s n : Int) : Bool := decide (7 ≤ s ∧ s ≤ 64 ∧ n % 2 = 0 ∧ 32 * s ≤ n ∧ n ≤ 8192)
/-- Where the slots begin, where they end, the padding, where the slabs begin, and how many bytes there are: of s slabs and n slots. -/
def slT (s : Nat) : Nat := 128 + 16 * s
def endT (s n : Nat) : Nat := 128 + 16 * s + 4 * n
def padT (s n : Nat) : Nat := if endT s n % 16 = 0 then 0 else 8
def baseT (s n : Nat) : Nat := endT s n + padT s n
def sizeT (s n : Nat) : Nat := baseT s n + 1024 * s
theorem right_out {s n : Int} (h : rightC s n = true) : 7 ≤ s ∧ s ≤ 64 ∧ n % 2 = 0 ∧ 32 * s ≤ n ∧ n ≤ 8192 := by simpa [rightC] using h
theorem right_nat {s n : Int} (h : rightC s n = true) : ∃ S N : Nat, s = S ∧ n = N ∧ 7 ≤ S ∧ S ≤ 64 ∧ N % 2 = 0 ∧ 32 * S ≤ N ∧ N ≤ 8192 := by
  have := right_out h
  exact ⟨s.toNat, n.toNat, by omega, by omega, by omega, by omega, by omega, by omega, by omega⟩
theorem pad_two {s n : Nat} (h : n % 2 = 0) : (endT s n % 16 = 0 ∧ padT s n = 0) ∨ (endT s n % 16 = 8 ∧ padT s n = 8) := by
  unfold padT endT
  by_cases e : (128 + 16 * s + 4 * n) % 16 = 0
  · exact .inl ⟨e, by rw [if_pos e]⟩
  · exact .inr ⟨by omega, by rw [if_neg e]⟩
theorem base_sixteen {s n : Nat} (h : n % 2 = 0) : baseT s n % 16 = 0 ∧ endT s n ≤ baseT s n ∧ baseT s n ≤ endT s n + 8 := by
  unfold baseT
  rcases pad_two (s := s) h with ⟨h1, h2⟩ | ⟨h1, h2⟩ <;> omega
def baseC (s n : Int) : Nat := if rightC s n then baseT s.toNat n.toNat else 0
def sizeC (s n : Int) : Nat := if rightC s n then sizeT s.toNat n.toNat else 0
def mostC (s n : Int) : Nat := if rightC s n then 32 * s.toNat else 0
def headC (s n i : Int) : Nat := if rightC s n = true ∧ 0 ≤ i ∧ i < s then 128 + 16 * i.toNat else 0
def slotC (s n i : Int) : Nat := if rightC s n = true ∧ 0 ≤ i ∧ i < n then slT s.toNat + 4 * i.toNat else 0
def slabC (s n i : Int) : Nat := if rightC s n = true ∧ 0 ≤ i ∧ i < s then baseT s.toNat n.toNat + 1024 * i.toNat else 0
def inC (s n a : Int) : Nat × Bool := if rightC s n = true ∧ (baseT s.toNat n.toNat : Int) ≤ a ∧ a < (sizeT s.toNat n.toNat : Int) then (((a - baseT s.toNat n.toNat) / 1024).toNat, true) else (0, false)
def runsT (s n : Nat) : List (Nat × Nat × Nat) := [(0, 8, 1), (8, 120, 2), (128, 16 * s, 3), (slT s, 4 * n, 4)] ++ (if padT s n = 0 then [] else [(endT s n, 8, 8)]) ++ [(baseT s n, 1024 * s, 7)]
def runsC (s n : Int) : List (Nat × Nat × Nat) := if rightC s n then runsT s.toNat n.toNat else []
def encR (r : Nat × Nat × Nat) : List Value := [.int .i64 (r.1 : Int), .int .i64 (r.2.1 : Int), .int .i64 (r.2.2 : Int)]
theorem encR_length (r : Nat × Nat × Nat) : (encR r).length = 3 := rfl
end Go.Proofs.YtemkmkkpamhfoaaDoor.Lay
