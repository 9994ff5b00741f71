/- Contracts of num's Fits, split, join, and the document's Fits. -/
import Derived.Test.YtnpnigeghhcncaaNumA
namespace Go.Proofs.Ytnpnigeghhcncaa.Num
open Go.RowKit
set_option linter.unusedVariables false

theorem isW_cases {x : Int} (h : isW x = true) : x = 1 ∨ x = 2 ∨ x = 4 ∨ x = 8 := by simp [isW] at h; omega

/-! Fits -/
def fits (v x : Int) : Bool := isW x && decide (v < 2 ^ (8 * x.toNat))

theorem fits_1 (v : Int) (h0 : 0 ≤ v) : (v / 256 == 0) = fits v 1 := by
  rw [Bool.eq_iff_iff]; simp [fits, isW]; omega
theorem fits_2 (v : Int) (h0 : 0 ≤ v) : (v / 65536 == 0) = fits v 2 := by
  rw [Bool.eq_iff_iff]; simp [fits, isW]; omega
theorem fits_4 (v : Int) (h0 : 0 ≤ v) : (v / 4294967296 == 0) = fits v 4 := by
  rw [Bool.eq_iff_iff]; simp [fits, isW]; omega
theorem fits_8 (v : Int) (h0 : 0 ≤ v) : (v / 18446744073709551616 == 0) = fits v 8 := by
  rw [Bool.eq_iff_iff]; simp [fits, isW]; omega

/-- The number of bytes, the lowest first. -/
def le : List Int → Int
  | [] => 0
  | b :: r => b + 256 * le r

theorem or_add (x y : Int) (k : Nat) (p : Int) (hp : p = 2 ^ k) (h0 : 0 ≤ x) (h1 : x < p) (h2 : 0 ≤ y) (h3 : y * p + x < 18446744073709551616) : bits .or .u64 x (y * p) = x + y * p := by
  obtain ⟨a, rfl⟩ := Int.eq_ofNat_of_zero_le h0
  obtain ⟨b, rfl⟩ := Int.eq_ofNat_of_zero_le h2
  have e : p = ((2 ^ k : Nat) : Int) := by rw [hp]; norm_cast
  rw [e] at h1 h3 ⊢
  rw [← Int.natCast_mul] at h3 ⊢
  have g : a < 2 ^ k := by exact_mod_cast h1
  rw [u64_or_nat a (b * 2 ^ k) (by omega) (by omega)]
  have f := Nat.two_pow_add_eq_or_of_lt g b
  rw [Nat.or_comm, Nat.mul_comm, ← f]
  omega

theorem join_le (b0 b1 b2 b3 b4 b5 b6 b7 : Int) (h0 : 0 ≤ b0 ∧ b0 < 256) (h1 : 0 ≤ b1 ∧ b1 < 256) (h2 : 0 ≤ b2 ∧ b2 < 256) (h3 : 0 ≤ b3 ∧ b3 < 256)
    (h4 : 0 ≤ b4 ∧ b4 < 256) (h5 : 0 ≤ b5 ∧ b5 < 256) (h6 : 0 ≤ b6 ∧ b6 < 256) (h7 : 0 ≤ b7 ∧ b7 < 256) :
    (bits BinOp.or IntKind.u64 (bits BinOp.or IntKind.u64 (bits BinOp.or IntKind.u64 (bits BinOp.or IntKind.u64 (bits BinOp.or IntKind.u64
      (bits BinOp.or IntKind.u64 (bits BinOp.or IntKind.u64 (bits BinOp.or IntKind.u64 0 b0) (b1 * 256)) (b2 * 65536)) (b3 * 16777216)) (b4 * 4294967296))
        (b5 * 1099511627776)) (b6 * 281474976710656)) (b7 * 72057594037927936)) = le [b0, b1, b2, b3, b4, b5, b6, b7] := by
  have e0 : bits BinOp.or IntKind.u64 0 b0 = b0 := by
    have := or_add 0 b0 0 1 (by simp) (by omega) (by omega) (by omega) (by omega)
    simpa using this
  rw [e0, or_add b0 b1 8 256 (by simp) (by omega) (by omega) (by omega) (by omega)]
  rw [or_add _ b2 16 65536 (by simp) (by omega) (by omega) (by omega) (by omega)]
  rw [or_add _ b3 24 16777216 (by simp) (by omega) (by omega) (by omega) (by omega)]
  rw [or_add _ b4 32 4294967296 (by simp) (by omega) (by omega) (by omega) (by omega)]
  rw [or_add _ b5 40 1099511627776 (by simp) (by omega) (by omega) (by omega) (by omega)]
  rw [or_add _ b6 48 281474976710656 (by simp) (by omega) (by omega) (by omega) (by omega)]
  rw [or_add _ b7 56 72057594037927936 (by simp) (by omega) (by omega) (by omega) (by omega)]
  simp only [le]
  omega

end Go.Proofs.Ytnpnigeghhcncaa.Num
