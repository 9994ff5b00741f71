/- Contracts of num's Fits, split, join, and the document's Fits. -/
import Derived.Test.YtkknegnipodcnaaDoorNumA
namespace Go.Proofs.YtkknegnipodcnaaDoor.Num
open Go.RowKit
set_option linter.unusedVariables false

theorem isW_cases {x : Int} (h : isW x = true) : x = 1 ∨ x = 2 ∨ x = 4 ∨ x = 8 := by simp [isW] at h; omega

/-! Fits -/
def fits (v x : Int) : Bool := isW x && decide (v < 2 ^ (8 * x.toNat))

theorem fits_1 (v : Int) (h0 : 0 ≤ v) : (v / 256 == 0) = fits v 1 := by
  rw [Bool.eq_iff_iff]; simp [fits, isW]; omega
theorem fits_2 (v : Int) (h0 : 0 ≤ v) : (v / 65536 == 0) = fits v 2 := by
  rw [Bool.eq_iff_iff]; simp [fits, isW]; omega
theorem fits_4 (v : Int) (h0 : 0 ≤ v) : (v / 4294967296 == 0) = fits v 4 := by
  rw [Bool.eq_iff_iff]; simp [fits, isW]; omega
theorem fits_8 (v : Int) (h0 : 0 ≤ v) : (v / 18446744073709551616 == 0) = fits v 8 := by
  rw [Bool.eq_iff_iff]; simp [fits, isW]; omega

theorem fits_any (v x : Int) (w : World) (h0 : 0 ≤ v) (h1 : v < 18446744073709551616) :
    Calls Tryd.prog 53 #[.int .u64 v, .int .i64 x] w fun e w' => e = .returned (.bool (fits v x)) ∧ w = w' := by
  by_cases hw : isW x = true
  · rcases isW_cases hw with rfl | rfl | rfl | rfl
    all_goals
      have Hw := Lib.hid hw
      clear hw
      go_enter Tryd.func53, Tryd.ntmps53
      go_wp2_with (go_at_call 77; refine (isWidth_any _ _).mono ?_; rintro e w' ⟨rfl, rfl⟩; rw [Hw.out])
      go_ret
    · exact ⟨ret_bool (fits_1 v h0), rfl⟩
    · exact ⟨ret_bool (fits_2 v h0), rfl⟩
    · exact ⟨ret_bool (fits_4 v h0), rfl⟩
    · exact ⟨ret_bool (fits_8 v h0), rfl⟩
  · have h : isW x = false := by simpa using hw
    have Hw := Lib.hid h
    clear hw h
    go_enter Tryd.func53, Tryd.ntmps53
    go_wp2_with (go_at_call 77; refine (isWidth_any _ _).mono ?_; rintro e w' ⟨rfl, rfl⟩; rw [Hw.out])
    go_ret
    exact ⟨ret_bool (by rw [fits, Hw.out]; rfl), rfl⟩

/-- The number of bytes, the lowest first. -/
def le : List Int → Int
  | [] => 0
  | b :: r => b + 256 * le r

theorem or_add (x y : Int) (k : Nat) (p : Int) (hp : p = 2 ^ k) (h0 : 0 ≤ x) (h1 : x < p) (h2 : 0 ≤ y) (h3 : y * p + x < 18446744073709551616) : bits .or .u64 x (y * p) = x + y * p := by
  obtain ⟨a, rfl⟩ := Int.eq_ofNat_of_zero_le h0
  obtain ⟨b, rfl⟩ := Int.eq_ofNat_of_zero_le h2
  have e : p = ((2 ^ k : Nat) : Int) := by rw [hp]; norm_cast
  rw [e] at h1 h3 ⊢
  rw [← Int.natCast_mul] at h3 ⊢
  have g : a < 2 ^ k := by exact_mod_cast h1
  rw [u64_or_nat a (b * 2 ^ k) (by omega) (by omega)]
  have f := Nat.two_pow_add_eq_or_of_lt g b
  rw [Nat.or_comm, Nat.mul_comm, ← f]
  omega

theorem join_le (b0 b1 b2 b3 b4 b5 b6 b7 : Int) (h0 : 0 ≤ b0 ∧ b0 < 256) (h1 : 0 ≤ b1 ∧ b1 < 256) (h2 : 0 ≤ b2 ∧ b2 < 256) (h3 : 0 ≤ b3 ∧ b3 < 256)
    (h4 : 0 ≤ b4 ∧ b4 < 256) (h5 : 0 ≤ b5 ∧ b5 < 256) (h6 : 0 ≤ b6 ∧ b6 < 256) (h7 : 0 ≤ b7 ∧ b7 < 256) :
    (bits BinOp.or IntKind.u64 (bits BinOp.or IntKind.u64 (bits BinOp.or IntKind.u64 (bits BinOp.or IntKind.u64 (bits BinOp.or IntKind.u64
      (bits BinOp.or IntKind.u64 (bits BinOp.or IntKind.u64 (bits BinOp.or IntKind.u64 0 b0) (b1 * 256)) (b2 * 65536)) (b3 * 16777216)) (b4 * 4294967296))
        (b5 * 1099511627776)) (b6 * 281474976710656)) (b7 * 72057594037927936)) = le [b0, b1, b2, b3, b4, b5, b6, b7] := by
  have e0 : bits BinOp.or IntKind.u64 0 b0 = b0 := by
    have := or_add 0 b0 0 1 (by simp) (by omega) (by omega) (by omega) (by omega)
    simpa using this
  rw [e0, or_add b0 b1 8 256 (by simp) (by omega) (by omega) (by omega) (by omega)]
  rw [or_add _ b2 16 65536 (by simp) (by omega) (by omega) (by omega) (by omega)]
  rw [or_add _ b3 24 16777216 (by simp) (by omega) (by omega) (by omega) (by omega)]
  rw [or_add _ b4 32 4294967296 (by simp) (by omega) (by omega) (by omega) (by omega)]
  rw [or_add _ b5 40 1099511627776 (by simp) (by omega) (by omega) (by omega) (by omega)]
  rw [or_add _ b6 48 281474976710656 (by simp) (by omega) (by omega) (by omega) (by omega)]
  rw [or_add _ b7 56 72057594037927936 (by simp) (by omega) (by omega) (by omega) (by omega)]
  simp only [le]
  omega

theorem join_any (b0 b1 b2 b3 b4 b5 b6 b7 : Int) (w : World) (h0 : 0 ≤ b0 ∧ b0 < 256) (h1 : 0 ≤ b1 ∧ b1 < 256) (h2 : 0 ≤ b2 ∧ b2 < 256) (h3 : 0 ≤ b3 ∧ b3 < 256)
    (h4 : 0 ≤ b4 ∧ b4 < 256) (h5 : 0 ≤ b5 ∧ b5 < 256) (h6 : 0 ≤ b6 ∧ b6 < 256) (h7 : 0 ≤ b7 ∧ b7 < 256) :
    Calls Tryd.prog 79 #[.agg #[.int .u8 b0, .int .u8 b1, .int .u8 b2, .int .u8 b3, .int .u8 b4, .int .u8 b5, .int .u8 b6, .int .u8 b7]] w
      fun e w' => e = .returned (.int .u64 (le [b0, b1, b2, b3, b4, b5, b6, b7])) ∧ Below w.heap.size w w' := by
  obtain ⟨h0a, h0b⟩ := h0
  obtain ⟨h1a, h1b⟩ := h1
  obtain ⟨h2a, h2b⟩ := h2
  obtain ⟨h3a, h3b⟩ := h3
  obtain ⟨h4a, h4b⟩ := h4
  obtain ⟨h5a, h5b⟩ := h5
  obtain ⟨h6a, h6b⟩ := h6
  obtain ⟨h7a, h7b⟩ := h7
  go_enter Tryd.func79, Tryd.ntmps79
  go_wp2
  refine wp_loop_rounds 9 ?_
  iterate 9 (rw [rounds_succ]; go_wp2)
  go_ret
  exact ⟨ret_int (join_le _ _ _ _ _ _ _ _ ⟨h0a, h0b⟩ ⟨h1a, h1b⟩ ⟨h2a, h2b⟩ ⟨h3a, h3b⟩ ⟨h4a, h4b⟩ ⟨h5a, h5b⟩ ⟨h6a, h6b⟩ ⟨h7a, h7b⟩), (Below.refl _ _).alloc (Nat.le_refl _) _⟩

theorem split_any (v : Int) (w : World) (h0 : 0 ≤ v) (h1 : v < 18446744073709551616) :
    Calls Tryd.prog 55 #[.int .u64 v] w
      fun e w' => e = .returned (.agg #[.int .u8 (v % 256), .int .u8 (v / 256 % 256), .int .u8 (v / 65536 % 256), .int .u8 (v / 16777216 % 256), .int .u8 (v / 4294967296 % 256), .int .u8 (v / 1099511627776 % 256), .int .u8 (v / 281474976710656 % 256), .int .u8 (v / 72057594037927936)]) ∧ Below w.heap.size w w' := by
  go_enter Tryd.func55, Tryd.ntmps55
  go_wp2
  refine wp_loop_rounds 9 ?_
  iterate 9 (rw [rounds_succ]; go_wp2)
  exact bodyPost_ret (v := .agg #[.int .u8 (v % 256), .int .u8 (v / 256 % 256), .int .u8 (v / 65536 % 256), .int .u8 (v / 16777216 % 256), .int .u8 (v / 4294967296 % 256), .int .u8 (v / 1099511627776 % 256), .int .u8 (v / 281474976710656 % 256), .int .u8 (v / 72057594037927936)])
    (by simp [results, Tryd.results55, go_sem]) rfl ⟨rfl, ((Below.refl _ _).alloc (Nat.le_refl _) _).alloc (by simp) _⟩
end Go.Proofs.YtkknegnipodcnaaDoor.Num
