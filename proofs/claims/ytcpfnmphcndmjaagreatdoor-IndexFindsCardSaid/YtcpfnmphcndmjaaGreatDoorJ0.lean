/- Contracts of num's small functions: isWidth, divides, placed, Fits, Halves, Round, and the document's. Contracts of num's Fits, split, join, and the document's Fits. -/
import Derived.Test.YtcpfnmphcndmjaaGreatDoorRows
import Derived.WalkKit
import Derived.ProofKit
import Derived.Below
import Derived.Lib.Hide
import Derived.Deep.QuietTactic
import Derived.BigQuiet
import Derived.Outline
namespace Go.Proofs.YtcpfnmphcndmjaaGreatDoor.Num
open Go.RowKit
set_option linter.unusedVariables false

def isW (w : Int) : Bool := w == 1 || w == 2 || w == 4 || w == 8

theorem ret_bool {a b : Bool} (h : a = b) : Ending.returned (.bool a) = .returned (.bool b) := by rw [h]
theorem ret_int {k : IntKind} {a b : Int} (h : a = b) : Ending.returned (.int k a) = .returned (.int k b) := by rw [h]

theorem isWidth_any (x : Int) (w : World) :
    Calls Tryz.prog 169 #[.int .i64 x] w fun e w' => e = .returned (.bool (isW x)) ∧ w = w' := by
  go_enter Tryz.func169, Tryz.ntmps169
  go_wp2
  all_goals
    go_ret
    exact ⟨ret_bool (by simp [isW, *]), rfl⟩

theorem divides_any (d n : Int) (w : World) (h1 : 1 ≤ d) (h0 : 0 ≤ n) :
    Calls Tryz.prog 193 #[.int .i64 d, .int .i64 n] w fun e w' => e = .returned (.bool (n % d == 0)) ∧ w = w' := by
  go_enter Tryz.func193, Tryz.ntmps193
  go_wp2
  go_ret
  exact ⟨rfl, rfl⟩

/-- Why an offset is not valid: 0, 6 or 9. -/
def plc (n at_ width : Int) : Int := if at_ < 0 ∨ n - width < at_ then 6 else if at_ % width = 0 then 0 else 9

theorem placed_any (n a x : Int) (w : World) (h1 : 1 ≤ x) (h2 : x ≤ 8) (h0 : 0 ≤ n) (hn : n ≤ 9223372036854775807) :
    Calls Tryz.prog 170 #[.int .i64 n, .int .i64 a, .int .i64 x] w fun e w' => e = .returned (.int .i64 (plc n a x)) ∧ w = w' := by
  by_cases h : a < 0
  · go_enter Tryz.func170, Tryz.ntmps170
    go_wp2
    go_ret
    exact ⟨ret_int (by simp [plc, h]), rfl⟩
  · by_cases h3 : n - x < a
    · go_enter Tryz.func170, Tryz.ntmps170
      go_wp2
      go_ret
      exact ⟨ret_int (by simp [plc, h3]), rfl⟩
    · have ha : 0 ≤ a := by omega
      by_cases h4 : a % x = 0
      · have h5 : (a % x == 0) = true := by simpa using h4
        go_enter Tryz.func170, Tryz.ntmps170
        go_wp2_with (go_at_call 193; refine (divides_any x a _ h1 ha).mono ?_; rintro e w' ⟨rfl, rfl⟩; rw [h5])
        go_ret
        exact ⟨ret_int (by unfold plc; rw [if_neg (by omega), if_pos h4]), rfl⟩
      · have h5 : (a % x == 0) = false := by simpa using h4
        go_enter Tryz.func170, Tryz.ntmps170
        go_wp2_with (go_at_call 193; refine (divides_any x a _ h1 ha).mono ?_; rintro e w' ⟨rfl, rfl⟩; rw [h5])
        go_ret
        exact ⟨ret_int (by unfold plc; rw [if_neg (by omega), if_neg h4]), rfl⟩

theorem isW_bd {x : Int} (h : isW x = true) : 1 ≤ x ∧ x ≤ 8 := by simp [isW] at h; omega

def halves : Nat → Nat → Nat
  | 0, _ => 0
  | f + 1, n => if n = 0 then 0 else halves f (n / 2) + 1
/-- How often n is halved. -/
def hlv (n : Int) : Nat := halves n.toNat n.toNat

end Go.Proofs.YtcpfnmphcndmjaaGreatDoor.Num

namespace Go.Proofs.YtcpfnmphcndmjaaGreatDoor.Num
open Go.RowKit
set_option linter.unusedVariables false

theorem isW_cases {x : Int} (h : isW x = true) : x = 1 ∨ x = 2 ∨ x = 4 ∨ x = 8 := by simp [isW] at h; omega

/-! Fits -/
def fits (v x : Int) : Bool := isW x && decide (v < 2 ^ (8 * x.toNat))

theorem fits_1 (v : Int) (h0 : 0 ≤ v) : (v / 256 == 0) = fits v 1 := by
  rw [Bool.eq_iff_iff]; simp [fits, isW]; omega
theorem fits_2 (v : Int) (h0 : 0 ≤ v) : (v / 65536 == 0) = fits v 2 := by
  rw [Bool.eq_iff_iff]; simp [fits, isW]; omega
theorem fits_4 (v : Int) (h0 : 0 ≤ v) : (v / 4294967296 == 0) = fits v 4 := by
  rw [Bool.eq_iff_iff]; simp [fits, isW]; omega
theorem fits_8 (v : Int) (h0 : 0 ≤ v) : (v / 18446744073709551616 == 0) = fits v 8 := by
  rw [Bool.eq_iff_iff]; simp [fits, isW]; omega

theorem fits_any (v x : Int) (w : World) (h0 : 0 ≤ v) (h1 : v < 18446744073709551616) :
    Calls Tryz.prog 131 #[.int .u64 v, .int .i64 x] w fun e w' => e = .returned (.bool (fits v x)) ∧ w = w' := by
  by_cases hw : isW x = true
  · rcases isW_cases hw with rfl | rfl | rfl | rfl
    all_goals
      have Hw := Lib.hid hw
      clear hw
      go_enter Tryz.func131, Tryz.ntmps131
      go_wp2_with (go_at_call 169; refine (isWidth_any _ _).mono ?_; rintro e w' ⟨rfl, rfl⟩; rw [Hw.out])
      go_ret
    · exact ⟨ret_bool (fits_1 v h0), rfl⟩
    · exact ⟨ret_bool (fits_2 v h0), rfl⟩
    · exact ⟨ret_bool (fits_4 v h0), rfl⟩
    · exact ⟨ret_bool (fits_8 v h0), rfl⟩
  · have h : isW x = false := by simpa using hw
    have Hw := Lib.hid h
    clear hw h
    go_enter Tryz.func131, Tryz.ntmps131
    go_wp2_with (go_at_call 169; refine (isWidth_any _ _).mono ?_; rintro e w' ⟨rfl, rfl⟩; rw [Hw.out])
    go_ret
    exact ⟨ret_bool (by rw [fits, Hw.out]; rfl), rfl⟩

/-- The number of bytes, the lowest first. -/
def le : List Int → Int
  | [] => 0
  | b :: r => b + 256 * le r

theorem or_add (x y : Int) (k : Nat) (p : Int) (hp : p = 2 ^ k) (h0 : 0 ≤ x) (h1 : x < p) (h2 : 0 ≤ y) (h3 : y * p + x < 18446744073709551616) : bits .or .u64 x (y * p) = x + y * p := by
  obtain ⟨a, rfl⟩ := Int.eq_ofNat_of_zero_le h0
  obtain ⟨b, rfl⟩ := Int.eq_ofNat_of_zero_le h2
  have e : p = ((2 ^ k : Nat) : Int) := by rw [hp]; norm_cast
  rw [e] at h1 h3 ⊢
  rw [← Int.natCast_mul] at h3 ⊢
  have g : a < 2 ^ k := by exact_mod_cast h1
  rw [u64_or_nat a (b * 2 ^ k) (by omega) (by omega)]
  have f := Nat.two_pow_add_eq_or_of_lt g b
  rw [Nat.or_comm, Nat.mul_comm, ← f]
  omega

theorem join_le (b0 b1 b2 b3 b4 b5 b6 b7 : Int) (h0 : 0 ≤ b0 ∧ b0 < 256) (h1 : 0 ≤ b1 ∧ b1 < 256) (h2 : 0 ≤ b2 ∧ b2 < 256) (h3 : 0 ≤ b3 ∧ b3 < 256)
    (h4 : 0 ≤ b4 ∧ b4 < 256) (h5 : 0 ≤ b5 ∧ b5 < 256) (h6 : 0 ≤ b6 ∧ b6 < 256) (h7 : 0 ≤ b7 ∧ b7 < 256) :
    (bits BinOp.or IntKind.u64 (bits BinOp.or IntKind.u64 (bits BinOp.or IntKind.u64 (bits BinOp.or IntKind.u64 (bits BinOp.or IntKind.u64
      (bits BinOp.or IntKind.u64 (bits BinOp.or IntKind.u64 (bits BinOp.or IntKind.u64 0 b0) (b1 * 256)) (b2 * 65536)) (b3 * 16777216)) (b4 * 4294967296))
        (b5 * 1099511627776)) (b6 * 281474976710656)) (b7 * 72057594037927936)) = le [b0, b1, b2, b3, b4, b5, b6, b7] := by
  have e0 : bits BinOp.or IntKind.u64 0 b0 = b0 := by
    have := or_add 0 b0 0 1 (by simp) (by omega) (by omega) (by omega) (by omega)
    simpa using this
  rw [e0, or_add b0 b1 8 256 (by simp) (by omega) (by omega) (by omega) (by omega)]
  rw [or_add _ b2 16 65536 (by simp) (by omega) (by omega) (by omega) (by omega)]
  rw [or_add _ b3 24 16777216 (by simp) (by omega) (by omega) (by omega) (by omega)]
  rw [or_add _ b4 32 4294967296 (by simp) (by omega) (by omega) (by omega) (by omega)]
  rw [or_add _ b5 40 1099511627776 (by simp) (by omega) (by omega) (by omega) (by omega)]
  rw [or_add _ b6 48 281474976710656 (by simp) (by omega) (by omega) (by omega) (by omega)]
  rw [or_add _ b7 56 72057594037927936 (by simp) (by omega) (by omega) (by omega) (by omega)]
  simp only [le]
  omega

theorem join_any (b0 b1 b2 b3 b4 b5 b6 b7 : Int) (w : World) (h0 : 0 ≤ b0 ∧ b0 < 256) (h1 : 0 ≤ b1 ∧ b1 < 256) (h2 : 0 ≤ b2 ∧ b2 < 256) (h3 : 0 ≤ b3 ∧ b3 < 256)
    (h4 : 0 ≤ b4 ∧ b4 < 256) (h5 : 0 ≤ b5 ∧ b5 < 256) (h6 : 0 ≤ b6 ∧ b6 < 256) (h7 : 0 ≤ b7 ∧ b7 < 256) :
    Calls Tryz.prog 171 #[.agg #[.int .u8 b0, .int .u8 b1, .int .u8 b2, .int .u8 b3, .int .u8 b4, .int .u8 b5, .int .u8 b6, .int .u8 b7]] w
      fun e w' => e = .returned (.int .u64 (le [b0, b1, b2, b3, b4, b5, b6, b7])) ∧ Below w.heap.size w w' := by
  obtain ⟨h0a, h0b⟩ := h0
  obtain ⟨h1a, h1b⟩ := h1
  obtain ⟨h2a, h2b⟩ := h2
  obtain ⟨h3a, h3b⟩ := h3
  obtain ⟨h4a, h4b⟩ := h4
  obtain ⟨h5a, h5b⟩ := h5
  obtain ⟨h6a, h6b⟩ := h6
  obtain ⟨h7a, h7b⟩ := h7
  go_enter Tryz.func171, Tryz.ntmps171
  go_wp2
  refine wp_loop_rounds 9 ?_
  iterate 9 (rw [rounds_succ]; go_wp2)
  go_ret
  exact ⟨ret_int (join_le _ _ _ _ _ _ _ _ ⟨h0a, h0b⟩ ⟨h1a, h1b⟩ ⟨h2a, h2b⟩ ⟨h3a, h3b⟩ ⟨h4a, h4b⟩ ⟨h5a, h5b⟩ ⟨h6a, h6b⟩ ⟨h7a, h7b⟩), (Below.refl _ _).alloc (Nat.le_refl _) _⟩

theorem split_any (v : Int) (w : World) (h0 : 0 ≤ v) (h1 : v < 18446744073709551616) :
    Calls Tryz.prog 172 #[.int .u64 v] w
      fun e w' => e = .returned (.agg #[.int .u8 (v % 256), .int .u8 (v / 256 % 256), .int .u8 (v / 65536 % 256), .int .u8 (v / 16777216 % 256), .int .u8 (v / 4294967296 % 256), .int .u8 (v / 1099511627776 % 256), .int .u8 (v / 281474976710656 % 256), .int .u8 (v / 72057594037927936)]) ∧ Below w.heap.size w w' := by
  go_enter Tryz.func172, Tryz.ntmps172
  go_wp2
  refine wp_loop_rounds 9 ?_
  iterate 9 (rw [rounds_succ]; go_wp2)
  exact bodyPost_ret (v := .agg #[.int .u8 (v % 256), .int .u8 (v / 256 % 256), .int .u8 (v / 65536 % 256), .int .u8 (v / 16777216 % 256), .int .u8 (v / 4294967296 % 256), .int .u8 (v / 1099511627776 % 256), .int .u8 (v / 281474976710656 % 256), .int .u8 (v / 72057594037927936)])
    (by simp [results, Tryz.results172, go_sem]) rfl ⟨rfl, ((Below.refl _ _).alloc (Nat.le_refl _) _).alloc (by simp) _⟩
end Go.Proofs.YtcpfnmphcndmjaaGreatDoor.Num
