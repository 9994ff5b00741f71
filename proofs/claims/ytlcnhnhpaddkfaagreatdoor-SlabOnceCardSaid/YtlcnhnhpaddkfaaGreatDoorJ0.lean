/- Contracts of num's small functions: isWidth, divides, placed, Fits, Halves, Round, and the document's. Contracts of num's Fits, split, join, and the document's Fits. -/
import Derived.Test.YtlcnhnhpaddkfaaGreatDoorRows
import Derived.WalkKit
import Derived.ProofKit
import Derived.Below
import Derived.Lib.Hide
import Derived.Deep.QuietTactic
import Derived.BigQuiet
import Derived.Outline
namespace Go.Proofs.YtlcnhnhpaddkfaaGreatDoor.Num
open Go.RowKit
set_option linter.unusedVariables false

def isW (w : Int) : Bool := w == 1 || w == 2 || w == 4 || w == 8

theorem ret_bool {a b : Bool} (h : a = b) : Ending.returned (.bool a) = .returned (.bool b) := by rw [h]
theorem ret_int {k : IntKind} {a b : Int} (h : a = b) : Ending.returned (.int k a) = .returned (.int k b) := by rw [h]

theorem isWidth_any (x : Int) (w : World) :
    Calls Tryz.prog 196 #[.int .i64 x] w fun e w' => e = .returned (.bool (isW x)) ∧ w = w' := by
  go_enter Tryz.func196, Tryz.ntmps196
  go_wp2
  all_goals
    go_ret
    exact ⟨ret_bool (by simp [isW, *]), rfl⟩

theorem refWidth_any (x : Int) (w : World) :
    Calls Tryz.prog 228 #[.int .i64 x] w fun e w' => e = .returned (.bool (isW x)) ∧ w = w' := by
  go_enter Tryz.func228, Tryz.ntmps228
  go_wp2
  all_goals
    go_ret
    exact ⟨ret_bool (by simp [isW, *]), rfl⟩

theorem divides_any (d n : Int) (w : World) (h1 : 1 ≤ d) (h0 : 0 ≤ n) :
    Calls Tryz.prog 231 #[.int .i64 d, .int .i64 n] w fun e w' => e = .returned (.bool (n % d == 0)) ∧ w = w' := by
  go_enter Tryz.func231, Tryz.ntmps231
  go_wp2
  go_ret
  exact ⟨rfl, rfl⟩

/-- Why an offset is not valid: 0, 6 or 9. -/
def plc (n at_ width : Int) : Int := if at_ < 0 ∨ n - width < at_ then 6 else if at_ % width = 0 then 0 else 9

theorem placed_any (n a x : Int) (w : World) (h1 : 1 ≤ x) (h2 : x ≤ 8) (h0 : 0 ≤ n) (hn : n ≤ 9223372036854775807) :
    Calls Tryz.prog 197 #[.int .i64 n, .int .i64 a, .int .i64 x] w fun e w' => e = .returned (.int .i64 (plc n a x)) ∧ w = w' := by
  by_cases h : a < 0
  · go_enter Tryz.func197, Tryz.ntmps197
    go_wp2
    go_ret
    exact ⟨ret_int (by simp [plc, h]), rfl⟩
  · by_cases h3 : n - x < a
    · go_enter Tryz.func197, Tryz.ntmps197
      go_wp2
      go_ret
      exact ⟨ret_int (by simp [plc, h3]), rfl⟩
    · have ha : 0 ≤ a := by omega
      by_cases h4 : a % x = 0
      · have h5 : (a % x == 0) = true := by simpa using h4
        go_enter Tryz.func197, Tryz.ntmps197
        go_wp2_with (go_at_call 231; refine (divides_any x a _ h1 ha).mono ?_; rintro e w' ⟨rfl, rfl⟩; rw [h5])
        go_ret
        exact ⟨ret_int (by unfold plc; rw [if_neg (by omega), if_pos h4]), rfl⟩
      · have h5 : (a % x == 0) = false := by simpa using h4
        go_enter Tryz.func197, Tryz.ntmps197
        go_wp2_with (go_at_call 231; refine (divides_any x a _ h1 ha).mono ?_; rintro e w' ⟨rfl, rfl⟩; rw [h5])
        go_ret
        exact ⟨ret_int (by unfold plc; rw [if_neg (by omega), if_neg h4]), rfl⟩

theorem isW_bd {x : Int} (h : isW x = true) : 1 ≤ x ∧ x ≤ 8 := by simp [isW] at h; omega

theorem refMay_yes (n a x : Int) (w : World) (hw : isW x = true) (h0 : 0 ≤ n) (hn : n ≤ 9223372036854775807) :
    Calls Tryz.prog 230 #[.int .i64 n, .int .i64 a, .int .i64 x] w fun e w' => e = .returned (.int .i64 (plc n a x)) ∧ w = w' := by
  obtain ⟨h1, h2⟩ := isW_bd hw
  have Hw := Lib.hid hw
  clear hw
  by_cases h : a < 0
  · go_enter Tryz.func230, Tryz.ntmps230
    go_wp2_with (go_at_call 228; refine (refWidth_any x _).mono ?_; rintro e w' ⟨rfl, rfl⟩; rw [Hw.out])
    go_ret
    exact ⟨ret_int (by simp [plc, h]), rfl⟩
  · by_cases h3 : n < a
    · have h6 : n - x < a := by omega
      go_enter Tryz.func230, Tryz.ntmps230
      go_wp2_with (go_at_call 228; refine (refWidth_any x _).mono ?_; rintro e w' ⟨rfl, rfl⟩; rw [Hw.out])
      go_ret
      exact ⟨ret_int (by simp [plc, h6]), rfl⟩
    · by_cases h7 : n - a < x
      · have h6 : n - x < a := by omega
        go_enter Tryz.func230, Tryz.ntmps230
        go_wp2_with (go_at_call 228; refine (refWidth_any x _).mono ?_; rintro e w' ⟨rfl, rfl⟩; rw [Hw.out])
        go_ret
        exact ⟨ret_int (by simp [plc, h6]), rfl⟩
      · have ha : 0 ≤ a := by omega
        by_cases h4 : a % x = 0
        · have h5 : (a % x == 0) = true := by simpa using h4
          go_enter Tryz.func230, Tryz.ntmps230
          go_wp2_with (go_at_call 228; refine (refWidth_any x _).mono ?_; rintro e w' ⟨rfl, rfl⟩; rw [Hw.out])
          go_ret
          exact ⟨ret_int (by unfold plc; rw [if_neg (by omega), if_pos h4]), rfl⟩
        · have h5 : (a % x == 0) = false := by simpa using h4
          go_enter Tryz.func230, Tryz.ntmps230
          go_wp2_with (go_at_call 228; refine (refWidth_any x _).mono ?_; rintro e w' ⟨rfl, rfl⟩; rw [Hw.out])
          go_ret
          exact ⟨ret_int (by unfold plc; rw [if_neg (by omega), if_neg h4]), rfl⟩

theorem refMay_no (n a x : Int) (w : World) (hw : isW x = false) :
    Calls Tryz.prog 230 #[.int .i64 n, .int .i64 a, .int .i64 x] w fun e w' => e = .returned (.int .i64 2) ∧ w = w' := by
  have Hw := Lib.hid hw
  clear hw
  go_enter Tryz.func230, Tryz.ntmps230
  go_wp2_with (go_at_call 228; refine (refWidth_any x _).mono ?_; rintro e w' ⟨rfl, rfl⟩; rw [Hw.out])
  go_ret
  exact ⟨rfl, rfl⟩

/-! Halves -/
def halves : Nat → Nat → Nat
  | 0, _ => 0
  | f + 1, n => if n = 0 then 0 else halves f (n / 2) + 1
/-- How often n is halved. -/
def hlv (n : Int) : Nat := halves n.toNat n.toNat

theorem halves_fuel : ∀ (f g n : Nat), n ≤ f → n ≤ g → halves f n = halves g n := by
  intro f
  induction f with
  | zero => intro g n h1 h2; obtain rfl : n = 0 := by omega
            cases g <;> simp [halves]
  | succ f ih => intro g n h1 h2
                 cases g with
                 | zero => obtain rfl : n = 0 := by omega
                           simp [halves]
                 | succ g => simp only [halves]
                             split
                             · rfl
                             · rw [ih g (n / 2) (by omega) (by omega)]
theorem hlv_pos (n : Int) (h : 0 < n) : hlv n = hlv (n / 2) + 1 := by
  unfold hlv
  obtain ⟨m, rfl⟩ := Int.eq_ofNat_of_zero_le (Int.le_of_lt h)
  have h2 : ((m : Int) / 2).toNat = m / 2 := by omega
  rw [Int.toNat_natCast, h2]
  cases m with
  | zero => omega
  | succ k => rw [halves, if_neg (by omega), halves_fuel k ((k + 1) / 2) _ (by omega) (by omega)]
theorem hlv_nil (n : Int) (h : n ≤ 0) : hlv n = 0 := by
  unfold hlv
  rw [show n.toNat = 0 from by omega]
  rfl
theorem halves_le : ∀ (f n : Nat), halves f n ≤ f := by
  intro f
  induction f with
  | zero => intro n; simp [halves]
  | succ f ih => intro n
                 simp only [halves]
                 split
                 · omega
                 · have := ih (n / 2); omega

theorem hlv_le (n : Int) : (hlv n : Int) ≤ 9223372036854775807 ∨ 9223372036854775807 < n := by
  have := halves_le n.toNat n.toNat
  unfold hlv
  omega

def rnd (n t : Int) : Int := if n < 0 ∨ 1073741824 < n ∨ t < 1 ∨ 4096 < t then 0 else if n % t = 0 then n else n - n % t + t

theorem rnd_spec (n t : Int) (b1 : 0 ≤ n) (b2 : n ≤ 1073741824) (b3 : 1 ≤ t) (b4 : t ≤ 4096) : rnd n t % t = 0 ∧ n ≤ rnd n t ∧ rnd n t < n + t := by
  have b5 := Int.emod_nonneg n (show t ≠ 0 by omega)
  have b6 := Int.emod_lt_of_pos n (show 0 < t by omega)
  rw [rnd, if_neg (by omega)]
  split
  · omega
  · refine ⟨?_, by omega, by omega⟩
    have e : n - n % t + t = t * (n / t + 1) := by
      have := Int.emod_add_mul_ediv n t
      rw [Int.mul_add]; omega
    rw [e]; exact Int.mul_emod_right _ _
theorem mod_eq_of_close (m R t : Int) (h3 : 1 ≤ t) (h1 : m ≤ R) (h2 : R < m + t) (hm : m % t = 0) (hR : R % t = 0) : m = R := by
  have a := Int.mul_ediv_cancel' (Int.dvd_of_emod_eq_zero hm)
  have b := Int.mul_ediv_cancel' (Int.dvd_of_emod_eq_zero hR)
  have c : t * (R / t - m / t) = R - m := by rw [Int.mul_sub]; omega
  have d : R / t - m / t < 1 := by
    apply Int.lt_of_mul_lt_mul_left (a := t) _ (by omega)
    omega
  have f : 0 ≤ R / t - m / t := by
    by_cases hneg : 0 ≤ R / t - m / t
    · exact hneg
    · have : t * (R / t - m / t) ≤ t * (-1) := Int.mul_le_mul_of_nonneg_left (by omega) (by omega)
      omega
  have g : R / t - m / t = 0 := by omega
  rw [g] at c
  omega

end Go.Proofs.YtlcnhnhpaddkfaaGreatDoor.Num

namespace Go.Proofs.YtlcnhnhpaddkfaaGreatDoor.Num
open Go.RowKit
set_option linter.unusedVariables false

theorem isW_cases {x : Int} (h : isW x = true) : x = 1 ∨ x = 2 ∨ x = 4 ∨ x = 8 := by simp [isW] at h; omega

/-! Fits -/
def fits (v x : Int) : Bool := isW x && decide (v < 2 ^ (8 * x.toNat))

theorem fits_1 (v : Int) (h0 : 0 ≤ v) : (v / 256 == 0) = fits v 1 := by
  rw [Bool.eq_iff_iff]; simp [fits, isW]; omega
theorem fits_2 (v : Int) (h0 : 0 ≤ v) : (v / 65536 == 0) = fits v 2 := by
  rw [Bool.eq_iff_iff]; simp [fits, isW]; omega
theorem fits_4 (v : Int) (h0 : 0 ≤ v) : (v / 4294967296 == 0) = fits v 4 := by
  rw [Bool.eq_iff_iff]; simp [fits, isW]; omega
theorem fits_8 (v : Int) (h0 : 0 ≤ v) : (v / 18446744073709551616 == 0) = fits v 8 := by
  rw [Bool.eq_iff_iff]; simp [fits, isW]; omega

theorem fits_any (v x : Int) (w : World) (h0 : 0 ≤ v) (h1 : v < 18446744073709551616) :
    Calls Tryz.prog 131 #[.int .u64 v, .int .i64 x] w fun e w' => e = .returned (.bool (fits v x)) ∧ w = w' := by
  by_cases hw : isW x = true
  · rcases isW_cases hw with rfl | rfl | rfl | rfl
    all_goals
      have Hw := Lib.hid hw
      clear hw
      go_enter Tryz.func131, Tryz.ntmps131
      go_wp2_with (go_at_call 196; refine (isWidth_any _ _).mono ?_; rintro e w' ⟨rfl, rfl⟩; rw [Hw.out])
      go_ret
    · exact ⟨ret_bool (fits_1 v h0), rfl⟩
    · exact ⟨ret_bool (fits_2 v h0), rfl⟩
    · exact ⟨ret_bool (fits_4 v h0), rfl⟩
    · exact ⟨ret_bool (fits_8 v h0), rfl⟩
  · have h : isW x = false := by simpa using hw
    have Hw := Lib.hid h
    clear hw h
    go_enter Tryz.func131, Tryz.ntmps131
    go_wp2_with (go_at_call 196; refine (isWidth_any _ _).mono ?_; rintro e w' ⟨rfl, rfl⟩; rw [Hw.out])
    go_ret
    exact ⟨ret_bool (by rw [fits, Hw.out]; rfl), rfl⟩

theorem refFits_any (v x : Int) (w : World) (h0 : 0 ≤ v) (h1 : v < 18446744073709551616) :
    Calls Tryz.prog 229 #[.int .u64 v, .int .i64 x] w fun e w' => e = .returned (.bool (fits v x)) ∧ w = w' := by
  by_cases hw : isW x = true
  · have Hw := Lib.hid hw
    obtain ⟨b1, b2⟩ := isW_bd hw
    obtain ⟨n, rfl⟩ := Int.eq_ofNat_of_zero_le (show 0 ≤ x by omega)
    clear hw
    go_enter Tryz.func229, Tryz.ntmps229
    go_wp2_with (go_at_call 228; refine (refWidth_any _ _).mono ?_; rintro e w' ⟨rfl, rfl⟩; rw [Hw.out])
    go_loop [0, 5] (fun m c => ∃ k : Nat, k ≤ n ∧ c = .int .i64 k ∧ m = .int .u64 (v / 256 ^ k)) (fun _ c => n - (intOf c).toNat)
    case atStart => exact ⟨0, by omega, rfl, by simp⟩
    case round =>
      obtain ⟨k, hk, rfl, rfl⟩ := hrel
      have g0 : 0 ≤ v / 256 ^ k := Int.ediv_nonneg h0 (Int.pow_nonneg (by omega))
      have g1 : v / 256 ^ k ≤ v := Int.ediv_le_self _ h0
      have G2 : Hid (v / 256 ^ k / 256 = v / 256 ^ (k + 1)) := by
        unfold Hid
        rw [Int.pow_succ, Int.ediv_ediv_of_nonneg (Int.pow_nonneg (by omega))]
      by_cases hlt : (k : Int) < (n : Int)
      · go_wp2
        go_round
        case rel => exact ⟨k + 1, by omega, by go_num, by rw [← G2.out]⟩
        case measure => simp [intOf]; omega
      · obtain rfl : k = n := by omega
        go_wp2
        go_ret
        refine ⟨ret_bool ?_, rfl⟩
        rw [fits, Hw.out, Bool.true_and, Bool.eq_iff_iff]
        have e : (256 : Int) ^ k = 2 ^ (8 * k) := by rw [Int.pow_mul]; rfl
        have p : (0 : Int) < 2 ^ (8 * k) := Int.pow_pos (by omega)
        simp only [Int.toNat_natCast, beq_iff_eq, decide_eq_true_eq, e]
        constructor
        · intro h
          have := Int.lt_ediv_add_one_mul_self v p
          rw [h] at this
          simpa using this
        · intro h
          exact Int.ediv_eq_zero_of_lt h0 h
  · have h : isW x = false := by simpa using hw
    have Hw := Lib.hid h
    clear hw h
    go_enter Tryz.func229, Tryz.ntmps229
    go_wp2_with (go_at_call 228; refine (refWidth_any _ _).mono ?_; rintro e w' ⟨rfl, rfl⟩; rw [Hw.out])
    go_ret
    exact ⟨ret_bool (by rw [fits, Hw.out]; rfl), rfl⟩

/-- The number of bytes, the lowest first. -/
def le : List Int → Int
  | [] => 0
  | b :: r => b + 256 * le r

theorem or_add (x y : Int) (k : Nat) (p : Int) (hp : p = 2 ^ k) (h0 : 0 ≤ x) (h1 : x < p) (h2 : 0 ≤ y) (h3 : y * p + x < 18446744073709551616) : bits .or .u64 x (y * p) = x + y * p := by
  obtain ⟨a, rfl⟩ := Int.eq_ofNat_of_zero_le h0
  obtain ⟨b, rfl⟩ := Int.eq_ofNat_of_zero_le h2
  have e : p = ((2 ^ k : Nat) : Int) := by rw [hp]; norm_cast
  rw [e] at h1 h3 ⊢
  rw [← Int.natCast_mul] at h3 ⊢
  have g : a < 2 ^ k := by exact_mod_cast h1
  rw [u64_or_nat a (b * 2 ^ k) (by omega) (by omega)]
  have f := Nat.two_pow_add_eq_or_of_lt g b
  rw [Nat.or_comm, Nat.mul_comm, ← f]
  omega

theorem join_le (b0 b1 b2 b3 b4 b5 b6 b7 : Int) (h0 : 0 ≤ b0 ∧ b0 < 256) (h1 : 0 ≤ b1 ∧ b1 < 256) (h2 : 0 ≤ b2 ∧ b2 < 256) (h3 : 0 ≤ b3 ∧ b3 < 256)
    (h4 : 0 ≤ b4 ∧ b4 < 256) (h5 : 0 ≤ b5 ∧ b5 < 256) (h6 : 0 ≤ b6 ∧ b6 < 256) (h7 : 0 ≤ b7 ∧ b7 < 256) :
    (bits BinOp.or IntKind.u64 (bits BinOp.or IntKind.u64 (bits BinOp.or IntKind.u64 (bits BinOp.or IntKind.u64 (bits BinOp.or IntKind.u64
      (bits BinOp.or IntKind.u64 (bits BinOp.or IntKind.u64 (bits BinOp.or IntKind.u64 0 b0) (b1 * 256)) (b2 * 65536)) (b3 * 16777216)) (b4 * 4294967296))
        (b5 * 1099511627776)) (b6 * 281474976710656)) (b7 * 72057594037927936)) = le [b0, b1, b2, b3, b4, b5, b6, b7] := by
  have e0 : bits BinOp.or IntKind.u64 0 b0 = b0 := by
    have := or_add 0 b0 0 1 (by simp) (by omega) (by omega) (by omega) (by omega)
    simpa using this
  rw [e0, or_add b0 b1 8 256 (by simp) (by omega) (by omega) (by omega) (by omega)]
  rw [or_add _ b2 16 65536 (by simp) (by omega) (by omega) (by omega) (by omega)]
  rw [or_add _ b3 24 16777216 (by simp) (by omega) (by omega) (by omega) (by omega)]
  rw [or_add _ b4 32 4294967296 (by simp) (by omega) (by omega) (by omega) (by omega)]
  rw [or_add _ b5 40 1099511627776 (by simp) (by omega) (by omega) (by omega) (by omega)]
  rw [or_add _ b6 48 281474976710656 (by simp) (by omega) (by omega) (by omega) (by omega)]
  rw [or_add _ b7 56 72057594037927936 (by simp) (by omega) (by omega) (by omega) (by omega)]
  simp only [le]
  omega

theorem join_any (b0 b1 b2 b3 b4 b5 b6 b7 : Int) (w : World) (h0 : 0 ≤ b0 ∧ b0 < 256) (h1 : 0 ≤ b1 ∧ b1 < 256) (h2 : 0 ≤ b2 ∧ b2 < 256) (h3 : 0 ≤ b3 ∧ b3 < 256)
    (h4 : 0 ≤ b4 ∧ b4 < 256) (h5 : 0 ≤ b5 ∧ b5 < 256) (h6 : 0 ≤ b6 ∧ b6 < 256) (h7 : 0 ≤ b7 ∧ b7 < 256) :
    Calls Tryz.prog 198 #[.agg #[.int .u8 b0, .int .u8 b1, .int .u8 b2, .int .u8 b3, .int .u8 b4, .int .u8 b5, .int .u8 b6, .int .u8 b7]] w
      fun e w' => e = .returned (.int .u64 (le [b0, b1, b2, b3, b4, b5, b6, b7])) ∧ Below w.heap.size w w' := by
  obtain ⟨h0a, h0b⟩ := h0
  obtain ⟨h1a, h1b⟩ := h1
  obtain ⟨h2a, h2b⟩ := h2
  obtain ⟨h3a, h3b⟩ := h3
  obtain ⟨h4a, h4b⟩ := h4
  obtain ⟨h5a, h5b⟩ := h5
  obtain ⟨h6a, h6b⟩ := h6
  obtain ⟨h7a, h7b⟩ := h7
  go_enter Tryz.func198, Tryz.ntmps198
  go_wp2
  refine wp_loop_rounds 9 ?_
  iterate 9 (rw [rounds_succ]; go_wp2)
  go_ret
  exact ⟨ret_int (join_le _ _ _ _ _ _ _ _ ⟨h0a, h0b⟩ ⟨h1a, h1b⟩ ⟨h2a, h2b⟩ ⟨h3a, h3b⟩ ⟨h4a, h4b⟩ ⟨h5a, h5b⟩ ⟨h6a, h6b⟩ ⟨h7a, h7b⟩), (Below.refl _ _).alloc (Nat.le_refl _) _⟩

theorem split_any (v : Int) (w : World) (h0 : 0 ≤ v) (h1 : v < 18446744073709551616) :
    Calls Tryz.prog 199 #[.int .u64 v] w
      fun e w' => e = .returned (.agg #[.int .u8 (v % 256), .int .u8 (v / 256 % 256), .int .u8 (v / 65536 % 256), .int .u8 (v / 16777216 % 256), .int .u8 (v / 4294967296 % 256), .int .u8 (v / 1099511627776 % 256), .int .u8 (v / 281474976710656 % 256), .int .u8 (v / 72057594037927936)]) ∧ Below w.heap.size w w' := by
  go_enter Tryz.func199, Tryz.ntmps199
  go_wp2
  refine wp_loop_rounds 9 ?_
  iterate 9 (rw [rounds_succ]; go_wp2)
  exact bodyPost_ret (v := .agg #[.int .u8 (v % 256), .int .u8 (v / 256 % 256), .int .u8 (v / 65536 % 256), .int .u8 (v / 16777216 % 256), .int .u8 (v / 4294967296 % 256), .int .u8 (v / 1099511627776 % 256), .int .u8 (v / 281474976710656 % 256), .int .u8 (v / 72057594037927936)])
    (by simp [results, Tryz.results199, go_sem]) rfl ⟨rfl, ((Below.refl _ _).alloc (Nat.le_refl _) _).alloc (by simp) _⟩
end Go.Proofs.YtlcnhnhpaddkfaaGreatDoor.Num
