/- Contracts of num's small functions: isWidth, divides, placed, Fits, Halves, Round, and the document's. -/
import Derived.Test.YtkknegnipodcnaaDoorRows
import Derived.WalkKit
import Derived.ProofKit
import Derived.Below
import Derived.Lib.Hide
import Derived.Deep.QuietTactic
import Derived.BigQuiet
import Derived.Outline
namespace Go.Proofs.YtkknegnipodcnaaDoor.Num
open Go.RowKit
set_option linter.unusedVariables false

def isW (w : Int) : Bool := w == 1 || w == 2 || w == 4 || w == 8

theorem ret_bool {a b : Bool} (h : a = b) : Ending.returned (.bool a) = .returned (.bool b) := by rw [h]
theorem ret_int {k : IntKind} {a b : Int} (h : a = b) : Ending.returned (.int k a) = .returned (.int k b) := by rw [h]

theorem isWidth_any (x : Int) (w : World) :
    Calls Tryd.prog 77 #[.int .i64 x] w fun e w' => e = .returned (.bool (isW x)) ∧ w = w' := by
  go_enter Tryd.func77, Tryd.ntmps77
  go_wp2
  all_goals
    go_ret
    exact ⟨ret_bool (by simp [isW, *]), rfl⟩

theorem divides_any (d n : Int) (w : World) (h1 : 1 ≤ d) (h0 : 0 ≤ n) :
    Calls Tryd.prog 78 #[.int .i64 d, .int .i64 n] w fun e w' => e = .returned (.bool (n % d == 0)) ∧ w = w' := by
  go_enter Tryd.func78, Tryd.ntmps78
  go_wp2
  go_ret
  exact ⟨rfl, rfl⟩

/-- Why an offset is not valid: 0, 6 or 9. -/
def plc (n at_ width : Int) : Int := if at_ < 0 ∨ n - width < at_ then 6 else if at_ % width = 0 then 0 else 9

theorem placed_any (n a x : Int) (w : World) (h1 : 1 ≤ x) (h2 : x ≤ 8) (h0 : 0 ≤ n) (hn : n ≤ 9223372036854775807) :
    Calls Tryd.prog 54 #[.int .i64 n, .int .i64 a, .int .i64 x] w fun e w' => e = .returned (.int .i64 (plc n a x)) ∧ w = w' := by
  by_cases h : a < 0
  · go_enter Tryd.func54, Tryd.ntmps54
    go_wp2
    go_ret
    exact ⟨ret_int (by simp [plc, h]), rfl⟩
  · by_cases h3 : n - x < a
    · go_enter Tryd.func54, Tryd.ntmps54
      go_wp2
      go_ret
      exact ⟨ret_int (by simp [plc, h3]), rfl⟩
    · have ha : 0 ≤ a := by omega
      by_cases h4 : a % x = 0
      · have h5 : (a % x == 0) = true := by simpa using h4
        go_enter Tryd.func54, Tryd.ntmps54
        go_wp2_with (go_at_call 78; refine (divides_any x a _ h1 ha).mono ?_; rintro e w' ⟨rfl, rfl⟩; rw [h5])
        go_ret
        exact ⟨ret_int (by unfold plc; rw [if_neg (by omega), if_pos h4]), rfl⟩
      · have h5 : (a % x == 0) = false := by simpa using h4
        go_enter Tryd.func54, Tryd.ntmps54
        go_wp2_with (go_at_call 78; refine (divides_any x a _ h1 ha).mono ?_; rintro e w' ⟨rfl, rfl⟩; rw [h5])
        go_ret
        exact ⟨ret_int (by unfold plc; rw [if_neg (by omega), if_neg h4]), rfl⟩

theorem isW_bd {x : Int} (h : isW x = true) : 1 ≤ x ∧ x ≤ 8 := by simp [isW] at h; omega

def halves : Nat → Nat → Nat
  | 0, _ => 0
  | f + 1, n => if n = 0 then 0 else halves f (n / 2) + 1
/-- How often n is halved. -/
def hlv (n : Int) : Nat := halves n.toNat n.toNat

theorem halves_fuel : ∀ (f g n : Nat), n ≤ f → n ≤ g → halves f n = halves g n := by
  intro f
  induction f with
  | zero => intro g n h1 h2; obtain rfl : n = 0 := by omega
            cases g <;> simp [halves]
  | succ f ih => intro g n h1 h2
                 cases g with
                 | zero => obtain rfl : n = 0 := by omega
                           simp [halves]
                 | succ g => simp only [halves]
                             split
                             · rfl
                             · rw [ih g (n / 2) (by omega) (by omega)]
theorem hlv_pos (n : Int) (h : 0 < n) : hlv n = hlv (n / 2) + 1 := by
  unfold hlv
  obtain ⟨m, rfl⟩ := Int.eq_ofNat_of_zero_le (Int.le_of_lt h)
  have h2 : ((m : Int) / 2).toNat = m / 2 := by omega
  rw [Int.toNat_natCast, h2]
  cases m with
  | zero => omega
  | succ k => rw [halves, if_neg (by omega), halves_fuel k ((k + 1) / 2) _ (by omega) (by omega)]
theorem hlv_nil (n : Int) (h : n ≤ 0) : hlv n = 0 := by
  unfold hlv
  rw [show n.toNat = 0 from by omega]
  rfl
theorem halves_le : ∀ (f n : Nat), halves f n ≤ f := by
  intro f
  induction f with
  | zero => intro n; simp [halves]
  | succ f ih => intro n
                 simp only [halves]
                 split
                 · omega
                 · have := ih (n / 2); omega

theorem hlv_le (n : Int) : (hlv n : Int) ≤ 9223372036854775807 ∨ 9223372036854775807 < n := by
  have := halves_le n.toNat n.toNat
  unfold hlv
  omega

def rnd (n t : Int) : Int := if n < 0 ∨ 1073741824 < n ∨ t < 1 ∨ 4096 < t then 0 else if n % t = 0 then n else n - n % t + t

theorem rnd_spec (n t : Int) (b1 : 0 ≤ n) (b2 : n ≤ 1073741824) (b3 : 1 ≤ t) (b4 : t ≤ 4096) : rnd n t % t = 0 ∧ n ≤ rnd n t ∧ rnd n t < n + t := by
  have b5 := Int.emod_nonneg n (show t ≠ 0 by omega)
  have b6 := Int.emod_lt_of_pos n (show 0 < t by omega)
  rw [rnd, if_neg (by omega)]
  split
  · omega
  · refine ⟨?_, by omega, by omega⟩
    have e : n - n % t + t = t * (n / t + 1) := by
      have := Int.emod_add_mul_ediv n t
      rw [Int.mul_add]; omega
    rw [e]; exact Int.mul_emod_right _ _
theorem mod_eq_of_close (m R t : Int) (h3 : 1 ≤ t) (h1 : m ≤ R) (h2 : R < m + t) (hm : m % t = 0) (hR : R % t = 0) : m = R := by
  have a := Int.mul_ediv_cancel' (Int.dvd_of_emod_eq_zero hm)
  have b := Int.mul_ediv_cancel' (Int.dvd_of_emod_eq_zero hR)
  have c : t * (R / t - m / t) = R - m := by rw [Int.mul_sub]; omega
  have d : R / t - m / t < 1 := by
    apply Int.lt_of_mul_lt_mul_left (a := t) _ (by omega)
    omega
  have f : 0 ≤ R / t - m / t := by
    by_cases hneg : 0 ≤ R / t - m / t
    · exact hneg
    · have : t * (R / t - m / t) ≤ t * (-1) := Int.mul_le_mul_of_nonneg_left (by omega) (by omega)
      omega
  have g : R / t - m / t = 0 := by omega
  rw [g] at c
  omega

end Go.Proofs.YtkknegnipodcnaaDoor.Num
