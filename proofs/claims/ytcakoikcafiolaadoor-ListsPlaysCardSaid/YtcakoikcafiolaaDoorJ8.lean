/- Plain mathematics of classes of blocks. Contracts of the document's functions on classes. What is asked of class's functions; classes; the walks of the statements. Contracts of class's landed functions. -/
import Derived.Test.YtcakoikcafiolaaDoorJ0
import Derived.Test.YtcakoikcafiolaaDoorRows
namespace Go.Proofs.YtcakoikcafiolaaDoor.Cls
open Go.RowKit

def szT : List Nat := [32, 48, 64, 96, 128, 192, 256, 384, 512]
def szC (c : Int) : Nat := if 1 ≤ c ∧ c ≤ 9 then szT.getD (c - 1).toNat 0 else 0
def blC (c : Int) : Nat := if szC c = 0 then 0 else 1024 / szC c
def pdC (c : Int) : Nat := if szC c = 0 then 0 else 1024 - blC c * szC c
/-- The least class from c on, of n classes. -/
def ofL (s : Int) : Nat → Nat → Nat × Int
  | _, 0 => (0, 22)
  | c, n + 1 => if s ≤ (szC c : Int) then (c, 0) else ofL s (c + 1) n
def ofC (s : Int) : Nat × Int := if s < 1 then (0, 2) else ofL s 1 9
def plC (c i : Int) : Nat × Int := if szC c = 0 then (0, 2) else if i < 0 ∨ (blC c : Int) ≤ i then (0, 6) else (i.toNat * szC c, 0)
/-- The block, from i on, of n, that begins at a place. -/
def idL (c at_ : Int) : Nat → Nat → Nat × Bool
  | _, 0 => (0, false)
  | i, n + 1 => if ((i * szC c : Nat) : Int) = at_ then (i, true) else idL c at_ (i + 1) n
def idC (c at_ : Int) : Nat × Bool := idL c at_ 0 (blC c)
def enC (p : Int) : Nat × Int := if p < 0 then (0, 2) else if 480 < p then (0, 22) else ofC (32 + p)
def noC (l : Int) : Nat × Int := if l < 1 ∨ 63 < l then (0, 20) else ofC (16 + l)

theorem cls_cases (c : Int) : (c < 1 ∨ 9 < c) ∨ c = 1 ∨ c = 2 ∨ c = 3 ∨ c = 4 ∨ c = 5 ∨ c = 6 ∨ c = 7 ∨ c = 8 ∨ c = 9 := by omega
theorem szC_no {c : Int} (h : c < 1 ∨ 9 < c) : szC c = 0 := by rw [szC, if_neg (by omega)]
theorem szC_bd (c : Int) : szC c = 0 ∨ (32 ≤ szC c ∧ szC c ≤ 512) := by
  rcases cls_cases c with h | rfl | rfl | rfl | rfl | rfl | rfl | rfl | rfl | rfl
  · exact .inl (szC_no h)
  all_goals exact .inr (by decide)
theorem szC_zero {c : Int} : szC c = 0 ↔ (c < 1 ∨ 9 < c) := by
  rcases cls_cases c with h | rfl | rfl | rfl | rfl | rfl | rfl | rfl | rfl | rfl
  · exact ⟨fun _ => h, szC_no⟩
  all_goals decide
theorem blC_no {c : Int} (h : szC c = 0) : blC c = 0 := by rw [blC, if_pos h]
theorem blC_bd (c : Int) : blC c ≤ 32 := by
  rcases szC_bd c with h | h
  · rw [blC_no h]; omega
  · rw [blC, if_neg (by omega)]
    exact Nat.le_trans (Nat.div_le_div_left h.1 (by decide)) (by decide)
theorem blC_fit {c : Int} (h : ¬ szC c = 0) : blC c * szC c ≤ 1024 ∧ 1024 < (blC c + 1) * szC c := by
  have hp : 0 < szC c := by omega
  rw [blC, if_neg h]
  exact ⟨Nat.div_mul_le_self _ _, by rw [Nat.mul_comm]; exact Nat.lt_mul_div_succ 1024 hp⟩
theorem blC_pos {c : Int} (h : ¬ szC c = 0) : 2 ≤ blC c := by
  have := szC_bd c
  rw [blC, if_neg h]
  exact Nat.le_trans (by decide) (Nat.div_le_div_left (show szC c ≤ 512 by omega) (by omega))
theorem pdC_less {c : Int} (h : ¬ szC c = 0) : blC c * szC c + pdC c = 1024 ∧ pdC c < szC c := by
  have h1 := blC_fit h
  rw [Nat.add_mul] at h1
  rw [pdC, if_neg h]
  omega
theorem ofL_spec (s : Int) (c n : Nat) : (∃ k, c ≤ k ∧ k < c + n ∧ ofL s c n = (k, 0) ∧ s ≤ szC k ∧ ∀ j, c ≤ j → j < k → (szC j : Int) < s) ∨ (ofL s c n = (0, 22) ∧ ∀ j, c ≤ j → j < c + n → (szC j : Int) < s) := by
  induction n generalizing c with
  | zero => exact .inr ⟨rfl, fun j h1 h2 => by omega⟩
  | succ n ih =>
    by_cases h : s ≤ (szC c : Int)
    · exact .inl ⟨c, Nat.le_refl _, by omega, by rw [ofL, if_pos h], h, fun j h1 h2 => by omega⟩
    · rcases ih (c + 1) with ⟨k, h1, h2, h3, h4, h5⟩ | ⟨h1, h2⟩
      · refine .inl ⟨k, by omega, by omega, by rw [ofL, if_neg h, h3], h4, fun j g1 g2 => ?_⟩
        by_cases e : j = c
        · subst e; omega
        · exact h5 j (by omega) g2
      · refine .inr ⟨by rw [ofL, if_neg h, h1], fun j g1 g2 => ?_⟩
        by_cases e : j = c
        · subst e; omega
        · exact h2 j (by omega) (by omega)
theorem idL_spec (c at_ : Int) (i n : Nat) : (∃ k, i ≤ k ∧ k < i + n ∧ idL c at_ i n = (k, true) ∧ ((k * szC c : Nat) : Int) = at_) ∨ (idL c at_ i n = (0, false) ∧ ∀ k, i ≤ k → k < i + n → ¬ ((k * szC c : Nat) : Int) = at_) := by
  induction n generalizing i with
  | zero => exact .inr ⟨rfl, fun k h1 h2 => by omega⟩
  | succ n ih =>
    by_cases h : ((i * szC c : Nat) : Int) = at_
    · exact .inl ⟨i, Nat.le_refl _, by omega, by rw [idL, if_pos h], h⟩
    · rcases ih (i + 1) with ⟨k, h1, h2, h3, h4⟩ | ⟨h1, h2⟩
      · exact .inl ⟨k, by omega, by omega, by rw [idL, if_neg h, h3], h4⟩
      · refine .inr ⟨by rw [idL, if_neg h, h1], fun k g1 g2 => ?_⟩
        by_cases e : k = i
        · subst e; exact h
        · exact h2 k (by omega) (by omega)
/-- A block that begins there is found; behind its first byte none begins. -/
theorem idC_hit {c : Int} {i : Nat} (h : ¬ szC c = 0) (hi : i < blC c) : idC c ((i * szC c : Nat) : Int) = (i, true) := by
  rcases idL_spec c ((i * szC c : Nat) : Int) 0 (blC c) with ⟨k, -, -, h3, h4⟩ | ⟨-, h2⟩
  · have : k = i := by
      have h5 : k * szC c = i * szC c := by omega
      exact Nat.eq_of_mul_eq_mul_right (by omega) h5
    rw [idC, h3, this]
  · exact absurd rfl (h2 i (by omega) (by omega))
theorem idC_miss {c : Int} {i : Nat} (h : ¬ szC c = 0) : idC c (((i * szC c : Nat) : Int) + 1) = (0, false) := by
  rcases idL_spec c (((i * szC c : Nat) : Int) + 1) 0 (blC c) with ⟨k, -, -, -, h4⟩ | ⟨h1, -⟩
  · have hb := szC_bd c
    have h5 : k * szC c = i * szC c + 1 := by omega
    have h6 := congrArg (· % szC c) h5
    simp only [Nat.mul_mod_left] at h6
    rw [Nat.mul_comm, Nat.mul_add_mod, Nat.mod_eq_of_lt (by omega)] at h6
    omega
  · exact h1
theorem szC_rise {j k : Nat} (h : j < k) (hk : k ≤ 9) (hj : 1 ≤ j) : szC j < szC k := by
  have : (j = 1 ∨ j = 2 ∨ j = 3 ∨ j = 4 ∨ j = 5 ∨ j = 6 ∨ j = 7 ∨ j = 8) ∧ (k = 2 ∨ k = 3 ∨ k = 4 ∨ k = 5 ∨ k = 6 ∨ k = 7 ∨ k = 8 ∨ k = 9) := by omega
  obtain ⟨h1, h2⟩ := this
  rcases h1 with rfl | rfl | rfl | rfl | rfl | rfl | rfl | rfl <;> rcases h2 with rfl | rfl | rfl | rfl | rfl | rfl | rfl | rfl <;> first | decide | omega
end Go.Proofs.YtcakoikcafiolaaDoor.Cls

namespace Go.Proofs.YtcakoikcafiolaaDoor.Cls
open Go.RowKit
set_option linter.unusedVariables false

theorem ret_two {a b c d : Int} (h1 : a = c) (h2 : b = d) : Ending.returned (.tuple #[.int .i64 a, .int .i64 b]) = .returned (.tuple #[.int .i64 c, .int .i64 d]) := by rw [h1, h2]
theorem ret_ib {a c : Int} {b d : Bool} (h1 : a = c) (h2 : b = d) : Ending.returned (.tuple #[.int .i64 a, .bool b]) = .returned (.tuple #[.int .i64 c, .bool d]) := by rw [h1, h2]

end Go.Proofs.YtcakoikcafiolaaDoor.Cls

namespace Go.Proofs.YtcakoikcafiolaaDoor.Cls
open Go.RowKit
set_option linter.unusedVariables false

end Go.Proofs.YtcakoikcafiolaaDoor.Cls

namespace Go.Proofs.YtcakoikcafiolaaDoor.Cls
open Go.RowKit
set_option linter.unusedVariables false

theorem wrap_id {n : Int} (h1 : -9223372036854775808 ≤ n) (h2 : n ≤ 9223372036854775807) : IntKind.i64.wrap n = n := by simp [IntKind.wrap, IntKind.bits, IntKind.signed]; omega
def szI : List Int := [32, 48, 64, 96, 128, 192, 256, 384, 512]
/-- The package variable holds the sizes. -/
def Tab (w : World) : Prop := Lib.TabIs Tryd.prog w "columbarium/class.sizes" .i64 szI
theorem Tab.cell {w : World} (h : Tab w) (i : Nat) (hi : i < 9) : w.cell? ⟨1, i, none⟩ = some (.int .i64 (szI.getD i 0)) :=
  Lib.TabIs.cell h (show Tryd.prog.globalNamed "columbarium/class.sizes" = some 1 by kernel_rfl) i hi

theorem tab_of {l : List (String × DataW Unit)} {w : World} (hp : (l.all fun x => x.2.handleName?.isNone) = true) (hm : ("columbarium/class.sizes", Rows.laid_columbarium_class_sizes) ∈ l) (h : laidMetH Tryd.prog l w) : Tab w :=
  tab_of_laid (g := 1) (n := 9) (t := 142) (e := 3) hp hm (by kernel_rfl) (by kernel_rfl) (by kernel_rfl) (by kernel_rfl) (by kernel_rfl) (by kernel_rfl) h

theorem is_yes (c : Int) (w : World) (h1 : 1 ≤ c) (h2 : c ≤ 9) : Calls Tryd.prog 100 #[.int .i64 c] w fun e w' => e = .returned (.bool true) ∧ w = w' := by
  go_enter Tryd.func100, Tryd.ntmps100
  go_wp2
  go_ret
  exact ⟨rfl, rfl⟩
theorem is_no (c : Int) (w : World) (h : c < 1 ∨ 9 < c) : Calls Tryd.prog 100 #[.int .i64 c] w fun e w' => e = .returned (.bool false) ∧ w = w' := by
  rcases (show c < 1 ∨ (¬ c < 1 ∧ 9 < c) by omega) with h1 | ⟨h1, h2⟩
  · clear h
    go_enter Tryd.func100, Tryd.ntmps100
    go_wp2
    go_ret
    exact ⟨rfl, rfl⟩
  · clear h
    have h1 : 1 ≤ c := by omega
    have h3 : decide (c ≤ 9) = false := decide_eq_false (by omega)
    go_enter Tryd.func100, Tryd.ntmps100
    go_wp2
    go_ret
    exact ⟨rfl, rfl⟩

set_option maxRecDepth 100000 in
theorem size_any (c : Int) (w : World) (ht : Tab w) : Calls Tryd.prog 101 #[.int .i64 c] w fun e w' => e = .returned (.int .i64 (szC c)) ∧ w = w' := by
  have q0 := ht.cell 0 (by omega)
  have q1 := ht.cell 1 (by omega)
  have q2 := ht.cell 2 (by omega)
  have q3 := ht.cell 3 (by omega)
  have q4 := ht.cell 4 (by omega)
  have q5 := ht.cell 5 (by omega)
  have q6 := ht.cell 6 (by omega)
  have q7 := ht.cell 7 (by omega)
  have q8 := ht.cell 8 (by omega)
  simp only [szI, List.getD_cons_zero, List.getD_cons_succ] at q0 q1 q2 q3 q4 q5 q6 q7 q8
  clear ht
  rcases cls_cases c with h | rfl | rfl | rfl | rfl | rfl | rfl | rfl | rfl | rfl
  · have hz := Lib.hid (szC_no h)
    have H1 := Lib.hid (is_no c w h)
    clear h
    go_enter Tryd.func101, Tryd.ntmps101
    go_wp2_with (go_at_call 100; refine H1.out.mono ?_; rintro e w1 ⟨rfl, rfl⟩)
    go_ret
    exact ⟨ret_int (by rw [hz.out]; rfl), rfl⟩
  all_goals
    have H1 := Lib.hid (fun c => is_yes c w)
    go_enter Tryd.func101, Tryd.ntmps101
    go_wp2_with (go_at_call 100; refine (H1.out _ (by decide) (by decide)).mono ?_; rintro e w1 ⟨rfl, rfl⟩)
    go_ret
    exact ⟨rfl, rfl⟩

theorem szC_is {c : Int} (h : ¬ szC c = 0) : 1 ≤ c ∧ c ≤ 9 := by
  have := mt szC_zero.2 h
  omega

theorem blocks_any (c : Int) (w : World) (ht : Tab w) : Calls Tryd.prog 96 #[.int .i64 c] w fun e w' => e = .returned (.int .i64 (blC c)) ∧ w = w' := by
  have HS := Lib.hid (size_any c w ht)
  by_cases hz : szC c = 0
  · have HI := Lib.hid (is_no c w (szC_zero.1 hz))
    have hb := Lib.hid (blC_no hz)
    clear hz HS ht
    go_enter Tryd.func96, Tryd.ntmps96
    go_wp2_with (go_at_call 100; refine HI.out.mono ?_; rintro e w1 ⟨rfl, rfl⟩)
    go_ret
    exact ⟨ret_int (by rw [hb.out]; rfl), rfl⟩
  · have HI := Lib.hid (is_yes c w (szC_is hz).1 (szC_is hz).2)
    have hbd := szC_bd c
    have hbl : blC c = 1024 / szC c := by rw [blC, if_neg hz]
    rw [hbl]
    obtain ⟨x, hx⟩ : ∃ x, x = szC c := ⟨_, rfl⟩
    rw [← hx] at HS hbd hz ⊢
    have hx0 : (0 : Int) < (x : Int) := by omega
    have hxz : ((x : Int) == 0) = false := by rw [beq_eq_false_iff_ne]; omega
    have hx5 : (x : Int) ≤ 512 := by omega
    have hq : Int.tdiv 1024 (x : Int) = ((1024 / x : Nat) : Int) := by rw [Int.tdiv_eq_ediv_of_nonneg (by omega)]; rfl
    have hq2 : 1024 / x ≤ 32 := Nat.le_trans (Nat.div_le_div_left (show 32 ≤ x by omega) (by decide)) (by decide)
    obtain ⟨q, hqq⟩ : ∃ q, q = 1024 / x := ⟨_, rfl⟩
    rw [← hqq] at hq hq2 ⊢
    clear hqq hbl hx hbd hz ht
    go_enter Tryd.func96, Tryd.ntmps96
    go_wp2_with (first | (go_at_call 100; refine HI.out.mono ?_; rintro e w1 ⟨rfl, rfl⟩) | (go_at_call 101; refine HS.out.mono ?_; rintro e w1 ⟨rfl, rfl⟩))
    go_ret
    exact ⟨ret_int (by first | rw [hq] | omega), rfl⟩

theorem pdC_mod {c : Int} (h : ¬ szC c = 0) : pdC c = 1024 % szC c := by
  have := Nat.div_add_mod 1024 (szC c)
  rw [pdC, if_neg h, blC, if_neg h]
  rw [Nat.mul_comm] at this
  omega

theorem idC_out {c a : Int} (h : ¬ szC c = 0) (ha : a < 0 ∨ ((blC c * szC c : Nat) : Int) ≤ a) : idC c a = (0, false) := by
  rcases idL_spec c a 0 (blC c) with ⟨k, -, h2, -, h4⟩ | ⟨h1, -⟩
  · have := Nat.mul_lt_mul_of_pos_right (show k < blC c by omega) (show 0 < szC c by omega)
    omega
  · exact h1
theorem idC_off {c : Int} {n : Nat} (h : ¬ n % szC c = 0) : idC c (n : Int) = (0, false) := by
  rcases idL_spec c (n : Int) 0 (blC c) with ⟨k, -, h2, -, h4⟩ | ⟨h1, -⟩
  · exact absurd (show n % szC c = 0 by rw [show n = k * szC c by omega, Nat.mul_mod_left]) h
  · exact h1
theorem idC_at {c : Int} {n : Nat} (h : ¬ szC c = 0) (hn : n < blC c * szC c) (hm : n % szC c = 0) : idC c (n : Int) = (n / szC c, true) := by
  have h1 : n / szC c * szC c = n := by
    have := Nat.div_add_mod n (szC c)
    rw [Nat.mul_comm] at this
    omega
  have h2 : n / szC c < blC c := (Nat.div_lt_iff_lt_mul (by omega)).2 hn
  have h3 := idC_hit h h2
  rw [h1] at h3
  exact h3

end Go.Proofs.YtcakoikcafiolaaDoor.Cls
