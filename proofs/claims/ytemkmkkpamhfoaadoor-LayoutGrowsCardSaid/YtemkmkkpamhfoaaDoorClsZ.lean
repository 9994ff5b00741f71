/- Contracts of class's landed functions. -/
import Derived.Test.YtemkmkkpamhfoaaDoorClsL
import Derived.Test.YtemkmkkpamhfoaaDoorKit13
namespace Go.Proofs.YtemkmkkpamhfoaaDoor.Cls
open Go.RowKit
set_option linter.unusedVariables false

theorem wrap_id {n : Int} (h1 : -9223372036854775808 ≤ n) (h2 : n ≤ 9223372036854775807) : IntKind.i64.wrap n = n := by simp [IntKind.wrap, IntKind.bits, IntKind.signed]; omega
def szI : List Int := [32, 48, 64, 96, 128, 192, 256, 384, 512]
/-- The package variable holds the sizes. -/
def Tab (w : World) : Prop := Lib.TabIs Tryd.prog w "columbarium/class.sizes" .i64 szI
theorem Tab.cell {w : World} (h : Tab w) (i : Nat) (hi : i < 9) : w.cell? ⟨0, i, none⟩ = some (.int .i64 (szI.getD i 0)) :=
  Lib.TabIs.cell h (show Tryd.prog.globalNamed "columbarium/class.sizes" = some 0 by kernel_rfl) i hi

theorem tab_of {l : List (String × DataW Unit)} {w : World} (hp : (l.all fun x => x.2.handleName?.isNone) = true) (hm : ("columbarium/class.sizes", Rows.laid_columbarium_class_sizes) ∈ l) (h : laidMetH Tryd.prog l w) : Tab w :=
  tab_of_laid (g := 0) (n := 9) (t := 43) (e := 3) hp hm (by kernel_rfl) (by kernel_rfl) (by kernel_rfl) (by kernel_rfl) (by kernel_rfl) (by kernel_rfl) h

theorem is_yes (c : Int) (w : World) (h1 : 1 ≤ c) (h2 : c ≤ 9) : Calls Tryd.prog 34 #[.int .i64 c] w fun e w' => e = .returned (.bool true) ∧ w = w' := by
  go_enter Tryd.func34, Tryd.ntmps34
  go_wp2
  go_ret
  exact ⟨rfl, rfl⟩
theorem is_no (c : Int) (w : World) (h : c < 1 ∨ 9 < c) : Calls Tryd.prog 34 #[.int .i64 c] w fun e w' => e = .returned (.bool false) ∧ w = w' := by
  rcases (show c < 1 ∨ (¬ c < 1 ∧ 9 < c) by omega) with h1 | ⟨h1, h2⟩
  · clear h
    go_enter Tryd.func34, Tryd.ntmps34
    go_wp2
    go_ret
    exact ⟨rfl, rfl⟩
  · clear h
    have h1 : 1 ≤ c := by omega
    have h3 : decide (c ≤ 9) = false := decide_eq_false (by omega)
    go_enter Tryd.func34, Tryd.ntmps34
    go_wp2
    go_ret
    exact ⟨rfl, rfl⟩

set_option maxRecDepth 100000 in
theorem size_any (c : Int) (w : World) (ht : Tab w) : Calls Tryd.prog 35 #[.int .i64 c] w fun e w' => e = .returned (.int .i64 (szC c)) ∧ w = w' := by
  have q0 := ht.cell 0 (by omega)
  have q1 := ht.cell 1 (by omega)
  have q2 := ht.cell 2 (by omega)
  have q3 := ht.cell 3 (by omega)
  have q4 := ht.cell 4 (by omega)
  have q5 := ht.cell 5 (by omega)
  have q6 := ht.cell 6 (by omega)
  have q7 := ht.cell 7 (by omega)
  have q8 := ht.cell 8 (by omega)
  simp only [szI, List.getD_cons_zero, List.getD_cons_succ] at q0 q1 q2 q3 q4 q5 q6 q7 q8
  clear ht
  rcases cls_cases c with h | rfl | rfl | rfl | rfl | rfl | rfl | rfl | rfl | rfl
  · have hz := Lib.hid (szC_no h)
    have H1 := Lib.hid (is_no c w h)
    clear h
    go_enter Tryd.func35, Tryd.ntmps35
    go_wp2_with (go_at_call 34; refine H1.out.mono ?_; rintro e w1 ⟨rfl, rfl⟩)
    go_ret
    exact ⟨ret_int (by rw [hz.out]; rfl), rfl⟩
  all_goals
    have H1 := Lib.hid (fun c => is_yes c w)
    go_enter Tryd.func35, Tryd.ntmps35
    go_wp2_with (go_at_call 34; refine (H1.out _ (by decide) (by decide)).mono ?_; rintro e w1 ⟨rfl, rfl⟩)
    go_ret
    exact ⟨rfl, rfl⟩

theorem szC_is {c : Int} (h : ¬ szC c = 0) : 1 ≤ c ∧ c ≤ 9 := by
  have := mt szC_zero.2 h
  omega

theorem blocks_any (c : Int) (w : World) (ht : Tab w) : Calls Tryd.prog 33 #[.int .i64 c] w fun e w' => e = .returned (.int .i64 (blC c)) ∧ w = w' := by
  have HS := Lib.hid (size_any c w ht)
  by_cases hz : szC c = 0
  · have HI := Lib.hid (is_no c w (szC_zero.1 hz))
    have hb := Lib.hid (blC_no hz)
    clear hz HS ht
    go_enter Tryd.func33, Tryd.ntmps33
    go_wp2_with (go_at_call 34; refine HI.out.mono ?_; rintro e w1 ⟨rfl, rfl⟩)
    go_ret
    exact ⟨ret_int (by rw [hb.out]; rfl), rfl⟩
  · have HI := Lib.hid (is_yes c w (szC_is hz).1 (szC_is hz).2)
    have hbd := szC_bd c
    have hbl : blC c = 1024 / szC c := by rw [blC, if_neg hz]
    rw [hbl]
    obtain ⟨x, hx⟩ : ∃ x, x = szC c := ⟨_, rfl⟩
    rw [← hx] at HS hbd hz ⊢
    have hx0 : (0 : Int) < (x : Int) := by omega
    have hxz : ((x : Int) == 0) = false := by rw [beq_eq_false_iff_ne]; omega
    have hx5 : (x : Int) ≤ 512 := by omega
    have hq : Int.tdiv 1024 (x : Int) = ((1024 / x : Nat) : Int) := by rw [Int.tdiv_eq_ediv_of_nonneg (by omega)]; rfl
    have hq2 : 1024 / x ≤ 32 := Nat.le_trans (Nat.div_le_div_left (show 32 ≤ x by omega) (by decide)) (by decide)
    obtain ⟨q, hqq⟩ : ∃ q, q = 1024 / x := ⟨_, rfl⟩
    rw [← hqq] at hq hq2 ⊢
    clear hqq hbl hx hbd hz ht
    go_enter Tryd.func33, Tryd.ntmps33
    go_wp2_with (first | (go_at_call 34; refine HI.out.mono ?_; rintro e w1 ⟨rfl, rfl⟩) | (go_at_call 35; refine HS.out.mono ?_; rintro e w1 ⟨rfl, rfl⟩))
    go_ret
    exact ⟨ret_int (by first | rw [hq] | omega), rfl⟩

theorem pdC_mod {c : Int} (h : ¬ szC c = 0) : pdC c = 1024 % szC c := by
  have := Nat.div_add_mod 1024 (szC c)
  rw [pdC, if_neg h, blC, if_neg h]
  rw [Nat.mul_comm] at this
  omega

theorem idC_out {c a : Int} (h : ¬ szC c = 0) (ha : a < 0 ∨ ((blC c * szC c : Nat) : Int) ≤ a) : idC c a = (0, false) := by
  rcases idL_spec c a 0 (blC c) with ⟨k, -, h2, -, h4⟩ | ⟨h1, -⟩
  · have := Nat.mul_lt_mul_of_pos_right (show k < blC c by omega) (show 0 < szC c by omega)
    omega
  · exact h1
theorem idC_off {c : Int} {n : Nat} (h : ¬ n % szC c = 0) : idC c (n : Int) = (0, false) := by
  rcases idL_spec c (n : Int) 0 (blC c) with ⟨k, -, h2, -, h4⟩ | ⟨h1, -⟩
  · exact absurd (show n % szC c = 0 by rw [show n = k * szC c by omega, Nat.mul_mod_left]) h
  · exact h1
theorem idC_at {c : Int} {n : Nat} (h : ¬ szC c = 0) (hn : n < blC c * szC c) (hm : n % szC c = 0) : idC c (n : Int) = (n / szC c, true) := by
  have h1 : n / szC c * szC c = n := by
    have := Nat.div_add_mod n (szC c)
    rw [Nat.mul_comm] at this
    omega
  have h2 : n / szC c < blC c := (Nat.div_lt_iff_lt_mul (by omega)).2 hn
  have h3 := idC_hit h h2
  rw [h1] at h3
  exact h3

end Go.Proofs.YtemkmkkpamhfoaaDoor.Cls
