/- The document's Where, Size, number. -/
import Derived.Test.YtkknegnipodcnaaDoorHeaM
namespace Go.Proofs.YtkknegnipodcnaaDoor.Hea
open Go.RowKit Num
set_option linter.unusedVariables false

theorem wrap_id {n : Int} (h1 : -9223372036854775808 ≤ n) (h2 : n ≤ 9223372036854775807) : IntKind.i64.wrap n = n := by simp [IntKind.wrap, IntKind.bits, IntKind.signed]; omega

theorem below2 (w : World) (a b : Obj) : Below w.heap.size w ((w.alloc a).alloc b) := ((Below.refl _ w).alloc (Nat.le_refl _) a).alloc (le_alloc _ (Nat.le_refl _)) b

set_option maxRecDepth 100000 in
set_option maxHeartbeats 4000000 in
theorem refWhere_any (t f : Int) (w : World) : Calls Tryd.prog 16 #[.int .i64 t, .int .i64 f] w fun e w' => e = .returned (.tuple #[.int .i64 (whF t f).1, .int .i64 (whF t f).2]) ∧ Below w.heap.size w w' := by
  by_cases t0 : t < 0
  · rw [show whF t f = (0, 0) by rw [whF, if_pos (.inl t0)]]
    go_enter Tryd.func16, Tryd.ntmps16
    go_wp2
    go_ret2
    exact ⟨rfl, Below.refl _ _⟩
  have t0' : decide (t < 0) = false := by simpa using t0
  by_cases t2 : 2 < t
  · rw [show whF t f = (0, 0) by rw [whF, if_pos (.inr (.inl t2))]]
    go_enter Tryd.func16, Tryd.ntmps16
    go_wp2
    go_ret2
    exact ⟨rfl, Below.refl _ _⟩
  have t2' : decide (2 < t) = false := by simpa using t2
  by_cases f0 : f < 0
  · rw [show whF t f = (0, 0) by rw [whF, if_pos (.inr (.inr (.inl f0)))]]
    go_enter Tryd.func16, Tryd.ntmps16
    go_wp2
    go_ret2
    exact ⟨rfl, Below.refl _ _⟩
  have f0' : decide (f < 0) = false := by simpa using f0
  by_cases f11 : 11 < f
  · rw [show whF t f = (0, 0) by rw [whF, if_pos (.inr (.inr (.inr f11)))]]
    go_enter Tryd.func16, Tryd.ntmps16
    go_wp2
    go_ret2
    exact ⟨rfl, Below.refl _ _⟩
  have f11' : decide (11 < f) = false := by simpa using f11
  have hn : ¬ (t < 0 ∨ 2 < t ∨ f < 0 ∨ 11 < f) := by omega
  by_cases f4 : f < 4
  · rw [show whF t f = (f, 1) by rw [whF, if_neg hn, if_pos f4]]
    go_enter Tryd.func16, Tryd.ntmps16
    go_wp2
    go_ret2
    exact ⟨rfl, Below.refl _ _⟩
  obtain ⟨k, rfl⟩ : ∃ k : Nat, f = k := ⟨f.toNat, by omega⟩
  obtain ⟨j, rfl⟩ : ∃ j : Nat, t = j := ⟨t.toNat, by omega⟩
  have hk : k = 4 ∨ k = 5 ∨ k = 6 ∨ k = 7 ∨ k = 8 ∨ k = 9 ∨ k = 10 ∨ k = 11 := by omega
  have hj : j = 0 ∨ j = 1 ∨ j = 2 := by omega
  clear t0 t2 f0 f11 hn f4 t0' t2' f0' f11'
  rcases hj with rfl | rfl | rfl <;> rcases hk with rfl | rfl | rfl | rfl | rfl | rfl | rfl | rfl
  all_goals
    go_enter Tryd.func16, Tryd.ntmps16
    first
      | (go_wp2; go_ret2; exact ⟨rfl, Below.refl _ _⟩)
      | (go_wp2; go_region; all_goals go_wp2; all_goals go_ret2; all_goals first | exact ⟨rfl, below2 _ _ _⟩ | exact ⟨rfl, (below2 _ _ _).drew⟩ | exact ⟨rfl, below_drewN (below2 _ _ _) _⟩)

theorem refSize_any (t : Int) (w : World) : Calls Tryd.prog 18 #[.int .i64 t] w fun e w' => e = .returned (.int .i64 (szF t)) ∧ Below w.heap.size w w' := by
  by_cases t0 : t < 0
  · rw [show szF t = 0 by unfold szF; rw [if_neg (by omega), if_neg (by omega), if_neg (by omega)]]
    go_enter Tryd.func18, Tryd.ntmps18
    go_wp2
    go_ret
    exact ⟨rfl, Below.refl _ _⟩
  have t0' : decide (t < 0) = false := by simpa using t0
  by_cases t2 : 2 < t
  · rw [show szF t = 0 by unfold szF; rw [if_neg (by omega), if_neg (by omega), if_neg (by omega)]]
    go_enter Tryd.func18, Tryd.ntmps18
    go_wp2
    go_ret
    exact ⟨rfl, Below.refl _ _⟩
  have hj : t = 0 ∨ t = 1 ∨ t = 2 := by omega
  clear t0 t2 t0'
  rcases hj with rfl | rfl | rfl
  all_goals
    go_enter Tryd.func18, Tryd.ntmps18
    go_wp2
    go_ret
    exact ⟨rfl, below_made _ _⟩
end Go.Proofs.YtkknegnipodcnaaDoor.Hea
