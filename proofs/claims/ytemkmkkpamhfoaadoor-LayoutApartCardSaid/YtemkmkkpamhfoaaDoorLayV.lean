/- The closure that places the parts of an arena, and place. -/
import Derived.Test.YtemkmkkpamhfoaaDoorLayU
namespace Go.Proofs.YtemkmkkpamhfoaaDoor.Lay
open Go.RowKit
set_option linter.unusedVariables false

theorem frozen_block {w : World} {g : Nat} {c : Array Value} {e : TypeId} (h : w.heap[g]? = some (.cells c e (0, 0))) (i : Nat) : w.frozen? ⟨g, i, none⟩ = false := by simp [World.frozen?, h]
theorem block_setCell {w : World} {b i : Nat} {l : List Value} {t : TypeId} {f : Nat × Nat} (h : w.heap[b]? = some (.cells l.toArray t f)) (v : Value) :
    (w.setCell ⟨b, i, none⟩ v).heap[b]? = some (.cells (l.set i v).toArray t f) := by
  simp [World.setCell, Array.getElem?_modify, h]

set_option maxRecDepth 100000 in
set_option maxHeartbeats 2000000 in
theorem lay_any (k K n a Ba Bl : Nat) (l : List Value) (w : World) (hk : k < 6) (ha : a ≤ 1000000) (hn : n ≤ 1000000) (hl : l.length = 18)
    (hBa : w.heap[Ba]? = some (.cells #[.int .i64 (a : Int)] 3 (0, 0))) (hBl : w.heap[Bl]? = some (.cells l.toArray 37 (0, 0))) (hne : Ba ≠ Bl) :
    Calls Tryd.prog 32 #[.int .i64 (k : Int), .int .i64 (K : Int), .int .i64 (n : Int), .pointer (some ⟨Ba, 0, none⟩), .pointer (some ⟨Bl, 0, none⟩)] w fun e w' =>
      e = .returned (.tuple #[]) ∧ Fr w.heap.size (fun b => b = Ba ∨ b = Bl) w w' ∧ w'.heap[Ba]? = some (.cells #[.int .i64 ((a + n : Nat) : Int)] 3 (0, 0)) ∧
        w'.heap[Bl]? = some (.cells (((l.set (k * 3) (.int .i64 (a : Int))).set (k * 3 + 1) (.int .i64 (n : Int))).set (k * 3 + 2) (.int .i64 (K : Int))).toArray 37 (0, 0)) := by
  have hk0 : (0 : Int) ≤ (k : Int) := by omega
  have hk1 : (k : Int) < 6 := by omega
  have hw : IntKind.i64.wrap ((a : Int) + (n : Int)) = ((a + n : Nat) : Int) := (wrap_id (by omega) (by omega)).trans (by omega)
  have c1 : w.cell? ⟨Ba, 0, none⟩ = some (.int .i64 (a : Int)) := (cell_block hBa 0).trans rfl
  have f1 := frozen_block hBa 0
  have cc : ∀ j, j < 18 → ∃ u, w.cell? ⟨Bl, j, none⟩ = some u := fun j hj => ⟨_, (cell_block hBl j).trans (by rw [List.getElem?_toArray]; exact List.getElem?_eq_getElem (by omega))⟩
  obtain ⟨u0, d0⟩ := cc (k * 3) (by omega)
  obtain ⟨u1, d1⟩ := cc (k * 3 + 1) (by omega)
  obtain ⟨u2, d2⟩ := cc (k * 3 + 2) (by omega)
  have g0 := frozen_block hBl (k * 3)
  have g1 := frozen_block hBl (k * 3 + 1)
  have g2 := frozen_block hBl (k * 3 + 2)
  clear cc
  go_enter Tryd.func32, Tryd.ntmps32
  go_wp2
  refine bodyPost_end (results_none rfl _ _ _) rfl ⟨rfl, ?_, ?_, ?_⟩
  · exact ((((Fr.refl _ _ w).setCell (.inr (.inr rfl)) _).setCell (.inr (.inr rfl)) _).setCell (.inr (.inr rfl)) _).setCell (.inr (.inl rfl)) _
  · rw [Int.natCast_add]
    have e : ((((w.setCell ⟨Bl, k * 3, none⟩ (.int .i64 (a : Int))).setCell ⟨Bl, k * 3 + 1, none⟩ (.int .i64 (n : Int))).setCell ⟨Bl, k * 3 + 2, none⟩ (.int .i64 (K : Int)))).heap[Ba]? = some (.cells [Value.int .i64 (a : Int)].toArray 3 (0, 0)) := by
      rw [Below.heap_setCell _ _ _ _ (by exact hne), Below.heap_setCell _ _ _ _ (by exact hne), Below.heap_setCell _ _ _ _ (by exact hne)]
      exact hBa
    exact (block_setCell e _).trans rfl
  · rw [Below.heap_setCell _ _ _ _ (by exact fun h => hne h.symm)]
    exact block_setCell (block_setCell (block_setCell hBl _) _) _

set_option maxRecDepth 100000 in
theorem place_any (a n K z i : Int) (r : Nat) (w : World) (i1 : -9223372036854775808 ≤ i) (i2 : i ≤ 9223372036854775807) (hz : 0 < z) (hz2 : z ≤ 1024) (hn : 0 ≤ n) (hn2 : n ≤ 1000000) (ha : 0 ≤ a) (ha2 : a ≤ 1000000)
    (hr : (r : Int) = if 0 ≤ i ∧ i < n / z then a + i * z else 0) :
    Calls Tryd.prog 31 #[.agg #[.int .i64 a, .int .i64 n, .int .i64 K], .int .i64 i, .int .i64 z] w fun e w' => e = .returned (.int .i64 (r : Int)) ∧ Below w.heap.size w w' := by
  have hq : Int.tdiv n z = n / z := Int.tdiv_eq_ediv_of_nonneg hn
  have hq2 : n / z ≤ n := Int.ediv_le_self _ hn
  have hq3 : 0 ≤ n / z := Int.ediv_nonneg hn (by omega)
  have hzz : (z == 0) = false := by rw [beq_eq_false_iff_ne]; omega
  have hzn : ¬ z = 0 := by omega
  have hmul : i < n / z → i * z ≤ n := fun h => by
    have h1 : i * z ≤ (n / z) * z := Int.mul_le_mul_of_nonneg_right (by omega) (by omega)
    have h2 : (n / z) * z ≤ n := Int.ediv_mul_le _ (by omega)
    omega
  have hmul0 : 0 ≤ i → 0 ≤ i * z := fun h => Int.mul_nonneg h (by omega)
  generalize n / z = q at hq hq2 hq3 hr hmul
  have hw : IntKind.i64.wrap (Int.tdiv n z) = q := by rw [hq]; exact wrap_id (by omega) (by omega)
  have hb := below_made w (.cells #[.int .i64 a, .int .i64 n, .int .i64 K] 35)
  by_cases h1 : i < 0
  · rw [if_neg (by omega)] at hr
    obtain rfl : r = 0 := by omega
    clear hr hmul hmul0
    go_enter Tryd.func31, Tryd.ntmps31
    go_wp2
    go_ret
    exact ⟨rfl, hb⟩
  · by_cases h2 : q ≤ i
    · rw [if_neg (by omega)] at hr
      obtain rfl : r = 0 := by omega
      clear hr hmul hmul0
      go_enter Tryd.func31, Tryd.ntmps31
      go_wp2
      go_ret
      exact ⟨rfl, hb⟩
    · rw [if_pos (by omega)] at hr
      have hm1 := hmul (by omega)
      have hm2 := hmul0 (by omega)
      obtain ⟨p, hp⟩ : ∃ p, p = i * z := ⟨_, rfl⟩
      rw [← hp] at hr hm1 hm2
      have hw1 : IntKind.i64.wrap (i * z) = p := by rw [← hp]; exact wrap_id (by omega) (by omega)
      have hw2 : IntKind.i64.wrap (a + p) = a + p := wrap_id (by omega) (by omega)
      have HR := Lib.hid hr
      clear hr hmul hmul0 hp
      go_enter Tryd.func31, Tryd.ntmps31
      go_wp2
      go_ret
      exact ⟨ret_int HR.out.symm, hb⟩
end Go.Proofs.YtemkmkkpamhfoaaDoor.Lay
