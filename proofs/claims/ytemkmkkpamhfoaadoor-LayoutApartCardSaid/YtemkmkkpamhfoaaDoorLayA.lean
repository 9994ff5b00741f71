/- Contracts of the document's functions on the layout. -/
import Derived.Test.YtemkmkkpamhfoaaDoorRows
import Derived.Test.YtemkmkkpamhfoaaDoorLayM
import Derived.Test.YtemkmkkpamhfoaaDoorKit10
namespace Go.Proofs.YtemkmkkpamhfoaaDoor.Lay
open Go.RowKit
set_option linter.unusedVariables false

theorem below_made (w : World) (o : Obj) : Below w.heap.size w (w.alloc o) := (Below.refl _ _).alloc (Nat.le_refl _) _
theorem size_alloc (w : World) (o : Obj) : (w.alloc o).heap.size = w.heap.size + 1 := Array.size_push _
theorem wrap_id {n : Int} (h1 : -9223372036854775808 ≤ n) (h2 : n ≤ 9223372036854775807) : IntKind.i64.wrap n = n := by simp [IntKind.wrap, IntKind.bits, IntKind.signed]; omega
theorem tmod_two (n : Int) : n.tmod 2 = 0 ↔ n % 2 = 0 := by
  constructor
  · intro h
    exact Int.emod_eq_zero_of_dvd (Int.dvd_of_tmod_eq_zero h)
  · intro h
    exact Int.tmod_eq_zero_of_dvd (Int.dvd_of_emod_eq_zero h)

set_option maxRecDepth 100000 in
theorem refRight_any (s n : Int) (w : World) : Calls Tryd.prog 9 #[.agg #[.int .i64 s, .int .i64 n]] w fun e w' => e = .returned (.bool (rightC s n)) ∧ Below w.heap.size w w' := by
  go_enter Tryd.func9, Tryd.ntmps9
  go_wp2
  all_goals
    go_ret
    refine ⟨ret_bool ?_, below_made _ _⟩
    unfold rightC
    rw [Bool.eq_iff_iff]
    have hT := tmod_two n
    simp
    omega

theorem infoRun : (Tryd.prog.info? 35).map (fun i => (i.zero, i.size, i.bytes)) = some (some (.agg #[.int .i64 0, .int .i64 0, .int .i64 0]), 3, 24) := by kernel_rfl
/-- The config that a call lays for itself. -/
def W1 (w : World) (s n : Int) : World := w.alloc (.cells #[.int .i64 s, .int .i64 n] 23)
theorem one_box {w w1 : World} {s n : Int} (h : Below (W1 w s n).heap.size (W1 w s n) w1) : w1.cell? ⟨w.heap.size, 0, none⟩ = some (.int .i64 s) ∧ w1.cell? ⟨w.heap.size, 1, none⟩ = some (.int .i64 n) ∧ w.heap.size < w1.heap.size ∧ Below w.heap.size w w1 := by
  have s1 := size_alloc w (.cells #[.int .i64 s, .int .i64 n] 23)
  have e0 : w1.heap[w.heap.size]? = some (.cells #[.int .i64 s, .int .i64 n] 23 (0, 0)) := by
    rw [h.block _ (by unfold W1; omega)]
    exact heap_alloc_new _ _
  refine ⟨by rw [cell_block e0]; rfl, by rw [cell_block e0]; rfl, by have := h.size; unfold W1 at this; omega, ?_⟩
  exact (below_made w _).trans (h.mono (by unfold W1; omega))
theorem news_three (w : World) (x y z : Int) (e : TypeId) : ∀ j u, [Value.int .i64 x, .int .i64 y, .int .i64 z][j]? = some u → (w.alloc (.cells #[.int .i64 x, .int .i64 y, .int .i64 z] e)).cell? ((⟨w.heap.size, 0, none⟩ : Addr).add j) = some u := by
  intro j u hj
  rw [Addr_add, Nat.zero_add, cell_block (heap_alloc_new w _)]
  simpa using hj
theorem news_three_at (w : World) (g : Nat) (hg : g = w.heap.size) (x y z : Int) (e : TypeId) : ∀ j u, [Value.int .i64 x, .int .i64 y, .int .i64 z][j]? = some u → (w.alloc (.cells #[.int .i64 x, .int .i64 y, .int .i64 z] e)).cell? ((⟨g, 0, none⟩ : Addr).add j) = some u := by
  subst hg
  exact news_three w x y z e
theorem oneCell_three (x y z : Int) : ∀ u ∈ [Value.int .i64 x, .int .i64 y, .int .i64 z], u.oneCell' = true := by
  intro u hu
  simp at hu
  rcases hu with rfl | rfl | rfl <;> rfl
theorem runs_three (w : World) (a : Int) (B : Nat) (hB : B ≤ w.heap.size) : (w.alloc (.cells #[.int .i64 0, .int .i64 8, .int .i64 1, .int .i64 8, .int .i64 120, .int .i64 2, .int .i64 128, .int .i64 a, .int .i64 3] 35)).ownsRow B 35 3 (.slice (some ⟨w.heap.size, 0, none⟩) 3 3) 3 [.int .i64 0, .int .i64 8, .int .i64 1, .int .i64 8, .int .i64 120, .int .i64 2, .int .i64 128, .int .i64 a, .int .i64 3] :=
  ⟨rfl, .inr ⟨w.heap.size, 3, _, rfl, hB, heap_alloc_new w _, Nat.le_refl _, by unfold maxLen; omega, rfl, rfl⟩⟩
def RGot (w : World) (P : List (Nat × Nat × Nat)) (e : Ending) (w' : World) : Prop := ∃ u, e = .returned u ∧ Below w.heap.size w w' ∧ ARow 3 encR (0, 0, 0) w' u P

set_option maxRecDepth 100000 in
set_option maxHeartbeats 2000000 in
theorem refRuns_any (s n : Int) (w : World) : Calls Tryd.prog 18 #[.agg #[.int .i64 s, .int .i64 n]] w (RGot w (runsC s n)) := by
  obtain ⟨i0, hi, hz0, hz1, hz2⟩ := info_parts infoRun
  have HR := Lib.hid (fun u => refRight_any s n u)
  by_cases h : rightC s n = true
  · have hc : runsC s n = runsT s.toNat n.toNat := by rw [runsC, if_pos h]
    rw [hc]
    rw [h] at HR
    obtain ⟨S, N, rfl, rfl, b1, b2, b3, b4, b5⟩ := right_nat h
    rw [Int.toNat_natCast, Int.toNat_natCast]
    obtain ⟨a1, h1⟩ : ∃ a1, a1 = 16 * S := ⟨_, rfl⟩
    obtain ⟨a2, h2⟩ : ∃ a2, a2 = 128 + a1 := ⟨_, rfl⟩
    obtain ⟨a3, h3⟩ : ∃ a3, a3 = 4 * N := ⟨_, rfl⟩
    obtain ⟨a4, h4⟩ : ∃ a4, a4 = a2 + a3 := ⟨_, rfl⟩
    obtain ⟨a5, h5⟩ : ∃ a5, a5 = 1024 * S := ⟨_, rfl⟩
    obtain ⟨pd, h6⟩ : ∃ pd, pd = padT S N := ⟨_, rfl⟩
    obtain ⟨bs, h7⟩ : ∃ bs, bs = a4 + pd := ⟨_, rfl⟩
    have q1 : endT S N = a4 := by unfold endT; omega
    have q2 : slT S = a2 := by unfold slT; omega
    have q3 : baseT S N = bs := by unfold baseT; omega
    have hp := pad_two (s := S) b3
    rw [q1, ← h6] at hp
    have hT : Hid (runsT S N = [(0, 8, 1), (8, 120, 2), (128, a1, 3), (a2, a3, 4)] ++ (if pd = 0 then [] else [(a4, 8, 8)]) ++ [(bs, a5, 7)]) := by
      unfold Hid runsT
      rw [q1, q2, q3, ← h6, ← h1, ← h3, ← h5]
    have e1 : (16 : Int) * S = a1 := by omega
    have e2 : (128 : Int) + a1 = a2 := by omega
    have e3 : (4 : Int) * N = a3 := by omega
    have e4 : (a2 : Int) + a3 = a4 := by omega
    have e5 : (1024 : Int) * S = a5 := by omega
    have e6 : (a4 : Int) + pd = bs := by omega
    have f1 : a1 ≤ 1100 := by omega
    have f2 : a2 ≤ 1300 := by omega
    have f3 : a3 ≤ 33000 := by omega
    have f4 : a4 ≤ 34300 := by omega
    have f5 : a5 ≤ 66000 := by omega
    have f6 : pd ≤ 8 := by rcases hp with h | h <;> omega
    have HP := Lib.hid hp
    have f7 : (S : Int) ≤ 64 := by omega
    have f8 : (N : Int) ≤ 8192 := by omega
    generalize runsT S N = RT at hT ⊢
    clear h hc h1 h2 h3 h4 h5 h6 h7 q1 q2 q3 hp b1 b2 b3 b4 b5
    go_enter Tryd.func18, Tryd.ntmps18
    go_wp2_with fail
    refine (HR.out _).mono ?_
    rintro e w1 ⟨rfl, hw1⟩
    obtain ⟨c1, c2, hlt1, hb1⟩ := one_box hw1
    have hs1 := size_alloc w1 (.cells #[.int .i64 0, .int .i64 8, .int .i64 1, .int .i64 8, .int .i64 120, .int .i64 2, .int .i64 128, .int .i64 (a1 : Int), .int .i64 3] 35)
    have HO1 := Lib.hid (runs_three w1 (a1 : Int) w1.heap.size (Nat.le_refl _))
    have hb2 := below_made w1 (.cells #[.int .i64 0, .int .i64 8, .int .i64 1, .int .i64 8, .int .i64 120, .int .i64 2, .int .i64 128, .int .i64 (a1 : Int), .int .i64 3] 35)
    have HS1 := Lib.hid hs1
    have HB2 := Lib.hid hb2
    clear hs1 hb2
    go_wp2_with (at_builtin; refine wpList_append_own _ rfl (.tmp 20) (.tmp 26) 27 rfl w1.heap.size 35 i0 (.agg #[.int .i64 0, .int .i64 0, .int .i64 0]) 3 24 Tryd.underlying27 hi hz0 hz1 hz2 rfl (by decide) _ _ _ rfl (HO1.out.alloc _) ⟨w1.heap.size + 1, 0, none⟩ 1 1 [.int .i64 (a2 : Int), .int .i64 (a3 : Int), .int .i64 4] rfl rfl (news_three_at _ _ HS1.out.symm _ _ _ _) (oneCell_three _ _ _) (by unfold maxLen; omega) (by omega) (le_alloc _ HB2.out.size) ?_)
    intro v3 w3 hown3 hgrow3 _
    have HB3 := Lib.hid ((HB2.out.alloc HB2.out.size (.cells #[.int .i64 (a2 : Int), .int .i64 (a3 : Int), .int .i64 4] 35)).grown hgrow3 (le_alloc _ HB2.out.size) (fun r hr => (HO1.out.lt r hr).1))
    have d1 := (HB3.out.cell (p := ⟨w.heap.size, 0, none⟩) hlt1).trans c1
    have d2 := (HB3.out.cell (p := ⟨w.heap.size, 1, none⟩) hlt1).trans c2
    have HO3 : Hid (w3.ownsRow w1.heap.size 35 3 v3 4 (valsA encR [(0, 8, 1), (8, 120, 2), (128, a1, 3), (a2, a3, 4)])) := hown3
    have c1' := c1
    clear hown3 hgrow3 HO1 HB2 HS1 c1 c2
    go_wp2
    go_loop [5] (fun p => ∃ k : Nat, k ≤ pd ∧ p = .int .i64 k) (fun p => pd - (intOf p).toNat)
    case atStart => exact ⟨0, Nat.zero_le _, rfl⟩
    case round =>
      obtain ⟨k, hk, rfl⟩ := hrel
      obtain ⟨y, hy⟩ : ∃ y, y = a4 + k := ⟨_, rfl⟩
      have hy1 : (a4 : Int) + k = y := by omega
      by_cases hlt : k < pd
      · have t1 : ((y : Int) % 16 != 0) = true := by rw [bne_iff_ne]; rcases HP.out with h | h <;> omega
        have t2 : ¬ (y : Int) % 16 = 0 := by rcases HP.out with h | h <;> omega
        have t3 : ¬ y % 16 = 0 := by omega
        clear hy
        go_wp2
        go_round
        case rel => exact ⟨k + 1, by omega, by go_num⟩
        case measure => simp [intOf]; omega
      · obtain rfl : k = pd := by omega
        have t1 : ((y : Int) % 16 != 0) = false := by simp; rcases HP.out with h | h <;> omega
        have t2 : (y : Int) % 16 = 0 := by rcases HP.out with h | h <;> omega
        obtain rfl : y = bs := by omega
        clear hy
        by_cases hp0 : k = 0
        · have g1 : ¬ (0 : Int) < (k : Int) := by omega
          have hT2 : Hid (RT = [(0, 8, 1), (8, 120, 2), (128, a1, 3), (a2, a3, 4)] ++ [(y, a5, 7)]) := by
            have := hT.out
            rw [if_pos hp0] at this
            exact this
          clear hp0 hT
          go_wp2_with (at_builtin; refine wpList_append_own _ rfl (.tmp 48) (.tmp 56) 27 rfl w1.heap.size 35 i0 (.agg #[.int .i64 0, .int .i64 0, .int .i64 0]) 3 24 Tryd.underlying27 hi hz0 hz1 hz2 rfl (by decide) _ _ _ rfl (HO3.out.alloc _) ⟨w3.heap.size, 0, none⟩ 1 1 [.int .i64 (y : Int), .int .i64 (a5 : Int), .int .i64 7] rfl rfl (news_three _ _ _ _ _) (oneCell_three _ _ _) (by unfold maxLen; omega) (by omega) (le_alloc _ HB3.out.size) ?_)
          intro v4 w4 hown4 hgrow4 _
          have HB4 := (HB3.out.alloc HB3.out.size (.cells #[.int .i64 (y : Int), .int .i64 (a5 : Int), .int .i64 7] 35)).grown hgrow4 (le_alloc _ HB3.out.size) (fun r hr => (HO3.out.lt r hr).1)
          have hb4 := hb1.trans (HB4.mono hb1.size)
          have HA : Hid (ARow 3 encR (0, 0, 0) w4 v4 RT) := by
            rw [hT2.out]
            exact arow_of_owns encR_length _ (show w4.ownsRow w1.heap.size 35 3 v4 5 (valsA encR ([(0, 8, 1), (8, 120, 2), (128, a1, 3), (a2, a3, 4)] ++ [(y, a5, 7)])) from hown4) rfl
          clear hown4 hgrow4
          go_wp2
          go_ret
          exact ⟨_, rfl, hb4, HA.out⟩
        · have g1 : (0 : Int) < (k : Int) := by omega
          have hk8 : k = 8 := by rcases HP.out with h | h <;> omega
          have hT2 : Hid (RT = ([(0, 8, 1), (8, 120, 2), (128, a1, 3), (a2, a3, 4)] ++ [(a4, k, 8)]) ++ [(y, a5, 7)]) := by
            have := hT.out
            rw [if_neg hp0] at this
            rw [hk8]
            exact this
          clear hp0 hT hk8
          go_wp2_with (at_builtin; refine wpList_append_own _ rfl (.tmp 42) (.tmp 46) 27 rfl w1.heap.size 35 i0 (.agg #[.int .i64 0, .int .i64 0, .int .i64 0]) 3 24 Tryd.underlying27 hi hz0 hz1 hz2 rfl (by decide) _ _ _ rfl (HO3.out.alloc _) ⟨w3.heap.size, 0, none⟩ 1 1 [.int .i64 (a4 : Int), .int .i64 (k : Int), .int .i64 8] rfl rfl (news_three _ _ _ _ _) (oneCell_three _ _ _) (by unfold maxLen; omega) (by omega) (le_alloc _ HB3.out.size) ?_)
          intro v4 w4 hown4 hgrow4 _
          have HB4 := Lib.hid ((HB3.out.alloc HB3.out.size (.cells #[.int .i64 (a4 : Int), .int .i64 (k : Int), .int .i64 8] 35)).grown hgrow4 (le_alloc _ HB3.out.size) (fun r hr => (HO3.out.lt r hr).1))
          have x1 := (HB4.out.cell (p := ⟨w.heap.size, 0, none⟩) hlt1).trans c1'
          have HO4 : Hid (w4.ownsRow w1.heap.size 35 3 v4 5 (valsA encR ([(0, 8, 1), (8, 120, 2), (128, a1, 3), (a2, a3, 4)] ++ [(a4, k, 8)]))) := hown4
          clear hown4 hgrow4
          go_wp2_with (at_builtin; refine wpList_append_own _ rfl (.tmp 48) (.tmp 56) 27 rfl w1.heap.size 35 i0 (.agg #[.int .i64 0, .int .i64 0, .int .i64 0]) 3 24 Tryd.underlying27 hi hz0 hz1 hz2 rfl (by decide) _ _ _ rfl (HO4.out.alloc _) ⟨w4.heap.size, 0, none⟩ 1 1 [.int .i64 (y : Int), .int .i64 (a5 : Int), .int .i64 7] rfl rfl (news_three _ _ _ _ _) (oneCell_three _ _ _) (by unfold maxLen; omega) (by omega) (le_alloc _ HB4.out.size) ?_)
          intro v5 w5 hown5 hgrow5 _
          have HB5 := (HB4.out.alloc HB4.out.size (.cells #[.int .i64 (y : Int), .int .i64 (a5 : Int), .int .i64 7] 35)).grown hgrow5 (le_alloc _ HB4.out.size) (fun r hr => (HO4.out.lt r hr).1)
          have hb5 := hb1.trans (HB5.mono hb1.size)
          have HA : Hid (ARow 3 encR (0, 0, 0) w5 v5 RT) := by
            rw [hT2.out]
            exact arow_of_owns encR_length _ (show w5.ownsRow w1.heap.size 35 3 v5 6 (valsA encR (([(0, 8, 1), (8, 120, 2), (128, a1, 3), (a2, a3, 4)] ++ [(a4, k, 8)]) ++ [(y, a5, 7)])) from hown5) rfl
          clear hown5 hgrow5
          go_wp2
          go_ret
          exact ⟨_, rfl, hb5, HA.out⟩
  · have hc : runsC s n = [] := by rw [runsC, if_neg h]
    have h' : rightC s n = false := by simpa using h
    rw [hc]
    rw [h'] at HR
    clear h h' hc
    go_enter Tryd.func18, Tryd.ntmps18
    go_wp2_with fail
    refine (HR.out _).mono ?_
    rintro e w1 ⟨rfl, hw1⟩
    obtain ⟨c1, c2, hlt1, hb1⟩ := one_box hw1
    go_wp2
    go_ret
    exact ⟨_, rfl, hb1, ARow.nil _ _ _ _⟩
end Go.Proofs.YtemkmkkpamhfoaaDoor.Lay
