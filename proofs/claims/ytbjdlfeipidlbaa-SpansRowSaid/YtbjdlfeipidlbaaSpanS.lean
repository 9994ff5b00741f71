/- Contracts of the landed common and Apart of spans. -/
import Derived.Test.YtbjdlfeipidlbaaSpanR
namespace Go.Proofs.Ytbjdlfeipidlbaa.Span
open Go.RowKit Rec
set_option linter.unusedVariables false

/-- What two have in common: its length (0 or less: nothing). -/
def comN (a n b m : Int) : Int := min (a + n) (b + m) - max a b
def comV (a n b m : Int) : Value := if comN a n b m ≤ 0 then .agg #[.int .i64 0, .int .i64 0] else .agg #[.int .i64 (max a b), .int .i64 (comN a n b m)]
theorem comV_apr {a n b m : Int} (h1 : okS a n = true) (h2 : okS b m = true) : (aprS a n b m = true) = (comN a n b m ≤ 0) := by
  obtain ⟨p1, p2, p3, p4⟩ := okS_bd h1
  obtain ⟨q1, q2, q3, q4⟩ := okS_bd h2
  unfold aprS comN
  rw [h1, h2]
  simp
  omega

theorem two_set {w : World} {b : Nat} {v0 v1 : Value} (h0 : w.cell? ⟨b, 0, none⟩ = some v0) (h1 : w.cell? ⟨b, 1, none⟩ = some v1) (u0 u1 : Value) :
    ((w.setCell ⟨b, 0, none⟩ u0).setCell ⟨b, 1, none⟩ u1).cell? ⟨b, 0, none⟩ = some u0 ∧ ((w.setCell ⟨b, 0, none⟩ u0).setCell ⟨b, 1, none⟩ u1).cell? ⟨b, 1, none⟩ = some u1 ∧ (w.setCell ⟨b, 0, none⟩ u0).cell? ⟨b, 0, none⟩ = some u0 := by
  refine ⟨?_, ?_, World.cell?_setCell_same _ _ _ h0⟩
  · rw [World.cell?_setCell_other _ _ _ _ (by intro h; injection h with _ h2 _; cases h2)]
    exact World.cell?_setCell_same _ _ _ h0
  · exact World.cell?_setCell_same _ _ _ ((World.cell?_setCell_other _ _ _ _ (by intro h; injection h with _ h2 _; cases h2)).trans h1)
theorem frozen_block {w : World} {g : Nat} {c : Array Value} {e : TypeId} (h : w.heap[g]? = some (.cells c e (0, 0))) (i : Nat) : w.frozen? ⟨g, i, none⟩ = false := by simp [World.frozen?, h]
/-- Two structs that a call lays for itself, and its result. -/
theorem three_boxes (w : World) (a n b m : Int) :
    ∃ W, W = ((w.alloc (.cells #[.int .i64 a, .int .i64 n] 31)).alloc (.cells #[.int .i64 b, .int .i64 m] 31)).alloc (.cells #[.int .i64 0, .int .i64 0] 31) ∧ Below w.heap.size w W ∧ W.heap.size = w.heap.size + 1 + 1 + 1 ∧
    W.cell? ⟨w.heap.size, 0, none⟩ = some (.int .i64 a) ∧ W.cell? ⟨w.heap.size, 1, none⟩ = some (.int .i64 n) ∧ W.cell? ⟨w.heap.size + 1, 0, none⟩ = some (.int .i64 b) ∧ W.cell? ⟨w.heap.size + 1, 1, none⟩ = some (.int .i64 m) ∧
    W.cell? ⟨w.heap.size + 1 + 1, 0, none⟩ = some (.int .i64 0) ∧ W.cell? ⟨w.heap.size + 1 + 1, 1, none⟩ = some (.int .i64 0) ∧ W.frozen? ⟨w.heap.size + 1 + 1, 0, none⟩ = false ∧ W.frozen? ⟨w.heap.size + 1 + 1, 1, none⟩ = false := by
  obtain ⟨c1, c2, c3, c4, c5⟩ := two_boxes (a := a) (n := n) (b := b) (m := m) (Below.refl (W2 w a n b m).heap.size (W2 w a n b m))
  have hz : (W2 w a n b m).heap.size = w.heap.size + 1 + 1 := by unfold W2; rw [size_alloc, size_alloc]
  have hb0 : Below w.heap.size w (W2 w a n b m) := ((Below.refl _ w).alloc (Nat.le_refl _) _).alloc (by simp) _
  have hal := below_made (W2 w a n b m) (.cells #[.int .i64 0, .int .i64 0] 31)
  have hn := heap_alloc_new (W2 w a n b m) (.cells #[.int .i64 0, .int .i64 0] 31)
  rw [hz] at hn
  refine ⟨_, rfl, hb0.trans (hal.mono hb0.size), by rw [size_alloc]; exact congrArg (· + 1) hz, (hal.cell (p := ⟨w.heap.size, 0, none⟩) (by simp only []; omega)).trans c1, (hal.cell (p := ⟨w.heap.size, 1, none⟩) (by simp only []; omega)).trans c2,
    (hal.cell (p := ⟨w.heap.size + 1, 0, none⟩) (by simp only []; omega)).trans c3, (hal.cell (p := ⟨w.heap.size + 1, 1, none⟩) (by simp only []; omega)).trans c4, ?_, ?_, ?_, ?_⟩
  · exact (cell_block hn 0).trans rfl
  · exact (cell_block hn 1).trans rfl
  · exact frozen_block hn 0
  · exact frozen_block hn 1

set_option maxRecDepth 100000 in
set_option maxHeartbeats 2000000 in
theorem common_any (a n b m : Int) (w : World) (h1 : okS a n = true) (h2 : okS b m = true) :
    Calls Try.prog 28 #[.agg #[.int .i64 a, .int .i64 n], .agg #[.int .i64 b, .int .i64 m]] w fun e w' => e = .returned (comV a n b m) ∧ Below w.heap.size w w' := by
  obtain ⟨p1, p2, p3, p4⟩ := okS_bd h1
  obtain ⟨q1, q2, q3, q4⟩ := okS_bd h2
  clear h1 h2
  have E1 := Lib.hid (end_at a n (a + n) rfl (by omega) (by omega))
  have E2 := Lib.hid (end_at b m (b + m) rfl (by omega) (by omega))
  obtain ⟨s, hs⟩ : ∃ s, s = a + n := ⟨_, rfl⟩
  obtain ⟨t, ht⟩ : ∃ t, t = b + m := ⟨_, rfl⟩
  have HV : Hid (∀ x y d, max a b = x → min s t = y → y - x = d → comV a n b m = if d ≤ 0 then .agg #[.int .i64 0, .int .i64 0] else .agg #[.int .i64 x, .int .i64 d]) := by
    unfold Hid
    rintro _ _ _ rfl rfl rfl
    unfold comV comN
    rw [← hs, ← ht]
  have HB : Hid (∀ x y, max a b = x → min s t = y → wrap64 (y - x) = y - x) := by
    unfold Hid
    intro x y hx hy
    have b1 : -4398046511104 ≤ y - x := by omega
    have b2 : y - x ≤ 4398046511104 := by omega
    unfold wrap64
    omega
  rw [← hs] at E1
  rw [← ht] at E2
  obtain ⟨W, hW, hb0, hz, c1, c2, c3, c4, c5, c6, f5, f6⟩ := three_boxes w a n b m
  have k1 := Kept.cell c1 (show w.heap.size < W.heap.size by omega)
  have k2 := Kept.cell c2 (show w.heap.size < W.heap.size by omega)
  have k3 := Kept.cell c3 (show w.heap.size + 1 < W.heap.size by omega)
  have k4 := Kept.cell c4 (show w.heap.size + 1 < W.heap.size by omega)
  have k5 := Kept.cell c5 (show w.heap.size + 1 + 1 < W.heap.size by omega)
  have k6 := Kept.cell c6 (show w.heap.size + 1 + 1 < W.heap.size by omega)
  have k7 := Kept.frozen f5 (show w.heap.size + 1 + 1 < W.heap.size by omega)
  have k8 := Kept.frozen f6 (show w.heap.size + 1 + 1 < W.heap.size by omega)
  have HB0 := Lib.hid hb0
  subst hW
  clear hs ht c1 c2 c3 c4 c5 c6 f5 f6 hz hb0 p1 p2 p3 p4 q1 q2 q3 q4
  go_enter Try.func28, Try.ntmps28
  go_wp2_with fail
  · have HX : Hid (max a b = b) := by unfold Hid; omega
    refine wp_region_kept (by kernel_rfl) (by kernel_rfl) ?_
    repeat (go_big_quiet_step (first
      | (go_at_call 24; exact Calls.kept_of (E1.out _ _ _ rfl rfl) (Nat.le_refl _))
      | (go_at_call 24; exact Calls.kept_of (E2.out _ _ _ rfl rfl) (Nat.le_refl _))))
    refine wpQuiet_nil ?_
    intro _ hw'
    obtain ⟨kk, rfl⟩ := hw'
    have g5 := k5 kk
    have g6 := k6 kk
    have g7 := k7 kk
    have g8 := k8 kk
    have hb1 := HB0.out.trans (kk.below.mono HB0.out.size)
    clear k1 k2 k3 k4 k5 k6 k7 k8
    have hm : (if t < s then t else s) = min s t := by split <;> omega
    simp only [hm]
    generalize hy : min s t = y
    have hw := HB.out _ _ HX.out hy
    have HV' := HV.out _ _ _ HX.out hy rfl
    clear hy HB HV hm
    rw [hw]
    clear hw
    revert HV'
    generalize y - _ = d
    intro HV'
    have HV := Lib.hid HV'
    clear HV'
    by_cases hd0 : d ≤ 0
    · go_wp2
      obtain ⟨q0, q1, q2⟩ := two_set g5 g6 (.int .i64 0) (.int .i64 0)
      refine bodyPost_ret (v := .agg #[.int .i64 0, .int .i64 0]) (by simp [results, Try.results28, go_sem, q0, q1, q2]) rfl ⟨?_, ?_⟩
      · rw [HV.out, if_pos hd0]
      · exact (hb1.setCell (by show w.heap.size ≤ w.heap.size + 1 + 1; omega) _).setCell (by show w.heap.size ≤ w.heap.size + 1 + 1; omega) _
    · go_wp2
      obtain ⟨q0, q1, q2⟩ := two_set g5 g6 (.int .i64 b) (.int .i64 d)
      refine bodyPost_ret (v := .agg #[.int .i64 b, .int .i64 d]) (by simp [results, Try.results28, go_sem, q0, q1, q2]) rfl ⟨?_, ?_⟩
      · rw [HV.out, if_neg (by omega)]
      · exact (hb1.setCell (by show w.heap.size ≤ w.heap.size + 1 + 1; omega) _).setCell (by show w.heap.size ≤ w.heap.size + 1 + 1; omega) _
  · have HX : Hid (max a b = a) := by unfold Hid; omega
    refine wp_region_kept (by kernel_rfl) (by kernel_rfl) ?_
    repeat (go_big_quiet_step (first
      | (go_at_call 24; exact Calls.kept_of (E1.out _ _ _ rfl rfl) (Nat.le_refl _))
      | (go_at_call 24; exact Calls.kept_of (E2.out _ _ _ rfl rfl) (Nat.le_refl _))))
    refine wpQuiet_nil ?_
    intro _ hw'
    obtain ⟨kk, rfl⟩ := hw'
    have g5 := k5 kk
    have g6 := k6 kk
    have g7 := k7 kk
    have g8 := k8 kk
    have hb1 := HB0.out.trans (kk.below.mono HB0.out.size)
    clear k1 k2 k3 k4 k5 k6 k7 k8
    have hm : (if t < s then t else s) = min s t := by split <;> omega
    simp only [hm]
    generalize hy : min s t = y
    have hw := HB.out _ _ HX.out hy
    have HV' := HV.out _ _ _ HX.out hy rfl
    clear hy HB HV hm
    rw [hw]
    clear hw
    revert HV'
    generalize y - _ = d
    intro HV'
    have HV := Lib.hid HV'
    clear HV'
    by_cases hd0 : d ≤ 0
    · go_wp2
      obtain ⟨q0, q1, q2⟩ := two_set g5 g6 (.int .i64 0) (.int .i64 0)
      refine bodyPost_ret (v := .agg #[.int .i64 0, .int .i64 0]) (by simp [results, Try.results28, go_sem, q0, q1, q2]) rfl ⟨?_, ?_⟩
      · rw [HV.out, if_pos hd0]
      · exact (hb1.setCell (by show w.heap.size ≤ w.heap.size + 1 + 1; omega) _).setCell (by show w.heap.size ≤ w.heap.size + 1 + 1; omega) _
    · go_wp2
      obtain ⟨q0, q1, q2⟩ := two_set g5 g6 (.int .i64 a) (.int .i64 d)
      refine bodyPost_ret (v := .agg #[.int .i64 a, .int .i64 d]) (by simp [results, Try.results28, go_sem, q0, q1, q2]) rfl ⟨?_, ?_⟩
      · rw [HV.out, if_neg (by omega)]
      · exact (hb1.setCell (by show w.heap.size ≤ w.heap.size + 1 + 1; omega) _).setCell (by show w.heap.size ≤ w.heap.size + 1 + 1; omega) _

set_option maxRecDepth 100000 in
set_option maxHeartbeats 2000000 in
theorem apart_any (a n b m : Int) (w : World) : Calls Try.prog 15 #[.agg #[.int .i64 a, .int .i64 n], .agg #[.int .i64 b, .int .i64 m]] w fun e w' => e = .returned (.bool (aprS a n b m)) ∧ Below w.heap.size w w' := by
  have hb0 : Below w.heap.size w (W2 w a n b m) := ((Below.refl _ w).alloc (Nat.le_refl _) _).alloc (by simp) _
  have H1 := Lib.hid (fun u => valid_any a n u)
  have H2 := Lib.hid (fun u => valid_any b m u)
  by_cases h1 : okS a n = true
  · rw [h1] at H1
    by_cases h2 : okS b m = true
    · rw [h2] at H2
      have HC := Lib.hid (fun u => common_any a n b m u h1 h2)
      have hcv := comV_apr h1 h2
      by_cases h3 : comN a n b m ≤ 0
      · have hv : comV a n b m = .agg #[.int .i64 0, .int .i64 0] := by unfold comV; rw [if_pos h3]
        have hE : aprS a n b m = true := by rw [hcv]; exact h3
        rw [hv] at HC
        rw [hE]
        clear h1 h2 h3 hcv hv hE
        go_enter Try.func15, Try.ntmps15
        go_wp2_with fail
        refine (H1.out _).mono ?_
        rintro e w1 ⟨rfl, hw1⟩
        obtain ⟨c1, c2, c3, c4, hz1⟩ := two_boxes hw1
        have hb1 := hb0.trans (hw1.mono hb0.size)
        go_wp2_with fail
        refine (H2.out _).mono ?_
        rintro e w2 ⟨rfl, hw2⟩
        obtain ⟨d1, d2, d3, d4, -⟩ := two_boxes (hw1.trans (hw2.mono hw1.size))
        have hb2 := hb1.trans (hw2.mono hb1.size)
        go_wp2_with fail
        refine (HC.out _).mono ?_
        rintro e w3 ⟨rfl, hw3⟩
        have hb3 := hb2.trans (hw3.mono hb2.size)
        go_wp2
        go_ret
        exact ⟨rfl, hb3⟩
      · have hv : comV a n b m = .agg #[.int .i64 (max a b), .int .i64 (comN a n b m)] := by unfold comV; rw [if_neg h3]
        have hE : aprS a n b m = false := by
          have : ¬ aprS a n b m = true := by rw [hcv]; exact h3
          simpa using this
        rw [hv] at HC
        rw [hE]
        generalize max a b = x at HC
        generalize comN a n b m = d at HC h3
        have hd : (d == 0) = false := by simp; omega
        clear h1 h2 hcv hv hE
        go_enter Try.func15, Try.ntmps15
        go_wp2_with fail
        refine (H1.out _).mono ?_
        rintro e w1 ⟨rfl, hw1⟩
        obtain ⟨c1, c2, c3, c4, hz1⟩ := two_boxes hw1
        have hb1 := hb0.trans (hw1.mono hb0.size)
        go_wp2_with fail
        refine (H2.out _).mono ?_
        rintro e w2 ⟨rfl, hw2⟩
        obtain ⟨d1, d2, d3, d4, -⟩ := two_boxes (hw1.trans (hw2.mono hw1.size))
        have hb2 := hb1.trans (hw2.mono hb1.size)
        go_wp2_with fail
        refine (HC.out _).mono ?_
        rintro e w3 ⟨rfl, hw3⟩
        have hb3 := hb2.trans (hw3.mono hb2.size)
        go_wp2
        all_goals go_ret
        all_goals exact ⟨ret_bool (by simp; try omega), hb3⟩
    · have h2' : okS b m = false := by simpa using h2
      rw [h2'] at H2
      have HE : Hid (aprS a n b m = false) := by unfold Hid aprS; rw [h2']; simp
      clear h1 h2 h2'
      go_enter Try.func15, Try.ntmps15
      go_wp2_with fail
      refine (H1.out _).mono ?_
      rintro e w1 ⟨rfl, hw1⟩
      obtain ⟨c1, c2, c3, c4, hz1⟩ := two_boxes hw1
      have hb1 := hb0.trans (hw1.mono hb0.size)
      go_wp2_with fail
      refine (H2.out _).mono ?_
      rintro e w2 ⟨rfl, hw2⟩
      have hb2 := hb1.trans (hw2.mono hb1.size)
      go_wp2
      go_ret
      exact ⟨ret_bool HE.out.symm, hb2⟩
  · have h1' : okS a n = false := by simpa using h1
    rw [h1'] at H1
    have HE : Hid (aprS a n b m = false) := by unfold Hid aprS; rw [h1']; simp
    clear h1 h1'
    go_enter Try.func15, Try.ntmps15
    go_wp2_with fail
    refine (H1.out _).mono ?_
    rintro e w1 ⟨rfl, hw1⟩
    have hb1 := hb0.trans (hw1.mono hb0.size)
    go_wp2
    go_ret
    exact ⟨ret_bool HE.out.symm, hb1⟩
end Go.Proofs.Ytbjdlfeipidlbaa.Span
