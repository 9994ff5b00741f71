/- Contracts of the landed small functions of spans: end, valid, common, Inside, Apart. -/
import Derived.Test.YtbjdlfeipidlbaaSpanL
namespace Go.Proofs.Ytbjdlfeipidlbaa.Span
open Go.RowKit Rec
set_option linter.unusedVariables false

theorem end_any (a n s : Int) (w : World) (hs : a + n = s) (h1 : -9223372036854775808 ≤ s) (h2 : s ≤ 9223372036854775807) :
    Calls Try.prog 24 #[.agg #[.int .i64 a, .int .i64 n]] w fun e w' => e = .returned (.int .i64 s) ∧ Below w.heap.size w w' := by
  have hw : IntKind.i64.wrap (a + n) = s := (wrap_id (by omega) (by omega)).trans hs
  clear hs
  go_enter Try.func24, Try.ntmps24
  go_wp2
  go_ret
  exact ⟨rfl, below_made _ _⟩

theorem valid_any (a n : Int) (w : World) : Calls Try.prog 26 #[.agg #[.int .i64 a, .int .i64 n]] w fun e w' => e = .returned (.bool (okS a n)) ∧ Below w.heap.size w w' := by
  go_enter Try.func26, Try.ntmps26
  go_wp2
  all_goals
    go_ret
    refine ⟨ret_bool ?_, below_made _ _⟩
    unfold okS
    rw [Bool.eq_iff_iff]
    simp
    omega

theorem end_at (a n s : Int) (hs : a + n = s) (h1 : -9223372036854775808 ≤ s) (h2 : s ≤ 9223372036854775807) (x y : Int) (w : World) (hx : x = a) (hy : y = n) :
    Calls Try.prog 24 #[.agg #[.int .i64 x, .int .i64 y]] w fun e w' => e = .returned (.int .i64 s) ∧ Below w.heap.size w w' := by
  subst hx hy
  exact end_any x y s w hs h1 h2
theorem valid_at (a n : Int) (p : Bool) (hp : okS a n = p) (x y : Int) (w : World) (hx : x = a) (hy : y = n) : Calls Try.prog 26 #[.agg #[.int .i64 x, .int .i64 y]] w fun e w' => e = .returned (.bool p) ∧ Below w.heap.size w w' := by
  subst hx hy hp
  exact valid_any x y w

/-- Two structs that a call lays for itself, and a third one. -/
theorem one_box {w w1 : World} {a n : Int} (h : Below (w.alloc (.cells #[.int .i64 a, .int .i64 n] 31)).heap.size (w.alloc (.cells #[.int .i64 a, .int .i64 n] 31)) w1) :
    w1.cell? ⟨w.heap.size, 0, none⟩ = some (.int .i64 a) ∧ w1.cell? ⟨w.heap.size, 1, none⟩ = some (.int .i64 n) ∧ w.heap.size + 1 ≤ w1.heap.size := by
  have s1 := size_alloc w (.cells #[.int .i64 a, .int .i64 n] 31)
  have e0 : w1.heap[w.heap.size]? = some (.cells #[.int .i64 a, .int .i64 n] 31 (0, 0)) := by
    rw [h.block _ (by omega)]
    exact heap_alloc_new _ _
  exact ⟨by rw [cell_block e0]; rfl, by rw [cell_block e0]; rfl, by have := h.size; omega⟩

set_option maxRecDepth 100000 in
set_option maxHeartbeats 2000000 in
theorem inside_any (a n b m : Int) (w : World) : Calls Try.prog 13 #[.agg #[.int .i64 a, .int .i64 n], .agg #[.int .i64 b, .int .i64 m]] w fun e w' => e = .returned (.bool (insS a n b m)) ∧ Below w.heap.size w w' := by
  have H1 := Lib.hid (valid_at a n _ rfl)
  have H2 := Lib.hid (valid_at b m _ rfl)
  have hb0 : Below w.heap.size w (W2 w a n b m) := ((Below.refl _ w).alloc (Nat.le_refl _) _).alloc (by simp) _
  have hx := two_boxes (a := a) (n := n) (b := b) (m := m) (Below.refl (W2 w a n b m).heap.size (W2 w a n b m))
  have hz : (W2 w a n b m).heap.size = w.heap.size + 2 := by unfold W2; rw [size_alloc, size_alloc]
  obtain ⟨c1, c2, c3, c4, -⟩ := hx
  have k1 := Kept.cell c1 (show w.heap.size < (W2 w a n b m).heap.size by omega)
  have k2 := Kept.cell c2 (show w.heap.size < (W2 w a n b m).heap.size by omega)
  have k3 := Kept.cell c3 (show w.heap.size + 1 < (W2 w a n b m).heap.size by omega)
  have k4 := Kept.cell c4 (show w.heap.size + 1 < (W2 w a n b m).heap.size by omega)
  unfold W2 at k1 k2 k3 k4 hb0
  have HB0 := Lib.hid hb0
  clear c1 c2 c3 c4 hz hb0
  by_cases h1 : okS a n = true
  · obtain ⟨p1, p2, p3, p4⟩ := okS_bd h1
    rw [h1] at H1
    by_cases h2 : okS b m = true
    · obtain ⟨q1, q2, q3, q4⟩ := okS_bd h2
      rw [h2] at H2
      have HE : Hid (insS a n b m = true ↔ (b ≤ a ∧ a + n ≤ b + m)) := by unfold Hid insS; rw [h1, h2]; simp
      have E1 := Lib.hid (end_at a n (a + n) rfl (by omega) (by omega))
      have E2 := Lib.hid (end_at b m (b + m) rfl (by omega) (by omega))
      obtain ⟨s, hs⟩ : ∃ s, s = a + n := ⟨_, rfl⟩
      obtain ⟨t, ht⟩ : ∃ t, t = b + m := ⟨_, rfl⟩
      rw [← hs] at E1 HE
      rw [← ht] at E2 HE
      clear h1 h2 hs ht
      by_cases h3 : b ≤ a
      · have hd : decide (b ≤ a) = true := by simpa using h3
        go_enter Try.func13, Try.ntmps13
        go_wp2_with fail
        refine wp_region_kept (by kernel_rfl) (by kernel_rfl) ?_
        repeat (go_big_quiet_step (first
          | (go_at_call 26; exact Calls.kept_of (H1.out _ _ _ rfl rfl) (Nat.le_refl _))
          | (go_at_call 26; exact Calls.kept_of (H2.out _ _ _ rfl rfl) (Nat.le_refl _))
          | (go_at_call 24; exact Calls.kept_of (E1.out _ _ _ rfl rfl) (Nat.le_refl _))
          | (go_at_call 24; exact Calls.kept_of (E2.out _ _ _ rfl rfl) (Nat.le_refl _))))
        refine wpQuiet_nil ?_
        intro _ hw'
        obtain ⟨kk, rfl⟩ := hw'
        go_wp2
        go_ret
        refine ⟨ret_bool ?_, HB0.out.trans (kk.below.mono HB0.out.size)⟩
        rw [Bool.eq_iff_iff, HE.out]
        simp [h3]
      · have hd : decide (b ≤ a) = false := by simpa using h3
        go_enter Try.func13, Try.ntmps13
        go_wp2_with fail
        refine wp_region_kept (by kernel_rfl) (by kernel_rfl) ?_
        repeat (go_big_quiet_step (first
          | (go_at_call 26; exact Calls.kept_of (H1.out _ _ _ rfl rfl) (Nat.le_refl _))
          | (go_at_call 26; exact Calls.kept_of (H2.out _ _ _ rfl rfl) (Nat.le_refl _))))
        refine wpQuiet_nil ?_
        intro _ hw'
        obtain ⟨kk, rfl⟩ := hw'
        go_wp2
        go_ret
        refine ⟨ret_bool ?_, HB0.out.trans (kk.below.mono HB0.out.size)⟩
        symm
        rw [← Bool.not_eq_true, HE.out]
        omega
    · have h2' : okS b m = false := by simpa using h2
      rw [h2'] at H2
      have HE : Hid (insS a n b m = false) := by unfold Hid insS; rw [h2']; simp
      clear h1 h2 h2'
      go_enter Try.func13, Try.ntmps13
      go_wp2_with fail
      refine wp_region_kept (by kernel_rfl) (by kernel_rfl) ?_
      repeat (go_big_quiet_step (first
        | (go_at_call 26; exact Calls.kept_of (H1.out _ _ _ rfl rfl) (Nat.le_refl _))
        | (go_at_call 26; exact Calls.kept_of (H2.out _ _ _ rfl rfl) (Nat.le_refl _))))
      refine wpQuiet_nil ?_
      intro _ hw'
      obtain ⟨kk, rfl⟩ := hw'
      go_wp2
      go_ret
      exact ⟨ret_bool HE.out.symm, HB0.out.trans (kk.below.mono HB0.out.size)⟩
  · have h1' : okS a n = false := by simpa using h1
    rw [h1'] at H1
    have HE : Hid (insS a n b m = false) := by unfold Hid insS; rw [h1']; simp
    clear h1 h1'
    go_enter Try.func13, Try.ntmps13
    go_wp2_with fail
    refine wp_region_kept (by kernel_rfl) (by kernel_rfl) ?_
    repeat (go_big_quiet_step ((go_at_call 26; exact Calls.kept_of (H1.out _ _ _ rfl rfl) (Nat.le_refl _))))
    refine wpQuiet_nil ?_
    intro _ hw'
    obtain ⟨kk, rfl⟩ := hw'
    go_wp2
    go_ret
    exact ⟨ret_bool HE.out.symm, HB0.out.trans (kk.below.mono HB0.out.size)⟩
end Go.Proofs.Ytbjdlfeipidlbaa.Span
