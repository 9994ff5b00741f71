/- Contracts of the document's Of, may, Inside, Apart, Fits. -/
import Derived.Test.YtbjdlfeipidlbaaSpanM
import Derived.Test.YtbjdlfeipidlbaaRecL
namespace Go.Proofs.Ytbjdlfeipidlbaa.Span
open Go.RowKit Rec
set_option linter.unusedVariables false

def OfGot (w : World) (r : List (Nat × Nat) × Int) (e : Ending) (w' : World) : Prop :=
  ∃ u, e = .returned (.tuple #[u, .int .i64 r.2]) ∧ Below w.heap.size w w' ∧ PRow w' u r.1
theorem infoSpan : (Try.prog.info? 31).map (fun i => (i.zero, i.size, i.bytes)) = some (some (.agg #[.int .i64 0, .int .i64 0]), 2, 16) := by kernel_rfl
theorem unp_zero {l : List Int} (h : (unpV l).2 = 0) : unpV l = ((unpV l).1, 0) := by rw [← h]
theorem news_two (w : World) (x y : Int) (e : TypeId) : ∀ j u, [Value.int .i64 x, .int .i64 y][j]? = some u → (w.alloc (.cells #[.int .i64 x, .int .i64 y] e)).cell? ((⟨w.heap.size, 0, none⟩ : Addr).add j) = some u := by
  intro j u hj
  rw [Addr_add, Nat.zero_add, cell_block (heap_alloc_new w _)]
  simpa using hj
theorem oneCell_two (x y : Int) : ∀ u ∈ [Value.int .i64 x, .int .i64 y], u.oneCell' = true := by
  intro u hu
  simp at hu
  rcases hu with rfl | rfl <;> rfl

set_option maxRecDepth 100000 in
set_option maxHeartbeats 2000000 in
theorem refOf_any (v : Value) (l : List Int) (w : World) (hr : Row .u8 w v l) (hl : l.length ≤ 3000) :
    Calls Try.prog 10 #[v] w (OfGot w (ofV l)) := by
  obtain ⟨i0, hi, hz0, hz1, hz2⟩ := info_parts infoSpan
  have HU := Lib.hid (refUnpack_any v l w hr (by omega))
  have HB := Lib.hid hr.bytes
  unfold UGot at HU
  by_cases hc : (unpV l).2 = 0
  · have hu := unp_zero hc
    obtain ⟨L, hL⟩ : ∃ L, L = (unpV l).1 := ⟨_, rfl⟩
    rw [← hL] at hu
    obtain ⟨f1, f2, f3, f4⟩ := ofV_fits HB.out hu
    rw [ofV_yes hu]
    rw [hu] at HU
    clear hL hc
    obtain ⟨n0, hn0⟩ : ∃ n0, n0 = 2 + 2 * L.length := ⟨_, rfl⟩
    have hn1 : (2 : Int) + 2 * L.length = n0 := by omega
    rw [← hn0]
    go_enter Try.func10, Try.ntmps10
    go_wp2_with fail
    refine HU.out.mono ?_
    rintro e w1 ⟨u, rfl, hb1, hq⟩
    obtain ⟨ad, cap, U, rfl, g2, g3, g4, g5⟩ := hq
    have HC := Lib.hid g5
    have HS := Lib.hid g4
    have h16 : (L.length : Int) ≤ 16 := by omega
    have hn2 : n0 ≤ 40 := by omega
    have HD : Hid (n0 + dat L ≤ 480) := by unfold Hid; omega
    have HB0 := Lib.hid hb1
    clear g4 g5 hu hn0 f1 f4 HU hb1
    go_wp2
    go_loopw [6, 7, 8] (fun o s i wr => ∃ k m : Nat, k ≤ L.length ∧ i = .int .i64 k ∧ s = .int .i64 m ∧ m ≤ 480 ∧ Hid (m = n0 + dat (L.take k)) ∧ Hid (wr.ownsRow w1.heap.size 31 2 o k (valsP (spL n0 (L.take k)))) ∧ Below w1.heap.size w1 wr) (fun _ _ i _ => L.length - (intOf i).toNat)
    case atStart => exact ⟨0, n0, Nat.zero_le _, rfl, rfl, by omega, by simp [Hid, dat], World.ownsRow_nil _ _ _ _, Below.refl _ _⟩
    case round =>
      clear hn1 hn2
      obtain ⟨k, m, hk, rfl, rfl, hm, HM, HO, hbel⟩ := hrel
      have hsz := hbel.size
      by_cases hlt : k < L.length
      · have hlt1 : (k : Int) < (L.length : Int) := by omega
        obtain ⟨b, off, rfl, hlb, hcc⟩ := HC.out (by rintro rfl; simp at hlt)
        have hc1 := hcc k hlt
        have hs := HS.out k hlt
        have hd1 := dat_take_succ L k hlt
        have hd2 := dat_take_le L (k + 1)
        have hsp : spL n0 (L.take (k + 1)) = spL n0 (L.take k) ++ [(n0 + dat (L.take k), (L.getD k []).length)] := by
          have e : L.getD k [] = L[k] := by simp [List.getD, hlt]
          rw [List.take_succ_eq_append_getElem hlt, spL_append, e]
          rfl
        rw [← HM.out] at hsp
        have hmd := HM.out
        obtain ⟨x, hx⟩ : ∃ x, x = L.getD k [] := ⟨_, rfl⟩
        rw [← hx] at hs hd1 hsp
        have hm3 : m + x.length ≤ 480 := by have := HD.out; omega
        have HM3 : Hid (m + x.length = n0 + dat (L.take (k + 1))) := by unfold Hid; omega
        have HV := Lib.hid (valsP_snoc (spL n0 (L.take k)) m x.length)
        rw [← hsp] at HV
        obtain ⟨adx, capx, hU, -, -, -, -⟩ := hs
        rw [hU] at hc1
        have hcell := (hbel.cell (p := ⟨b, off + k, none⟩) hlb).trans hc1
        have hb63 : k + 1 ≤ maxLen := maxLen_of (by omega)
        have hbby : (k + 1) * 16 ≤ 140737488355328 := by omega
        clear hcc hx hU hsp hmd hd1 hd2
        go_wp2_with (at_builtin; refine wpList_append_own _ rfl (.tmp 27) (.tmp 35) 24 rfl w1.heap.size 31 i0 (.agg #[.int .i64 0, .int .i64 0]) 2 16 Try.underlying24 hi hz0 hz1 hz2 rfl (by decide) _ _ _ rfl (HO.out.alloc _) ⟨wr.heap.size, 0, none⟩ 1 1 [.int .i64 (m : Int), .int .i64 (x.length : Int)] rfl rfl (news_two _ _ _ _) (oneCell_two _ _) hb63 hbby (le_alloc _ hsz) ?_)
        intro v' w5 hown' hgrow _
        have hb5 : Below w1.heap.size w1 w5 := (hbel.alloc hsz _).grown hgrow (by simp; omega) (fun r hr => (HO.out.lt r hr).1)
        have hcell5 := (hb5.cell (p := ⟨b, off + k, none⟩) hlb).trans hc1
        have HO5 : Hid (w5.ownsRow w1.heap.size 31 2 v' (k + 1) (valsP (spL n0 (L.take (k + 1))))) := by
          unfold Hid
          rw [HV.out]
          exact hown'
        clear hown' hgrow HO hbel hsz
        go_wp2
        go_roundw
        case rel => exact ⟨k + 1, m + x.length, by omega, by go_num, by go_num, hm3, HM3, HO5, hb5⟩
        case measure => simp [intOf]; omega
      · obtain rfl : k = L.length := by omega
        have hO := HO.out
        rw [List.take_length] at hO
        have HP := Lib.hid (prow_of_owns hO (spL_length _ _))
        have hb := HB0.out.trans (hbel.mono HB0.out.size)
        clear hO HM
        go_wp2
        go_ret2
        exact ⟨_, rfl, hb, HP.out⟩
  · rw [ofV_no hc]
    obtain ⟨c, hcc⟩ : ∃ c, c = (unpV l).2 := ⟨_, rfl⟩
    have hc2 : (c != 0) = true := by rw [hcc]; simpa using hc
    have HU2 : Hid (Calls Try.prog 25 #[v] w fun e w' => ∃ u, e = .returned (.tuple #[u, .int .i64 c]) ∧ Below w.heap.size w w') := by
      unfold Hid
      refine HU.out.mono ?_
      rintro e w' ⟨u, h1, h2, -⟩
      exact ⟨u, by rw [hcc]; exact h1, h2⟩
    rw [← hcc]
    clear hcc hc HU
    go_enter Try.func10, Try.ntmps10
    go_wp2_with fail
    refine HU2.out.mono ?_
    rintro e w1 ⟨u, rfl, hb1⟩
    go_wp2
    go_ret2
    exact ⟨_, rfl, hb1, PRow.nil _⟩

/-- A span that is valid; one inside another; two apart. -/
def okS (a n : Int) : Bool := decide (0 ≤ a) && (decide (a ≤ 1099511627776) && (decide (0 ≤ n) && decide (n ≤ 1099511627776)))
def insS (a n b m : Int) : Bool := okS a n && (okS b m && (decide (b ≤ a) && decide (a + n ≤ b + m)))
def aprS (a n b m : Int) : Bool := okS a n && (okS b m && (decide (n = 0) || (decide (m = 0) || (decide (a + n ≤ b) || decide (b + m ≤ a)))))
theorem aprS_comm (a n b m : Int) : aprS a n b m = aprS b m a n := by
  unfold aprS
  rw [Bool.eq_iff_iff]
  simp only [Bool.and_eq_true, Bool.or_eq_true]
  constructor <;> (rintro ⟨h1, h2, h⟩; refine ⟨h2, h1, ?_⟩; rcases h with h | h | h | h <;> simp [h])
theorem okS_bd {a n : Int} (h : okS a n = true) : 0 ≤ a ∧ a ≤ 1099511627776 ∧ 0 ≤ n ∧ n ≤ 1099511627776 := by
  simpa [okS, and_assoc] using h

theorem refMay_any (a n : Int) (w : World) : Calls Try.prog 27 #[.agg #[.int .i64 a, .int .i64 n]] w fun e w' => e = .returned (.bool (okS a n)) ∧ Below w.heap.size w w' := by
  go_enter Try.func27, Try.ntmps27
  go_wp2
  all_goals
    go_ret
    refine ⟨ret_bool ?_, below_made _ _⟩
    unfold okS
    rw [Bool.eq_iff_iff]
    simp
    omega

/-- Two structs that a call lays for itself. -/
def W2 (w : World) (a n b m : Int) : World := (w.alloc (.cells #[.int .i64 a, .int .i64 n] 31)).alloc (.cells #[.int .i64 b, .int .i64 m] 31)
theorem two_boxes {w w1 : World} {a n b m : Int} (h : Below (W2 w a n b m).heap.size (W2 w a n b m) w1) :
    w1.cell? ⟨w.heap.size, 0, none⟩ = some (.int .i64 a) ∧ w1.cell? ⟨w.heap.size, 1, none⟩ = some (.int .i64 n) ∧ w1.cell? ⟨w.heap.size + 1, 0, none⟩ = some (.int .i64 b) ∧ w1.cell? ⟨w.heap.size + 1, 1, none⟩ = some (.int .i64 m) ∧ w.heap.size + 2 ≤ w1.heap.size := by
  have s1 := size_alloc w (.cells #[.int .i64 a, .int .i64 n] 31)
  have s2 := size_alloc (w.alloc (.cells #[.int .i64 a, .int .i64 n] 31)) (.cells #[.int .i64 b, .int .i64 m] 31)
  have hs : (W2 w a n b m).heap.size = w.heap.size + 2 := by unfold W2; rw [s2, s1]
  have e0 : w1.heap[w.heap.size]? = some (.cells #[.int .i64 a, .int .i64 n] 31 (0, 0)) := by
    rw [h.block _ (by omega)]
    unfold W2
    rw [Below.heap_alloc _ _ _ (by omega)]
    exact heap_alloc_new _ _
  have e1 : w1.heap[w.heap.size + 1]? = some (.cells #[.int .i64 b, .int .i64 m] 31 (0, 0)) := by
    rw [h.block _ (by omega)]
    have := heap_alloc_new (w.alloc (.cells #[.int .i64 a, .int .i64 n] 31)) (.cells #[.int .i64 b, .int .i64 m] 31)
    rw [s1] at this
    exact this
  exact ⟨by rw [cell_block e0]; rfl, by rw [cell_block e0]; rfl, by rw [cell_block e1]; rfl, by rw [cell_block e1]; rfl, by have := h.size; omega⟩

set_option maxRecDepth 100000 in
theorem refInside_any (a n b m : Int) (w : World) : Calls Try.prog 14 #[.agg #[.int .i64 a, .int .i64 n], .agg #[.int .i64 b, .int .i64 m]] w fun e w' => e = .returned (.bool (insS a n b m)) ∧ Below w.heap.size w w' := by
  have H1 := Lib.hid (fun u => refMay_any a n u)
  have H2 := Lib.hid (fun u => refMay_any b m u)
  have hb0 : Below w.heap.size w (W2 w a n b m) := ((Below.refl _ w).alloc (Nat.le_refl _) _).alloc (by simp) _
  by_cases h1 : okS a n = true
  · obtain ⟨p1, p2, p3, p4⟩ := okS_bd h1
    rw [h1] at H1
    by_cases h2 : okS b m = true
    · obtain ⟨q1, q2, q3, q4⟩ := okS_bd h2
      rw [h2] at H2
      have HE : Hid (insS a n b m = true ↔ (b ≤ a ∧ a + n ≤ b + m)) := by unfold Hid insS; rw [h1, h2]; simp
      clear h1 h2
      go_enter Try.func14, Try.ntmps14
      go_wp2_with fail
      refine (H1.out _).mono ?_
      rintro e w1 ⟨rfl, hw1⟩
      obtain ⟨c1, c2, c3, c4, hz1⟩ := two_boxes hw1
      have hb1 := hb0.trans (hw1.mono hb0.size)
      go_wp2_with fail
      refine (H2.out _).mono ?_
      rintro e w2 ⟨rfl, hw2⟩
      obtain ⟨d1, d2, d3, d4, -⟩ := two_boxes (hw1.trans (hw2.mono hw1.size))
      have hb2 := hb1.trans (hw2.mono hb1.size)
      go_wp2
      all_goals
        go_ret
        refine ⟨ret_bool ?_, hb2⟩
        rw [Bool.eq_iff_iff, HE.out]
        simp
        try omega
    · have h2' : okS b m = false := by simpa using h2
      rw [h2'] at H2
      have HE : Hid (insS a n b m = false) := by unfold Hid insS; rw [h2']; simp
      clear h1 h2 h2'
      go_enter Try.func14, Try.ntmps14
      go_wp2_with fail
      refine (H1.out _).mono ?_
      rintro e w1 ⟨rfl, hw1⟩
      obtain ⟨c1, c2, c3, c4, hz1⟩ := two_boxes hw1
      have hb1 := hb0.trans (hw1.mono hb0.size)
      go_wp2_with fail
      refine (H2.out _).mono ?_
      rintro e w2 ⟨rfl, hw2⟩
      have hb2 := hb1.trans (hw2.mono hb1.size)
      go_wp2
      go_ret
      exact ⟨ret_bool HE.out.symm, hb2⟩
  · have h1' : okS a n = false := by simpa using h1
    rw [h1'] at H1
    have HE : Hid (insS a n b m = false) := by unfold Hid insS; rw [h1']; simp
    clear h1 h1'
    go_enter Try.func14, Try.ntmps14
    go_wp2_with fail
    refine (H1.out _).mono ?_
    rintro e w1 ⟨rfl, hw1⟩
    have hb1 := hb0.trans (hw1.mono hb0.size)
    go_wp2
    go_ret
    exact ⟨ret_bool HE.out.symm, hb1⟩

set_option maxRecDepth 100000 in
theorem refApart_any (a n b m : Int) (w : World) : Calls Try.prog 16 #[.agg #[.int .i64 a, .int .i64 n], .agg #[.int .i64 b, .int .i64 m]] w fun e w' => e = .returned (.bool (aprS a n b m)) ∧ Below w.heap.size w w' := by
  have H1 := Lib.hid (fun u => refMay_any a n u)
  have H2 := Lib.hid (fun u => refMay_any b m u)
  have hb0 : Below w.heap.size w (W2 w a n b m) := ((Below.refl _ w).alloc (Nat.le_refl _) _).alloc (by simp) _
  by_cases h1 : okS a n = true
  · obtain ⟨p1, p2, p3, p4⟩ := okS_bd h1
    rw [h1] at H1
    by_cases h2 : okS b m = true
    · obtain ⟨q1, q2, q3, q4⟩ := okS_bd h2
      rw [h2] at H2
      have HE : Hid (aprS a n b m = true ↔ (n = 0 ∨ m = 0 ∨ a + n ≤ b ∨ b + m ≤ a)) := by unfold Hid aprS; rw [h1, h2]; simp
      clear h1 h2
      go_enter Try.func16, Try.ntmps16
      go_wp2_with fail
      refine (H1.out _).mono ?_
      rintro e w1 ⟨rfl, hw1⟩
      obtain ⟨c1, c2, c3, c4, hz1⟩ := two_boxes hw1
      have hb1 := hb0.trans (hw1.mono hb0.size)
      go_wp2_with fail
      refine (H2.out _).mono ?_
      rintro e w2 ⟨rfl, hw2⟩
      obtain ⟨d1, d2, d3, d4, -⟩ := two_boxes (hw1.trans (hw2.mono hw1.size))
      have hb2 := hb1.trans (hw2.mono hb1.size)
      go_wp2
      all_goals
        go_ret
        refine ⟨ret_bool ?_, hb2⟩
        rw [Bool.eq_iff_iff, HE.out]
        simp
        try omega
    · have h2' : okS b m = false := by simpa using h2
      rw [h2'] at H2
      have HE : Hid (aprS a n b m = false) := by unfold Hid aprS; rw [h2']; simp
      clear h1 h2 h2'
      go_enter Try.func16, Try.ntmps16
      go_wp2_with fail
      refine (H1.out _).mono ?_
      rintro e w1 ⟨rfl, hw1⟩
      obtain ⟨c1, c2, c3, c4, hz1⟩ := two_boxes hw1
      have hb1 := hb0.trans (hw1.mono hb0.size)
      go_wp2_with fail
      refine (H2.out _).mono ?_
      rintro e w2 ⟨rfl, hw2⟩
      have hb2 := hb1.trans (hw2.mono hb1.size)
      go_wp2
      go_ret
      exact ⟨ret_bool HE.out.symm, hb2⟩
  · have h1' : okS a n = false := by simpa using h1
    rw [h1'] at H1
    have HE : Hid (aprS a n b m = false) := by unfold Hid aprS; rw [h1']; simp
    clear h1 h1'
    go_enter Try.func16, Try.ntmps16
    go_wp2_with fail
    refine (H1.out _).mono ?_
    rintro e w1 ⟨rfl, hw1⟩
    have hb1 := hb0.trans (hw1.mono hb0.size)
    go_wp2
    go_ret
    exact ⟨ret_bool HE.out.symm, hb1⟩

/-- Whether a part fits into n bytes. -/
def fitS (n : Nat) (a m : Int) : Bool := decide (0 ≤ a) && (decide (0 ≤ m) && (decide (a ≤ n) && decide (m ≤ (n : Int) - a)))
theorem refFits_any (n : Nat) (a m : Int) (w : World) (hn : n ≤ 1000000000) : Calls Try.prog 12 #[.int .i64 n, .agg #[.int .i64 a, .int .i64 m]] w fun e w' => e = .returned (.bool (fitS n a m)) ∧ Below w.heap.size w w' := by
  go_enter Try.func12, Try.ntmps12
  go_wp2
  all_goals
    go_ret
    refine ⟨ret_bool ?_, below_made _ _⟩
    unfold fitS
    rw [Bool.eq_iff_iff]
    simp
    try omega
end Go.Proofs.Ytbjdlfeipidlbaa.Span
