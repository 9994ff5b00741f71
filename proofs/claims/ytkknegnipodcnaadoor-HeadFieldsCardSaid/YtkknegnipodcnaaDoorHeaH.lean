/- The landed head: Decode. -/
import Derived.Test.YtkknegnipodcnaaDoorHeaG
namespace Go.Proofs.YtkknegnipodcnaaDoor.Hea
open Go.RowKit Num
set_option linter.unusedVariables false

theorem decode_bad {l : List Int} (hn : l ≠ []) (h : ¬ 2 < l.getD 0 0) (hs : ¬ (l.length : Int) < szF (l.getD 0 0)) (hb : ∀ i, 0 ≤ l.getD i 0 ∧ l.getD i 0 < 256) (hr : rightF { decB l with used := l.getD 2 0 != 0 } = false ∨ 1 < l.getD 2 0) : decF l = (Blk.zero, 4) := by
  rw [decF_rest hn h hs, if_pos ?_]
  by_cases h2 : 1 < l.getD 2 0
  · exact .inl h2
  · refine .inr ?_
    rcases hr with hr | hr
    · have e : (l.getD 2 0 != 0) = (l.getD 2 0 == 1) := by
        have := hb 2
        rcases (show l.getD 2 0 = 0 ∨ l.getD 2 0 = 1 by omega) with e | e <;> rw [e] <;> rfl
      rw [e] at hr
      exact hr
    · exact absurd hr h2
theorem decode_good {l : List Int} (hn : l ≠ []) (h : ¬ 2 < l.getD 0 0) (hs : ¬ (l.length : Int) < szF (l.getD 0 0)) (hb : ∀ i, 0 ≤ l.getD i 0 ∧ l.getD i 0 < 256) (hr : rightF { decB l with used := l.getD 2 0 != 0 } = true) (h2 : ¬ 1 < l.getD 2 0) : decF l = ({ decB l with used := l.getD 2 0 != 0 }, 0) := by
  have e : (l.getD 2 0 != 0) = (l.getD 2 0 == 1) := by
    have := hb 2
    rcases (show l.getD 2 0 = 0 ∨ l.getD 2 0 = 1 by omega) with e | e <;> rw [e] <;> rfl
  rw [e] at hr ⊢
  rw [decF_rest hn h hs, if_neg]
  · rfl
  · rintro (h3 | h3)
    · exact h2 h3
    · rw [show rightF (decB l) = true from hr] at h3
      cases h3

set_option maxRecDepth 100000 in
set_option maxHeartbeats 4000000 in
theorem decode_any (v : Value) (l : List Int) (w : World) (htb : Tab w) (hr : Row .u8 w v l) (hl : l.length ≤ 1000000) :
    Calls Tryd.prog 11 #[v] w fun e w' => e = .returned (.tuple #[(decF l).1.agg, .int .i64 (decF l).2]) ∧ Below w.heap.size w w' := by
  have hby := hr.bytes
  have HRow := Lib.hid hr
  obtain ⟨ad, cap, rfl, q2, q3, q4, q5⟩ := hr
  clear q4
  by_cases hn : l = []
  · subst hn
    rw [decF_nil]
    clear q5 hby HRow htb
    go_enter Tryd.func11, Tryd.ntmps11
    go_wp2
    refine bodyPost_ret (v := .tuple #[Blk.zero.agg, .int .i64 3]) (by simp [results, Tryd.results11, go_sem, new0_cell, Blk.zero, Blk.agg]) rfl ⟨rfl, below_made _ _⟩
  · obtain ⟨b, off, rfl, hlt, hc⟩ := q5 hn
    have HC := Lib.hid hc
    have hl0 : 0 < l.length := List.length_pos_iff.2 hn
    have hl1 : ((l.length : Int) == 0) = false := by rw [beq_eq_false_iff_ne]; omega
    have hli : ¬ l.length = 0 := by omega
    have e0 := ((below_made w (.cells (cellsA Blk.zero) 26)).cell (p := ⟨b, off, none⟩) hlt).trans (hc 0 hl0)
    have b0 := hby 0
    obtain ⟨t, ht⟩ : ∃ t, t = l.getD 0 0 := ⟨_, rfl⟩
    rw [← ht] at e0 b0
    unfold cellsA Blk.zero at e0
    have HTag := Lib.hid (fun W => isTag_any t W)
    by_cases h2 : 2 < t
    · rw [decF_big hn (by rw [← ht]; exact h2)]
      rw [show decide (0 ≤ t ∧ t ≤ 2) = false by rw [decide_eq_false_iff_not]; omega] at HTag
      clear ht hc hn hby q5 HRow htb
      go_enter Tryd.func11, Tryd.ntmps11
      go_wp2_with fail
      refine (HTag.out _).mono ?_
      rintro e w1 ⟨rfl, rfl⟩
      go_wp2
      refine bodyPost_ret (v := .tuple #[Blk.zero.agg, .int .i64 4]) (by simp [results, Tryd.results11, go_sem, new0_cell, Blk.zero, Blk.agg]) rfl ⟨rfl, below_made _ _⟩
    · have h2' : ¬ 2 < l.getD 0 0 := by rw [← ht]; exact h2
      rw [show decide (0 ≤ t ∧ t ≤ 2) = true by rw [decide_eq_true_iff]; omega] at HTag
      have HSz := Lib.hid (fun W => size_any t W)
      obtain ⟨z, hz⟩ : ∃ z, z = szF t := ⟨_, rfl⟩
      rw [← hz] at HSz
      by_cases hs : (l.length : Int) < z
      · rw [decF_short hn h2' (by rw [← ht, ← hz]; exact hs)]
        clear ht hc hn hby q5 HRow hz h2' htb
        go_enter Tryd.func11, Tryd.ntmps11
        go_wp2_with fail
        refine (HTag.out _).mono ?_
        rintro e w1 ⟨rfl, rfl⟩
        go_wp2_with fail
        refine (HSz.out _).mono ?_
        rintro e w1 ⟨rfl, rfl⟩
        go_wp2
        refine bodyPost_ret (v := .tuple #[Blk.zero.agg, .int .i64 3]) (by simp [results, Tryd.results11, go_sem, new0_cell, Blk.zero, Blk.agg]) rfl ⟨rfl, below_made _ _⟩
      · have hs2 : szF t ≤ (l.length : Int) := by omega
        have hs3 : ¬ (l.length : Int) < szF (l.getD 0 0) := by rw [← ht]; omega
        have ht3 : 0 ≤ t ∧ t ≤ 2 := by omega
        obtain ⟨p1, p2, p3⟩ := par_is hby ht ht3 hs2
        have hbad := decode_bad hn h2' hs3 hby
        have hgood := decode_good hn h2' hs3 hby
        have hoky := decB_ok hby
        have HP := Lib.hid (fun W (hb : Below w.heap.size w W) => parse_any (.slice (some ⟨b, off, none⟩) l.length cap) l t W (htb.keep hb) (HRow.out.mono hb (Nat.le_refl _)) p2)
        have HRd := Lib.hid (fun W (hb : Below w.heap.size w W) => read_int (.slice (some ⟨b, off, none⟩) l.length cap) l t 2 W (htb.keep hb) (HRow.out.mono hb (Nat.le_refl _)) p2.b2)
        have b2 := hby 2
        rw [p1] at HP
        rw [p3] at HRd
        obtain ⟨B, hB⟩ : ∃ B : Blk, B = { decB l with used := l.getD 2 0 != 0 } := ⟨_, rfl⟩
        rw [← hB] at HP hbad hgood
        have HRi := Lib.hid (fun W => right_any B W)
        obtain ⟨y, hy⟩ : ∃ y, y = l.getD 2 0 := ⟨_, rfl⟩
        rw [← hy] at HRd hbad hgood b2
        obtain ⟨D, hD⟩ : ∃ D, D = decF l := ⟨_, rfl⟩
        rw [← hD] at hbad hgood ⊢
        generalize rightF B = R at HRi hbad hgood
        have HBad := Lib.hid hbad
        have HGood := Lib.hid hgood
        have hblk := heap_alloc_new w (.cells (cellsA Blk.zero) 26)
        have hbl0 := below_made w (.cells (cellsA Blk.zero) 26)
        have hz0 : w.heap.size < (w.alloc (.cells (cellsA Blk.zero) 26)).heap.size := by simp
        obtain ⟨BB, hBB⟩ : ∃ BB : World → Prop, BB = fun W => Below (w.alloc (.cells (cellsA Blk.zero) 26)).heap.size (w.alloc (.cells (cellsA Blk.zero) 26)) W := ⟨_, rfl⟩
        have HX : Hid (BB (w.alloc (.cells (cellsA Blk.zero) 26))) := by unfold Hid; rw [hBB]; exact Below.refl _ _
        have HBB : Hid (∀ W V, BB W → Below W.heap.size W V → BB V) := fun W V h hb => by rw [hBB] at h ⊢; exact h.trans (hb.mono h.size)
        have HKeep : Hid (∀ W, BB W → W.heap[w.heap.size]? = some (.cells (cellsA Blk.zero) 26 (0, 0)) ∧ Below w.heap.size w W) := fun W hb => by rw [hBB] at hb; exact ⟨(hb.block _ hz0).trans hblk, hbl0.trans (hb.mono hbl0.size)⟩
        unfold cellsA Blk.zero at HX
        unfold Blk.agg at HP HRi
        obtain ⟨B0, B1, B2, B3, B4, B5, B6, B7, B8, B9, B10, B11⟩ := B
        simp only [] at HP HRi
        clear ht hc hn hby q5 HRow hz h2' htb hs2 hs3 p1 p2 p3 hbad hgood hoky hB hy hD hblk hbl0 hz0 hBB ht3
        have HBx : Hid (∀ (W V : World), (∃ X : World, X = W.alloc (.cells #[.int .i64 B0, .int .i64 B1, .bool B2, .int .i64 B3, .int .u32 B4, .int .u32 B5, .int .u32 B6, .int .u32 B7, .int .u64 B8, .int .u16 B9, .int .i64 B10, .int .u32 B11] 26) ∧ Below X.heap.size X V) → V.cell? ⟨W.heap.size, 0, none⟩ = some (.int .i64 B0) ∧ V.cell? ⟨W.heap.size, 1, none⟩ = some (.int .i64 B1) ∧ V.cell? ⟨W.heap.size, 2, none⟩ = some (.bool B2) ∧ V.cell? ⟨W.heap.size, 3, none⟩ = some (.int .i64 B3) ∧ V.cell? ⟨W.heap.size, 4, none⟩ = some (.int .u32 B4) ∧ V.cell? ⟨W.heap.size, 5, none⟩ = some (.int .u32 B5) ∧ V.cell? ⟨W.heap.size, 6, none⟩ = some (.int .u32 B6) ∧ V.cell? ⟨W.heap.size, 7, none⟩ = some (.int .u32 B7) ∧ V.cell? ⟨W.heap.size, 8, none⟩ = some (.int .u64 B8) ∧ V.cell? ⟨W.heap.size, 9, none⟩ = some (.int .u16 B9) ∧ V.cell? ⟨W.heap.size, 10, none⟩ = some (.int .i64 B10) ∧ V.cell? ⟨W.heap.size, 11, none⟩ = some (.int .u32 B11)) := by
          rintro W V ⟨X, rfl, hb⟩
          exact cells_of (b := ⟨B0, B1, B2, B3, B4, B5, B6, B7, B8, B9, B10, B11⟩) ((hb.block _ (by simp)).trans (heap_alloc_new W _))
        cases R
        · rw [HBad.out (.inl rfl)]
          clear HBad HGood HRd
          go_enter Tryd.func11, Tryd.ntmps11
          go_wp2_with fail
          refine (HTag.out _).mono ?_
          rintro e w1 ⟨rfl, rfl⟩
          go_wp2_with fail
          refine (HSz.out _).mono ?_
          rintro e w1 ⟨rfl, rfl⟩
          go_wp2_with fail
          refine (HP.out _ (HKeep.out _ HX.out).2).mono ?_
          rintro e w1 ⟨rfl, hb1⟩
          have HV1 := Lib.hid (HBB.out _ _ HX.out hb1)
          have hb2 := below_made w1 (.cells #[.int .i64 B0, .int .i64 B1, .bool B2, .int .i64 B3, .int .u32 B4, .int .u32 B5, .int .u32 B6, .int .u32 B7, .int .u64 B8, .int .u16 B9, .int .i64 B10, .int .u32 B11] 26)
          have HV2 := Lib.hid (HBB.out _ _ HV1.out hb2)
          obtain ⟨c0, c1, c2, c3, c4, c5, c6, c7, c8, c9, c10, c11⟩ := HBx.out w1 _ ⟨_, rfl, Below.refl _ _⟩
          clear hb1 hb2
          go_wp2_with fail
          refine (HRi.out _).mono ?_
          rintro e w3 ⟨rfl, hb3⟩
          have HV3 := Lib.hid (HBB.out _ _ HV2.out hb3)
          clear hb3 c0 c1 c2 c3 c4 c5 c6 c7 c8 c9 c10 c11
          obtain ⟨hk1, hk2⟩ := HKeep.out w3 HV3.out
          obtain ⟨c0, c1, c2, c3, c4, c5, c6, c7, c8, c9, c10, c11⟩ := cells_of hk1
          have f := free_of hk1
          have f0 := f 0
          have f1 := f 1
          have f2 := f 2
          have f3 := f 3
          have f4 := f 4
          have f5 := f 5
          have f6 := f 6
          have f7 := f 7
          have f8 := f 8
          have f9 := f 9
          have f10 := f 10
          have f11 := f 11
          have HQ := Lib.hid (cells_of (s12_block hk1 Blk.zero))
          have HBz := Lib.hid (s12_below hk2 (Nat.le_refl _) Blk.zero)
          clear hk1 hk2 f
          go_wp2
          show bodyPost _ _ _ _ _ (S12 w3 w.heap.size Blk.zero)
          generalize S12 w3 w.heap.size Blk.zero = W at HQ HBz ⊢
          obtain ⟨q0, q1, q2, q3, q4, q5, q6, q7, q8, q9, q10, q11⟩ := HQ.out
          refine bodyPost_ret (v := .tuple #[Blk.zero.agg, .int .i64 4]) (by simp [results, Tryd.results11, go_sem, q0, q1, q2, q3, q4, q5, q6, q7, q8, q9, q10, q11, Blk.zero, Blk.agg]) rfl ⟨rfl, HBz.out⟩
        by_cases hy1 : 1 < y
        · rw [HBad.out (.inr hy1)]
          clear HBad HGood
          go_enter Tryd.func11, Tryd.ntmps11
          go_wp2_with fail
          refine (HTag.out _).mono ?_
          rintro e w1 ⟨rfl, rfl⟩
          go_wp2_with fail
          refine (HSz.out _).mono ?_
          rintro e w1 ⟨rfl, rfl⟩
          go_wp2_with fail
          refine (HP.out _ (HKeep.out _ HX.out).2).mono ?_
          rintro e w1 ⟨rfl, hb1⟩
          have HV1 := Lib.hid (HBB.out _ _ HX.out hb1)
          have hb2 := below_made w1 (.cells #[.int .i64 B0, .int .i64 B1, .bool B2, .int .i64 B3, .int .u32 B4, .int .u32 B5, .int .u32 B6, .int .u32 B7, .int .u64 B8, .int .u16 B9, .int .i64 B10, .int .u32 B11] 26)
          have HV2 := Lib.hid (HBB.out _ _ HV1.out hb2)
          obtain ⟨c0, c1, c2, c3, c4, c5, c6, c7, c8, c9, c10, c11⟩ := HBx.out w1 _ ⟨_, rfl, Below.refl _ _⟩
          clear hb1 hb2
          go_wp2_with fail
          refine (HRi.out _).mono ?_
          rintro e w3 ⟨rfl, hb3⟩
          have HV3 := Lib.hid (HBB.out _ _ HV2.out hb3)
          clear hb3 c0 c1 c2 c3 c4 c5 c6 c7 c8 c9 c10 c11
          go_wp2_with fail
          refine (HRd.out _ (HKeep.out _ HV3.out).2).mono ?_
          rintro e w4 ⟨rfl, hb4⟩
          have HV4 := Lib.hid (HBB.out _ _ HV3.out hb4)
          clear hb4
          obtain ⟨hk1, hk2⟩ := HKeep.out w4 HV4.out
          obtain ⟨c0, c1, c2, c3, c4, c5, c6, c7, c8, c9, c10, c11⟩ := cells_of hk1
          have f := free_of hk1
          have f0 := f 0
          have f1 := f 1
          have f2 := f 2
          have f3 := f 3
          have f4 := f 4
          have f5 := f 5
          have f6 := f 6
          have f7 := f 7
          have f8 := f 8
          have f9 := f 9
          have f10 := f 10
          have f11 := f 11
          have HQ := Lib.hid (cells_of (s12_block hk1 Blk.zero))
          have HBz := Lib.hid (s12_below hk2 (Nat.le_refl _) Blk.zero)
          clear hk1 hk2 f
          go_wp2
          show bodyPost _ _ _ _ _ (S12 w4 w.heap.size Blk.zero)
          generalize S12 w4 w.heap.size Blk.zero = W at HQ HBz ⊢
          obtain ⟨q0, q1, q2, q3, q4, q5, q6, q7, q8, q9, q10, q11⟩ := HQ.out
          refine bodyPost_ret (v := .tuple #[Blk.zero.agg, .int .i64 4]) (by simp [results, Tryd.results11, go_sem, q0, q1, q2, q3, q4, q5, q6, q7, q8, q9, q10, q11, Blk.zero, Blk.agg]) rfl ⟨rfl, HBz.out⟩
        · rw [HGood.out rfl hy1]
          have hy1' : decide (1 < y) = false := by rw [decide_eq_false_iff_not]; exact hy1
          clear HBad HGood
          go_enter Tryd.func11, Tryd.ntmps11
          go_wp2_with fail
          refine (HTag.out _).mono ?_
          rintro e w1 ⟨rfl, rfl⟩
          go_wp2_with fail
          refine (HSz.out _).mono ?_
          rintro e w1 ⟨rfl, rfl⟩
          go_wp2_with fail
          refine (HP.out _ (HKeep.out _ HX.out).2).mono ?_
          rintro e w1 ⟨rfl, hb1⟩
          have HV1 := Lib.hid (HBB.out _ _ HX.out hb1)
          have hb2 := below_made w1 (.cells #[.int .i64 B0, .int .i64 B1, .bool B2, .int .i64 B3, .int .u32 B4, .int .u32 B5, .int .u32 B6, .int .u32 B7, .int .u64 B8, .int .u16 B9, .int .i64 B10, .int .u32 B11] 26)
          have HV2 := Lib.hid (HBB.out _ _ HV1.out hb2)
          obtain ⟨c0, c1, c2, c3, c4, c5, c6, c7, c8, c9, c10, c11⟩ := HBx.out w1 _ ⟨_, rfl, Below.refl _ _⟩
          clear hb1 hb2
          go_wp2_with fail
          refine (HRi.out _).mono ?_
          rintro e w3 ⟨rfl, hb3⟩
          have HV3 := Lib.hid (HBB.out _ _ HV2.out hb3)
          clear c0 c1 c2 c3 c4 c5 c6 c7 c8 c9 c10 c11
          have HB3 := Lib.hid hb3
          clear hb3
          go_wp2_with fail
          refine (HRd.out _ (HKeep.out _ HV3.out).2).mono ?_
          rintro e w4 ⟨rfl, hb4⟩
          have HV4 := Lib.hid (HBB.out _ _ HV3.out hb4)
          obtain ⟨d0, d1, d2, d3, d4, d5, d6, d7, d8, d9, d10, d11⟩ := HBx.out w1 w4 ⟨_, rfl, HB3.out.trans (hb4.mono HB3.out.size)⟩
          clear hb4
          obtain ⟨hk1, hk2⟩ := HKeep.out w4 HV4.out
          obtain ⟨c0, c1, c2, c3, c4, c5, c6, c7, c8, c9, c10, c11⟩ := cells_of hk1
          have f := free_of hk1
          have f0 := f 0
          have f1 := f 1
          have f2 := f 2
          have f3 := f 3
          have f4 := f 4
          have f5 := f 5
          have f6 := f 6
          have f7 := f 7
          have f8 := f 8
          have f9 := f 9
          have f10 := f 10
          have f11 := f 11
          have HQ := Lib.hid (cells_of (s12_block hk1 ⟨B0, B1, B2, B3, B4, B5, B6, B7, B8, B9, B10, B11⟩))
          have HBz := Lib.hid (s12_below hk2 (Nat.le_refl _) ⟨B0, B1, B2, B3, B4, B5, B6, B7, B8, B9, B10, B11⟩)
          simp only [] at HQ
          clear hk1 hk2 f
          go_wp2
          show bodyPost _ _ _ _ _ (S12 w4 w.heap.size ⟨B0, B1, B2, B3, B4, B5, B6, B7, B8, B9, B10, B11⟩)
          generalize S12 w4 w.heap.size ⟨B0, B1, B2, B3, B4, B5, B6, B7, B8, B9, B10, B11⟩ = W at HQ HBz ⊢
          obtain ⟨q0, q1, q2, q3, q4, q5, q6, q7, q8, q9, q10, q11⟩ := HQ.out
          refine bodyPost_ret (v := .tuple #[Blk.agg ⟨B0, B1, B2, B3, B4, B5, B6, B7, B8, B9, B10, B11⟩, .int .i64 0]) (by simp [results, Tryd.results11, go_sem, q0, q1, q2, q3, q4, q5, q6, q7, q8, q9, q10, q11, Blk.agg]) rfl ⟨rfl, HBz.out⟩
end Go.Proofs.YtkknegnipodcnaaDoor.Hea
