/- Contracts of the document's arena: its making, what fits, what is read. -/
import Derived.Test.YtncbfagmdldclaaArnM
import Derived.Test.YtncbfagmdldclaaNumS
import Derived.Test.YtncbfagmdldclaaKit9
namespace Go.Proofs.Ytncbfagmdldclaa.Arn
open Go.RowKit Num
set_option linter.unusedVariables false

/-- The document's arena: a block with a slice of bytes, and that one's block. -/
def RefA (w : World) (v : Value) (l : List Int) (g b : Nat) : Prop :=
  ∃ off n c, v = .pointer (some ⟨g, 0, none⟩) ∧ w.heap[g]? = some (.cells #[.slice (some ⟨b, off, none⟩) n c] 37 (0, 0)) ∧ Row .u8 w (.slice (some ⟨b, off, none⟩) n c) l ∧ b < w.heap.size ∧ 16 ≤ l.length ∧ l.length ≤ 4096
theorem RefA.fr {w w' : World} {v : Value} {l : List Int} {g b N : Nat} {T : Nat → Prop} (h : RefA w v l g b) (hf : Fr N T w w') (hg : g < N ∧ ¬ T g) (hb : b < N ∧ ¬ T b) : RefA w' v l g b := by
  obtain ⟨off, n, c, h1, h2, h3, h4, h5⟩ := h
  refine ⟨off, n, c, h1, (hf.block g hg.1 hg.2).trans h2, h3.fr hf (fun _ k hk => ?_), Nat.lt_of_lt_of_le h4 hf.size, h5⟩
  simp only [Value.ownBlock, Option.some.injEq] at hk
  subst hk
  exact hb
theorem RefA.lt {w : World} {v : Value} {l : List Int} {g b : Nat} (h : RefA w v l g b) : g < w.heap.size ∧ b < w.heap.size := by
  obtain ⟨off, n, c, h1, h2, h3, h4, h5⟩ := h
  exact ⟨lt_of_block h2, h4⟩

theorem may_any (n : Int) (w : World) : Calls Try.prog 15 #[.int .i64 n] w fun e w' => e = .returned (.bool (mayN n)) ∧ w = w' := by
  by_cases h1 : 16 ≤ n
  · by_cases h2 : n ≤ 1048576
    · go_enter Try.func15, Try.ntmps15
      go_wp2
      go_ret
      exact ⟨ret_bool (by simp only [mayN, h1, h2, decide_true, Bool.true_and]; exact Bool.eq_iff_iff.2 (by simp)), rfl⟩
    · go_enter Try.func15, Try.ntmps15
      go_wp2
      go_ret
      exact ⟨ret_bool (by simp [mayN]; omega), rfl⟩
  · go_enter Try.func15, Try.ntmps15
    go_wp2
    go_ret
    exact ⟨ret_bool (by simp [mayN]; omega), rfl⟩

theorem refNew_no (n : Int) (w : World) (h : mayN n = false) : Calls Try.prog 10 #[.int .i64 n] w fun e w' => e = .returned (.pointer none) ∧ w = w' := by
  have HM := Lib.hid (may_any n w)
  rw [h] at HM
  go_enter Try.func10, Try.ntmps10
  go_wp2_with fail
  refine HM.out.mono ?_
  rintro e w' ⟨rfl, rfl⟩
  go_wp2
  go_ret
  exact ⟨rfl, rfl⟩

theorem infoB : (Try.prog.info? 5).map (fun i => (i.zero, i.size, i.bytes)) = some (some (.int .u8 0), 1, 1) := by kernel_rfl
theorem zeros_getD (n i : Nat) : (List.replicate n (0 : Int)).getD i 0 = 0 := by
  simp [List.getD, List.getElem?_replicate]
  split <;> rfl
theorem row_zeros (w : World) (n : Nat) (t : TypeId) (h : n ≤ 9223372036854775807) : Row .u8 (w.alloc (.cells (madeCells #[.int .u8 0] n) t)) (.slice (some ⟨w.heap.size, 0, none⟩) n n) (List.replicate n 0) := by
  refine ⟨_, _, by rw [List.length_replicate], by simp, h, fun i _ => by rw [zeros_getD]; rfl, fun _ => ⟨w.heap.size, 0, rfl, by have : (w.alloc (.cells (madeCells #[.int .u8 0] n) t)).heap.size = w.heap.size + 1 := Array.size_push _; omega, fun i hi => ?_⟩⟩
  rw [List.length_replicate] at hi
  rw [Nat.zero_add, cell_block (heap_alloc_new w _), madeCells_one, zeros_getD]
  simp [hi]

theorem refNew_yes (n : Nat) (w : World) (h : mayN n = true) (hn : n ≤ 4096) : Calls Try.prog 10 #[.int .i64 n] w fun e w' => ∃ v g b, e = .returned v ∧ RefA w' v (List.replicate n 0) g b ∧ w.heap.size ≤ g ∧ w.heap.size ≤ b ∧ Below w.heap.size w w' := by
  obtain ⟨i0, hi, hz0, hz1, hz2⟩ := info_parts infoB
  obtain ⟨b1, b2, -⟩ := mayN_bd h
  have HM := Lib.hid (may_any n w)
  rw [h] at HM
  have HR := Lib.hid (row_zeros w n 5 (by omega))
  clear h
  go_enter Try.func10, Try.ntmps10
  go_wp2_with fail
  refine HM.out.mono ?_
  rintro e w' ⟨rfl, rfl⟩
  go_wp2_with (refine wpList_make_row rfl (.tmp 6) (.tmp 6) 32 rfl 5 i0 (.int .u8 0) 1 Try.underlying32 hi hz0 hz1 hz2 .i64 .i64 n rfl rfl (by omega) (by omega) ?_)
  have hz : (w.alloc (.cells (madeCells #[.int .u8 0] n) 5)).heap.size = w.heap.size + 1 := Array.size_push _
  have hal := (Below.refl (w.alloc (.cells (madeCells #[.int .u8 0] n) 5)).heap.size (w.alloc (.cells (madeCells #[.int .u8 0] n) 5))).alloc (Nat.le_refl _) (.cells #[.slice (some ⟨w.heap.size, 0, none⟩) n n] 37)
  have hn1 := heap_alloc_new (w.alloc (.cells (madeCells #[.int .u8 0] n) 5)) (.cells #[.slice (some ⟨w.heap.size, 0, none⟩) n n] 37)
  rw [hz] at hn1
  go_ret
  refine ⟨_, w.heap.size + 1, w.heap.size, rfl, ⟨0, n, n, rfl, hn1, HR.out.mono hal (Nat.le_refl _), ?_, ?_, ?_⟩, by omega, Nat.le_refl _, ((Below.refl _ w).alloc (Nat.le_refl _) _).alloc (by omega) _⟩
  · have := hal.size; omega
  · rw [List.length_replicate]; omega
  · rw [List.length_replicate]; exact hn

theorem refFits_any (v : Value) (l : List Int) (g b : Nat) (a m : Int) (w : World) (hr : RefA w v l g b) :
    Calls Try.prog 41 #[v, .int .i64 a, .int .i64 m] w fun e w' => e = .returned (.bool (fitB l.length a m)) ∧ w = w' := by
  obtain ⟨off, n, c, rfl, h2, h3, h4, h5, h6⟩ := hr
  have c1 := cell_of_one h2
  obtain ⟨ad, cap, he, -, -, -, -⟩ := h3
  injection he with e1 e2 e3
  subst e1 e2 e3
  by_cases ha : 0 ≤ a
  · by_cases hm : 0 ≤ m
    · by_cases hal : a ≤ l.length
      · have hw : IntKind.i64.wrap ((l.length : Int) - a) = (l.length : Int) - a := wrap_id (by omega) (by omega)
        have HE : Hid (fitB l.length a m = decide (m ≤ (l.length : Int) - a)) := by simp [Hid, fitB, ha, hm, hal]
        obtain ⟨d, hd⟩ : ∃ d, d = (l.length : Int) - a := ⟨_, rfl⟩
        have hd' := hd.symm
        rw [← hd] at HE
        clear h2 hd
        go_enter Try.func41, Try.ntmps41
        go_wp2
        go_ret
        exact ⟨ret_bool HE.out.symm, rfl⟩
      · have HE : Hid (fitB l.length a m = false) := by simp [Hid, fitB]; omega
        clear h2
        go_enter Try.func41, Try.ntmps41
        go_wp2
        go_ret
        exact ⟨ret_bool HE.out.symm, rfl⟩
    · have HE : Hid (fitB l.length a m = false) := by simp [Hid, fitB]; omega
      clear h2
      go_enter Try.func41, Try.ntmps41
      go_wp2
      go_ret
      exact ⟨ret_bool HE.out.symm, rfl⟩
  · have HE : Hid (fitB l.length a m = false) := by simp [Hid, fitB]; omega
    clear h2
    go_enter Try.func41, Try.ntmps41
    go_wp2
    go_ret
    exact ⟨ret_bool HE.out.symm, rfl⟩

set_option maxRecDepth 100000 in
set_option maxHeartbeats 2000000 in
theorem refPut_any (v : Value) (l : List Int) (g b : Nat) (a x y : Int) (w : World) (hr : RefA w v l g b) (h0 : 0 ≤ y) (h1 : y < 18446744073709551616) (hl : l.length ≤ 2000) :
    Calls Try.prog 31 #[v, .int .i64 a, .int .i64 x, .int .u64 y] w fun e w' =>
      e = .returned (.int .i64 (putA l a x y).2) ∧ ∃ b', RefA w' v (putA l a x y).1 g b' ∧ (b' = b ∨ w.heap.size ≤ b') ∧ Fr w.heap.size (fun k => k = g) w w' := by
  have HR := Lib.hid hr
  obtain ⟨off, n, c, rfl, h2, h3, h4, h5, h6⟩ := hr
  have hlg := lt_of_block h2
  have c1 := cell_of_one h2
  have HG := Lib.hid h2
  have HS := Lib.hid (refStoreF_any _ a x y l w h3 h0 h1 hl)
  unfold StoredF at HS
  have hpl := putA_length l a x y
  obtain ⟨ad, cap, he, -, -, -, -⟩ := h3
  injection he with e1 e2 e3
  subst e1 e2 e3
  by_cases hs : ste l a x y = 0
  · have hp : putA l a x y = (stl l a.toNat x.toNat y, 0) := by rw [putA, if_pos hs]
    rw [hp] at hpl ⊢
    rw [if_pos hs, hs] at HS
    have HPL := Lib.hid hpl
    have H5 := Lib.hid h5
    clear h2 hs hp hpl h5 h6
    go_enter Try.func31, Try.ntmps31
    go_wp2_with fail
    refine HS.out.mono ?_
    rintro e w1 ⟨u, rfl, hb1, hrow, hfresh⟩
    have g1 := (hb1.block g hlg).trans HG.out
    have cg := cell_of_one g1
    have fg := free_of_one g1
    have hpos : stl l a.toNat x.toNat y ≠ [] := by intro h; have := HPL.out; rw [h] at this; have := H5.out; simp at *; omega
    have HRow := Lib.hid hrow
    obtain ⟨a2, c2, rfl, -, -, -, q5⟩ := hrow
    obtain ⟨b2, off2, rfl, hb2, -⟩ := q5 hpos
    have hfresh0 := hfresh b2 rfl
    have hfr2 := hfresh0
    rw [HPL.out] at HRow ⊢
    have HE : Hid (RefA (w1.setCell ⟨g, 0, none⟩ (.slice (some ⟨b2, off2, none⟩) l.length c2)) (.pointer (some ⟨g, 0, none⟩)) (stl l a.toNat x.toNat y) g b2 ∧ Fr w.heap.size (fun k => k = g) w (w1.setCell ⟨g, 0, none⟩ (.slice (some ⟨b2, off2, none⟩) l.length c2))) := by
      have hf0 := (Fr.refl w1.heap.size (fun k => k = g) w1).setCell (p := ⟨g, 0, none⟩) (.inr rfl) (.slice (some ⟨b2, off2, none⟩) l.length c2)
      refine ⟨⟨off2, l.length, c2, rfl, one_setCell g1, HRow.out.fr hf0 (fun _ k hk => ?_), by simpa using hb2, by rw [HPL.out]; exact H5.out, by rw [HPL.out]; omega⟩, ?_⟩
      · simp only [Value.ownBlock, Option.some.injEq] at hk
        omega
      · exact (Fr.of_below (S := fun k => k = g) hb1).setCell (p := ⟨g, 0, none⟩) (.inr rfl) _
    clear HRow hfresh hfr2
    have hfr2 := hfresh0
    go_wp2
    go_ret
    exact ⟨rfl, b2, HE.out.1, .inr hfr2, HE.out.2⟩
  · have hp : putA l a x y = (l, ste l a x y) := by rw [putA, if_neg hs]
    rw [hp]
    rw [if_neg hs] at HS
    obtain ⟨s, hs2⟩ : ∃ s, s = ste l a x y := ⟨_, rfl⟩
    rw [← hs2] at hs HS ⊢
    have hs3 : (s == 0) = false := by simpa using hs
    clear h2 hs hp hpl hs2
    go_enter Try.func31, Try.ntmps31
    go_wp2_with fail
    refine HS.out.mono ?_
    rintro e w1 ⟨u, rfl, hb1, hrow, -⟩
    have hf : Fr w.heap.size (fun k => k = g) w w1 := Fr.of_below hb1
    have hR1 := HR.out.fr (Fr.of_below (S := fun _ => False) hb1) ⟨hlg, fun h => h⟩ ⟨h4, fun h => h⟩
    go_wp2
    go_ret
    exact ⟨rfl, b, hR1, .inl rfl, hf⟩
end Go.Proofs.Ytncbfagmdldclaa.Arn
