/- The landed head: Encode. -/
import Derived.Test.YtkknegnipodcnaaDoorHeaW
import Derived.Test.YtkknegnipodcnaaDoorKit16
namespace Go.Proofs.YtkknegnipodcnaaDoor.Hea
open Go.RowKit Go.Shelf Num
set_option linter.unusedVariables false
attribute [local go_sem] Oper.semAt_some

theorem ste_len {l m : List Int} (h : l.length = m.length) (a x v : Int) : ste l a x v = ste m a x v := by unfold ste; rw [h]
/-- A field more is written. -/
theorem store_fld (b : Blk) (hb : b.Ok) (hr : RightP b) (pre : List (FT b.tag)) (f : FT b.tag) (u : Value) (w : World) (hrow : Row .u8 w u (EL b (pre.map FT.f))) :
    Calls Tryd.prog 28 #[u, .int .i64 (whF b.tag f.f).1, .int .i64 (whF b.tag f.f).2, .int .u64 (numF b f.f)] w fun e w' => ∃ a n c, e = .returned (.tuple #[.slice a n c, .int .i64 0]) ∧ Below w.heap.size w w' ∧ Row .u8 w' (.slice a n c) (EL b ((pre ++ [f]).map FT.f)) := by
  have htg := right_tag hr
  have hlen : (EL b (pre.map FT.f)).length = (szF b.tag).toNat := EL_length htg _ (by
    intro g hg
    obtain ⟨x, _, rfl⟩ := List.mem_map.1 hg
    exact x.lt)
  have hs := sz_bd htg
  have hbd := numF_bd hb f.f
  have hok : ste (EL b (pre.map FT.f)) (whF b.tag f.f).1 (whF b.tag f.f).2 (numF b f.f) = 0 := by
    rw [ste_len (m := List.replicate (szF b.tag).toNat 0) (by rw [hlen]; simp)]
    exact field_ok hb hr f.has f.lt
  refine (store_any u _ _ _ _ w hrow hbd.1 hbd.2 (by omega)).mono ?_
  rintro e w' ⟨u', rfl, h1, h2⟩
  rw [hok, if_pos rfl] at h2
  rw [List.map_append, List.map_singleton, EL_snoc, hok]
  obtain ⟨a, cap, rfl, -⟩ := id h2
  exact ⟨a, _, cap, rfl, h1, h2⟩
/-- What a round of Encode finds: the bytes so far, the head, the numbers, the tag. -/
def EncI (b : Blk) (B L V T : Nat) (pre : List (FT b.tag)) (W : World) : Prop :=
  (∃ a n c, Boxed W L 27 (.slice a n c) ∧ Row .u8 W (.slice a n c) (EL b (pre.map FT.f))) ∧
  W.heap[B]? = some (.cells (cellsA b) 26 (0, 0)) ∧ W.heap[V]? = some (.cells (numsA b) 59 (0, 0)) ∧ W.heap[T]? = some (.cells #[.int .i64 b.tag] 3 (0, 0))
theorem encI_own (b : Blk) (B L V T : Nat) : Own (EncI b B L V T) :=
  own_and (own_ex fun a => own_ex fun n => own_ex fun c => own_and (boxed_own L 27 (fun _ => .slice a n c)) (row_own .u8 (fun _ => .slice a n c) (fun pre : List (FT b.tag) => EL b (pre.map FT.f)))) (own_and (blk_own _ _ rfl) (own_and (blk_own _ _ rfl) (blk_own _ _ rfl)))
theorem zeros_getD (z i : Nat) : (List.replicate z (0 : Int)).getD i 0 = 0 := by
  rw [List.getD_eq_getElem?_getD, List.getElem?_replicate]
  split <;> rfl
set_option maxRecDepth 100000 in
set_option maxHeartbeats 4000000 in
theorem encode_yes (b : Blk) (hb : b.Ok) (hr : RightP b) (w : World) (ht : Tab w) (hRi : ∀ W, Calls Tryd.prog 13 #[b.agg] W fun e W' => e = .returned (.bool true) ∧ Below W.heap.size W W') :
    Calls Tryd.prog 9 #[b.agg] w fun e w' => ∃ u, e = .returned (.tuple #[u, .int .i64 0]) ∧ Below w.heap.size w w' ∧ Row .u8 w' u (encL b) := by
  have htg := right_tag hr
  have hsz := sz_bd htg
  have HRi := Lib.hid hRi
  have HN := Lib.hid (fun W => numbers_any b hb W)
  have HSz := Lib.hid (fun W => size_any b.tag W)
  have HFs := Lib.hid (fun W => fields_any b.tag W)
  have HSt := Lib.hid (store_fld b hb hr)
  have HWh := Lib.hid (fun f W hT => where_any b.tag f W hT)
  have HEnd := Lib.hid (EL_end hb hr)
  obtain ⟨BB, hBB⟩ : ∃ BB : World → Prop, BB = fun W => W.heap[w.heap.size]? = some (.cells (cellsA b) 26 (0, 0)) ∧ Below w.heap.size w W := ⟨_, rfl⟩
  have HBB : Hid (∀ W V, BB W → Below W.heap.size W V → BB V) := fun W V h hb => by rw [hBB] at h ⊢; exact ⟨(hb.block _ (Array.getElem?_eq_some_iff.1 h.1).1).trans h.1, h.2.trans (hb.mono h.2.size)⟩
  have HBel : Hid (∀ W, BB W → Below w.heap.size w W ∧ w.heap.size < W.heap.size) := fun W h => by rw [hBB] at h; exact ⟨h.2, (Array.getElem?_eq_some_iff.1 h.1).1⟩
  have HBlk : Hid (∀ W, BB W → W.heap[w.heap.size]? = some (.cells (cellsA b) 26 (0, 0))) := fun W h => by rw [hBB] at h; exact h.1
  have HCell : Hid (∀ W, BB W → W.cell? ⟨w.heap.size, 0, none⟩ = some (.int .i64 b.tag) ∧ W.cell? ⟨w.heap.size, 1, none⟩ = some (.int .i64 b.cls) ∧ W.cell? ⟨w.heap.size, 2, none⟩ = some (.bool b.used) ∧ W.cell? ⟨w.heap.size, 3, none⟩ = some (.int .i64 b.lab) ∧ W.cell? ⟨w.heap.size, 4, none⟩ = some (.int .u32 b.name) ∧ W.cell? ⟨w.heap.size, 5, none⟩ = some (.int .u32 b.next) ∧ W.cell? ⟨w.heap.size, 6, none⟩ = some (.int .u32 b.prev) ∧ W.cell? ⟨w.heap.size, 7, none⟩ = some (.int .u32 b.refs) ∧ W.cell? ⟨w.heap.size, 8, none⟩ = some (.int .u64 b.exp) ∧ W.cell? ⟨w.heap.size, 9, none⟩ = some (.int .u16 b.typ) ∧ W.cell? ⟨w.heap.size, 10, none⟩ = some (.int .i64 b.size) ∧ W.cell? ⟨w.heap.size, 11, none⟩ = some (.int .u32 b.hash)) := fun W h => by
    rw [hBB] at h
    exact cells_of h.1
  have HX : Hid (BB (BW w b)) := by unfold Hid; rw [hBB]; exact ⟨heap_alloc_new w _, below_made _ _⟩
  unfold BW at HX
  unfold numsA at HN
  obtain ⟨nf, hnf⟩ : ∃ nf, nf = numF b := ⟨_, rfl⟩
  rw [← hnf] at HN
  have HNF := Lib.hid hnf
  have HT := Lib.hid ht
  obtain ⟨z, hz⟩ : ∃ z : Nat, szF b.tag = z := ⟨(szF b.tag).toNat, by omega⟩
  have HE0 : Hid (EL b [] = List.replicate z 0) := by unfold Hid EL; rw [hz]; rfl
  rw [hz] at HSz hsz
  unfold Blk.agg at HN HRi ⊢
  have HZ := Lib.hid hz
  clear hBB hz hb hr hRi ht htg hnf
  obtain ⟨i0, hi, hz0, hz1, hz2⟩ := info_parts infoU8
  obtain ⟨c0, c1, c2, c3, c4, c5, c6, c7, c8, c9, c10, c11⟩ := HCell.out _ HX.out
  refine (callsIn_wide (n := 6)).1 ?_
  refine callsIn_of_wp_marks Tryd.func9 rfl trivial ?_ rfl
  simp only [Tryd.ntmps9, List.size_toArray, List.length_cons, List.length_nil, Nat.reduceAdd, Nat.reduceSub, Array.replicate_succ, Array.replicate_zero, List.push_toArray, List.append_toArray, List.nil_append, List.cons_append]
  refine wpIn_wide.2 ?_
  go_wp2_with fail
  refine (HRi.out _).mono ?_
  rintro e w1 ⟨rfl, hb1⟩
  have HV1 := Lib.hid (HBB.out _ _ HX.out hb1)
  clear hb1 c0 c1 c2 c3 c4 c5 c6 c7 c8 c9 c10 c11
  obtain ⟨c0, c1, c2, c3, c4, c5, c6, c7, c8, c9, c10, c11⟩ := HCell.out _ HV1.out
  go_wp2_with fail
  refine (HSz.out _).mono ?_
  rintro e w2 ⟨rfl, rfl⟩
  have hm0 := below_made w1 (.cells (madeCells #[.int .u8 0] z) 5)
  have hm1 := hm0.trans ((below_made (w1.alloc (.cells (madeCells #[.int .u8 0] z) 5)) (.cells #[.slice (some ⟨w1.heap.size, 0, none⟩) z z] 27)).mono (by simp))
  have HV2 := Lib.hid (HBB.out _ _ HV1.out hm1)
  have HL2 : Hid (((w1.alloc (.cells (madeCells #[.int .u8 0] z) 5)).alloc (.cells #[.slice (some ⟨w1.heap.size, 0, none⟩) z z] 27)).heap[w1.heap.size + 1]? = some (.cells #[.slice (some ⟨w1.heap.size, 0, none⟩) z z] 27 (0, 0))) := by
    have := heap_alloc_new (w1.alloc (.cells (madeCells #[.int .u8 0] z) 5)) (.cells #[.slice (some ⟨w1.heap.size, 0, none⟩) z z] 27)
    rw [World.size_alloc] at this
    exact this
  have HR2 : Hid (Row .u8 ((w1.alloc (.cells (madeCells #[.int .u8 0] z) 5)).alloc (.cells #[.slice (some ⟨w1.heap.size, 0, none⟩) z z] 27)) (.slice (some ⟨w1.heap.size, 0, none⟩) z z) (List.replicate z 0)) := by
    have := (Row.made (k := .u8) w1 (List.replicate z 0) 5 _ (zeros_cells z) (fun i hi => by rw [zeros_getD]; decide) (by simp; omega))
    rw [List.length_replicate] at this
    exact this.mono (below_made _ _) (Nat.le_refl _)
  have HZ2 : Hid (((w1.alloc (.cells (madeCells #[.int .u8 0] z) 5)).alloc (.cells #[.slice (some ⟨w1.heap.size, 0, none⟩) z z] 27)).heap.size = w1.heap.size + 2) := by unfold Hid; simp
  clear hm0 hm1 c1 c2 c3 c4 c5 c6 c7 c8 c9 c10 c11
  obtain ⟨d0, d1, d2, d3, d4, d5, d6, d7, d8, d9, d10, d11⟩ := HCell.out _ HV2.out
  go_wp2_with (refine wpList_make_row rfl (.tmp 14) (.tmp 14) 27 rfl 5 i0 (.int .u8 0) 1 Tryd.underlying27 hi hz0 hz1 hz2 .i64 .i64 z rfl rfl (by omega) (by omega) ?_)
  refine (HN.out _).mono ?_
  rintro e w3 ⟨rfl, hb3⟩
  clear c0 d0 d1 d2 d3 d4 d5 d6 d7 d8 d9 d10 d11
  have HV3 := Lib.hid (HBB.out _ _ HV2.out hb3)
  have hVa := heap_alloc_new w3 (.cells #[.int .u64 (nf 0), .int .u64 (nf 1), .int .u64 (nf 2), .int .u64 (nf 3), .int .u64 (nf 4), .int .u64 (nf 5), .int .u64 (nf 6), .int .u64 (nf 7), .int .u64 (nf 8), .int .u64 (nf 9), .int .u64 (nf 10), .int .u64 (nf 11)] 59)
  have hb4 := hb3.trans ((below_made w3 (.cells #[.int .u64 (nf 0), .int .u64 (nf 1), .int .u64 (nf 2), .int .u64 (nf 3), .int .u64 (nf 4), .int .u64 (nf 5), .int .u64 (nf 6), .int .u64 (nf 7), .int .u64 (nf 8), .int .u64 (nf 9), .int .u64 (nf 10), .int .u64 (nf 11)] 59)).mono hb3.size)
  have HV4 := Lib.hid (HBB.out _ _ HV2.out hb4)
  have hzz := HZ2.out
  have HL4 := Lib.hid (((hb4.block (w1.heap.size + 1) (by omega))).trans HL2.out)
  have HR4 := Lib.hid (HR2.out.mono hb4 (Nat.le_refl _))
  have hz3 := hb3.size
  rw [hzz] at hz3
  obtain ⟨W4, hW4⟩ : ∃ W4, W4 = w3.alloc (.cells #[.int .u64 (nf 0), .int .u64 (nf 1), .int .u64 (nf 2), .int .u64 (nf 3), .int .u64 (nf 4), .int .u64 (nf 5), .int .u64 (nf 6), .int .u64 (nf 7), .int .u64 (nf 8), .int .u64 (nf 9), .int .u64 (nf 10), .int .u64 (nf 11)] 59) := ⟨_, rfl⟩
  have hz4 : W4.heap.size = w3.heap.size + 1 := by rw [hW4]; simp
  rw [← hW4] at hVa HV4 HL4 HR4
  have HW4 := Lib.hid hW4
  clear hb3 hb4 hzz HV2 HV3 HL2 HR2 HX hW4
  obtain ⟨c0, -⟩ := HCell.out _ HV4.out
  rw [HW4.out] at c0
  go_wp2_with fail
  rw [← HW4.out] at c0 ⊢
  refine (HFs.out _).mono ?_
  rintro e w5 ⟨rfl, rfl⟩
  have hb5 := below_made W4 (.cells #[.int .i64 b.tag] 3)
  have HV5 := Lib.hid (HBB.out _ _ HV4.out hb5)
  have hTb := heap_alloc_new W4 (.cells #[.int .i64 b.tag] 3)
  have h1 := (HBel.out _ HV1.out).2
  have hI0 : EncI b w.heap.size (w1.heap.size + 1) w3.heap.size (w3.heap.size + 1) [] (W4.alloc (.cells #[.int .i64 b.tag] 3)) := by
    refine ⟨⟨_, _, _, (hb5.block _ (by omega)).trans HL4.out, ?_⟩, HBlk.out _ HV5.out, (hb5.block _ (by omega)).trans ?_, by rw [← hz4]; exact hTb⟩
    · rw [List.map_nil, HE0.out]
      exact HR4.out.mono hb5 (Nat.le_refl _)
    · rw [hVa, HNF.out]
      rfl
  have HBe := Lib.hid (HBel.out _ HV5.out).1
  have hz5 : (W4.alloc (.cells #[.int .i64 b.tag] 3)).heap.size = w3.heap.size + 2 := by simp [hz4]
  clear hb5 hTb hVa c0
  go_wp2_with fail
  rw [hz4] at *
  obtain ⟨W0, hW0⟩ : ∃ W0, W0 = W4.alloc (.cells #[.int .i64 b.tag] 3) := ⟨_, rfl⟩
  rw [← hW0] at hI0 HBe hz5 HV5 ⊢
  have HT0 := Lib.hid (HT.out.keep HBe.out)
  clear hW0 HV4 HL4 HR4 HV1 HV5
  have hTl := HT.out.lt
  refine wpIn_wide (n := 6) |>.1 ?_
  unfold cellsA at *
  refine wpIn_rangeFunc_ownH rfl (by omega) (gf := 52) (lb := #[.pointer (some ⟨w3.heap.size + 1, 0, none⟩)]) rfl trivial (enters_of Tryd.func52 (by kernel_rfl) rfl)
    (fields_stops 5 (by omega) (w3.heap.size + 1) b.tag W0 (by omega) ((cell_block hI0.2.2.2 0).trans rfl) HT0.out) (fun h k => h.trans k) (KpS.put (SF.lt HT0.out (by omega))) (Below.refl _ _) (fun _ => rfl)
    (fun pre W => EncI b w.heap.size (w1.heap.size + 1) w3.heap.size (w3.heap.size + 1) pre W ∧ Below w.heap.size w W)
    (fun _ _ _ => False)
    (OwnFrom.and (Own.from (encI_own b _ _ _ _) _) (ownFrom_below (Nat.le_refl _) (by omega)))
    (fun _ _ _ _ _ hs _ _ => hs)
    ⟨hI0, HBe.out⟩
    (fun f a' W => a' = { tmps := #[.agg #[.int .i64 b.tag, .int .i64 b.cls, .bool b.used, .int .i64 b.lab, .int .u32 b.name, .int .u32 b.next, .int .u32 b.prev, .int .u32 b.refs, .int .u64 b.exp, .int .u16 b.typ, .int .i64 b.size, .int .u32 b.hash],
      .pointer (some ⟨w.heap.size, 0, none⟩), .slice none 0 0, .int .i64 0, .pointer (some ⟨w1.heap.size + 1, 0, none⟩), .pointer (some ⟨w3.heap.size, 0, none⟩), .int .i64 (f.f : Int), undef, undef,
      .agg #[.int .i64 b.tag, .int .i64 b.cls, .bool b.used, .int .i64 b.lab, .int .u32 b.name, .int .u32 b.next, .int .u32 b.prev, .int .u32 b.refs, .int .u64 b.exp, .int .u16 b.typ, .int .i64 b.size, .int .u32 b.hash],
      .bool true, .bool false, .pointer (some ⟨w.heap.size, 0, none⟩), .int .i64 b.tag, .int .i64 (z : Int), .slice (some ⟨w1.heap.size, 0, none⟩) z z,
      .agg #[.int .i64 b.tag, .int .i64 b.cls, .bool b.used, .int .i64 b.lab, .int .u32 b.name, .int .u32 b.next, .int .u32 b.prev, .int .u32 b.refs, .int .u64 b.exp, .int .u16 b.typ, .int .i64 b.size, .int .u32 b.hash],
      .agg #[.int .u64 (nf 0), .int .u64 (nf 1), .int .u64 (nf 2), .int .u64 (nf 3), .int .u64 (nf 4), .int .u64 (nf 5), .int .u64 (nf 6), .int .u64 (nf 7), .int .u64 (nf 8), .int .u64 (nf 9), .int .u64 (nf 10), .int .u64 (nf 11)],
      .pointer (some ⟨w.heap.size, 0, none⟩), .int .i64 b.tag, .func (.func 52) #[] #[.pointer (some ⟨w3.heap.size + 1, 0, none⟩)], .int .i64 (f.f : Int), undef, undef, undef, undef, undef, undef, undef, undef, undef, undef, undef, undef, undef, undef, undef, undef, undef, undef], defers := [] })
    (fun f a' _ X Y row hs hg hr => hs)
    ?assign ?body ?done ?stop
  case assign =>
    rintro l pre f W K hi hK
    gi_wp2
    exact hK _ _ (KeepsFrom.refl _ _) (KpS.refl _ _) hi rfl
  case body =>
    rintro l pre f a' W hl ⟨rr, hr⟩ ⟨⟨⟨a, n, c, bL, row⟩, bB, bV, bT⟩, hB1⟩ rfl hlt
    have HTW := Lib.hid (HT.out.keep hB1)
    have HSl := Lib.hid (SF.lt HTW.out (Array.getElem?_eq_some_iff.1 bT).1)
    have t0 : W.cell? ⟨w.heap.size, 0, none⟩ = some (.int .i64 b.tag) := (cell_block bB 0).trans rfl
    have HW1 := Lib.hid (HWh.out (f.f : Int) W HTW.out)
    have HS1 := Lib.hid (fun V (hb : Below W.heap.size W V) => HSt.out pre f (.slice a n c) V (row.mono hb (Nat.le_refl _)))
    have HV1 : Hid (∀ V, Below W.heap.size W V → V.cell? ⟨w3.heap.size, f.f, none⟩ = some (.int .u64 (nf f.f))) := fun V hb => by
      rw [HNF.out]
      exact (hb.cell (p := ⟨w3.heap.size, f.f, none⟩) (Array.getElem?_eq_some_iff.1 bV).1).trans ((cell_block bV f.f).trans (numsA_at b f.lt))
    have HL1 : Hid (∀ V, Below W.heap.size W V → Boxed V (w1.heap.size + 1) 27 (.slice a n c)) := fun V hb => (hb.block _ bL.lt).trans bL
    rw [← HNF.out] at HS1
    have hf12 := f.lt
    obtain ⟨F, hF⟩ : ∃ F, F = f.f := ⟨_, rfl⟩
    obtain ⟨x, y, hxy⟩ : ∃ x y, whF b.tag (f.f : Int) = (x, y) := ⟨_, _, rfl⟩
    rw [hxy] at HW1 HS1
    rw [← hF] at HW1 HS1 HV1 hf12 ⊢
    have hfi : (F : Int) < 12 := by omega
    clear hF hxy
    gi_wp2_with (refine ⟨trivial, ?_⟩; gi_at_call 15; refine (CallsIn.inRound l (callsIn_wide.2 HW1.out)).mono ?_; rintro e w2 ⟨rfl, hb1⟩; have v1 := HV1.out _ hb1; have b1 := (HL1.out _ hb1).cell; have v2 := HV1.out _ hb1.drew; have b2 := (HL1.out _ hb1.drew).cell)
    refine wpIn_round_held (S := fun w' => w'.cell? ⟨w3.heap.size, F, none⟩ = some (.int .u64 (nf F))) (by kernel_rfl) (noDefer_ok (by kernel_rfl)) (by rintro ⟨a, w, h⟩; exact h) v2 (fun hHeld => ?_)
    refine wpAnyH_take (i := 1) (v := ?v1) rfl (by kernel_rfl) (by kernel_rfl) (by kernel_rfl) (fun _ _ _ h => h) (Or.inl ⟨by rfl, ?y1⟩) (by assumption) ?r1
    case y1 => (intro w hSw; (try dsimp only at hSw); obtain s1 := hSw; go_simp; all_goals (with_reducible rfl))
    try simp only [Act.put, List.getElem_toArray, List.getElem_cons_zero, List.getElem_cons_succ, List.setIfInBounds_toArray, List.set_cons_zero, List.set_cons_succ]
    refine wpAnyH_take (i := 2) (v := ?v2) rfl (by kernel_rfl) (by kernel_rfl) (by kernel_rfl) (fun _ _ _ h => h) (Or.inl ⟨by rfl, ?y2⟩) (by assumption) ?r2
    case y2 => (intro w hSw; (try dsimp only at hSw); obtain s1 := hSw; go_simp; all_goals (with_reducible rfl))
    try simp only [Act.put, List.getElem_toArray, List.getElem_cons_zero, List.getElem_cons_succ, List.setIfInBounds_toArray, List.set_cons_zero, List.set_cons_succ]
    refine wpAnyH_take (i := 3) (v := ?v3) rfl (by kernel_rfl) (by kernel_rfl) (by kernel_rfl) (fun _ _ _ h => h) (Or.inl ⟨by rfl, ?y3⟩) (by assumption) ?r3
    case y3 => (intro w hSw; (try dsimp only at hSw); obtain s1 := hSw; go_simp; all_goals (with_reducible rfl))
    try simp only [Act.put, List.getElem_toArray, List.getElem_cons_zero, List.getElem_cons_succ, List.setIfInBounds_toArray, List.set_cons_zero, List.set_cons_succ]
    refine wpAnyH_take (i := 4) (v := ?v4) rfl (by kernel_rfl) (by kernel_rfl) (by kernel_rfl) (fun _ _ _ h => h) (Or.inl ⟨by rfl, ?y4⟩) (by assumption) ?r4
    case y4 => (intro w hSw; (try dsimp only at hSw); obtain s1 := hSw; go_simp; all_goals (with_reducible rfl))
    try simp only [Act.put, List.getElem_toArray, List.getElem_cons_zero, List.getElem_cons_succ, List.setIfInBounds_toArray, List.set_cons_zero, List.set_cons_succ]
    refine wpAnyH_take (i := 5) (v := ?v5) rfl (by kernel_rfl) (by kernel_rfl) (by kernel_rfl) (fun _ _ _ h => h) (Or.inl ⟨by rfl, ?y5⟩) (by assumption) ?r5
    case y5 => (intro w hSw; (try dsimp only at hSw); obtain s1 := hSw; go_simp; all_goals (with_reducible rfl))
    try simp only [Act.put, List.getElem_toArray, List.getElem_cons_zero, List.getElem_cons_succ, List.setIfInBounds_toArray, List.set_cons_zero, List.set_cons_succ]
    refine wpAnyH_ready (rs := [0]) (by kernel_rfl) (by simp) ?_
    refine AllReadyH.cons rfl (fun K hK => ?_) AllReadyH.nil
    go_simp
    refine hK.out _ _ v2 (fun hHeld => ?_)
    clear hK K
    try simp only [Act.put, List.getElem_toArray, List.getElem_cons_zero, List.getElem_cons_succ, List.setIfInBounds_toArray, List.set_cons_zero, List.set_cons_succ]
    refine wpAnyH_ready (rs := [6]) (by kernel_rfl) (by simp) ?_
    refine AllReadyH.cons rfl (fun K hK => ?_) AllReadyH.nil
    go_simp
    go_at_call 28
    refine (HS1.out _ hb1.drew).mono ?_
    rintro e w4 ⟨a4, n4, c4, rfl, hb4, hr4⟩
    have hb5 := hb1.drew.trans (hb4.mono hb1.drew.size)
    have q1 := (HL1.out _ hb5).cell
    have q2 := (HL1.out _ hb5).frozen
    have c1 := HV1.out _ hb5
    have c2 := (World.cell?_of_block (a := ⟨w3.heap.size, F, none⟩) (Below.heap_setCell w4 ⟨w1.heap.size + 1, 0, none⟩ (.slice a4 n4 c4) w3.heap.size (by show w3.heap.size ≠ w1.heap.size + 1; omega))).trans c1
    go_wp2_with fail
    refine hK.out _ _ c1 (fun hHeld => ?_)
    clear hK K
    try simp only [Act.put, List.getElem_toArray, List.getElem_cons_zero, List.getElem_cons_succ, List.setIfInBounds_toArray, List.set_cons_zero, List.set_cons_succ]
    refine wpAnyH_take (i := 7) (v := ?v7) rfl (by kernel_rfl) (by kernel_rfl) (by kernel_rfl) (fun _ _ _ h => h) (Or.inl ⟨by rfl, ?y7⟩) (by assumption) ?r7
    case y7 => (intro w hSw; (try dsimp only at hSw); obtain s1 := hSw; go_simp; all_goals (with_reducible rfl))
    try simp only [Act.put, List.getElem_toArray, List.getElem_cons_zero, List.getElem_cons_succ, List.setIfInBounds_toArray, List.set_cons_zero, List.set_cons_succ]
    refine wpAnyH_take (i := 8) (v := ?v8) rfl (by kernel_rfl) (by kernel_rfl) (by kernel_rfl) (fun _ _ _ h => h) (Or.inl ⟨by rfl, ?y8⟩) (by assumption) ?r8
    case y8 => (intro w hSw; (try dsimp only at hSw); obtain s1 := hSw; go_simp; all_goals (with_reducible rfl))
    try simp only [Act.put, List.getElem_toArray, List.getElem_cons_zero, List.getElem_cons_succ, List.setIfInBounds_toArray, List.set_cons_zero, List.set_cons_succ]
    refine wpAnyH_take (i := 9) (v := ?v9) rfl (by kernel_rfl) (by kernel_rfl) (by kernel_rfl) (fun _ _ _ h => h) (Or.inl ⟨by rfl, ?y9⟩) (by assumption) ?r9
    case y9 => (intro w hSw; (try dsimp only at hSw); obtain s1 := hSw; go_simp; all_goals (with_reducible rfl))
    try simp only [Act.put, List.getElem_toArray, List.getElem_cons_zero, List.getElem_cons_succ, List.setIfInBounds_toArray, List.set_cons_zero, List.set_cons_succ]
    refine wpAnyH_ready (rs := [10]) (by kernel_rfl) (by simp) ?_
    refine AllReadyH.cons rfl (fun K hK => ?_) AllReadyH.nil
    go_simp
    refine hK.out _ _ c2 (fun hHeld => ?_)
    clear hK K
    try simp only [Act.put, List.getElem_toArray, List.getElem_cons_zero, List.getElem_cons_succ, List.setIfInBounds_toArray, List.set_cons_zero, List.set_cons_succ]
    refine wpAnyH_done (by kernel_rfl) ?_ _
    refine ⟨((KeepsOthers.of_grownBy (grown_below hb5) (fun j o e => by cases e)).from _).trans ((KeepsOthers.setCell _ _ _).from _), (KpS.below hb5 HSl.out).setCell (fun h => ?_) _, ⟨⟨a4, n4, c4, (HL1.out _ hb5).set _, hr4.box (HL1.out _ hb5) _⟩, ?_, ?_, ?_⟩, (hB1.trans (hb5.mono hB1.size)).setCell (p := ⟨w1.heap.size + 1, 0, none⟩) (by show w.heap.size ≤ w1.heap.size + 1; omega) _⟩
    · rcases h with h | h | h
      · exact absurd (show w1.heap.size + 1 = w3.heap.size + 1 from h) (by omega)
      · exact absurd (show w1.heap.size + 1 = 0 from h) (by omega)
      · exact absurd (show w1.heap.size + 1 = 1 from h) (by omega)
    · exact (Below.heap_setCell w4 ⟨w1.heap.size + 1, 0, none⟩ _ w.heap.size (by show w.heap.size ≠ w1.heap.size + 1; omega)).trans ((hb5.block _ (lt_of_block bB)).trans bB)
    · exact (Below.heap_setCell w4 ⟨w1.heap.size + 1, 0, none⟩ _ w3.heap.size (by show w3.heap.size ≠ w1.heap.size + 1; omega)).trans ((hb5.block _ (lt_of_block bV)).trans bV)
    · exact (Below.heap_setCell w4 ⟨w1.heap.size + 1, 0, none⟩ _ (w3.heap.size + 1) (by show w3.heap.size + 1 ≠ w1.heap.size + 1; omega)).trans ((hb5.block _ (lt_of_block bT)).trans bT)
  case done =>
    rintro D ys W hD rfl ⟨⟨⟨a, n, c, bL, row⟩, bB, bV, bT⟩, hB1⟩ hK
    have cS := bL.cell
    go_wp2
    refine ⟨by simp, .inl ⟨_, _, rfl, run_takeDeferred hK, ?_⟩⟩
    refine ⟨.tuple #[.slice a n c, .int .i64 0], ?_, _, rfl, hB1.trans (belowK_b (w := w) (Nat.le_refl _) W D _ _ (by omega) hK rfl rfl), ?_⟩
    · simp [results, Tryd.f9, go_sem]
    · rw [flT_map, HEnd.out] at row
      exact (row_own .u8 (fun _ : Unit => Value.slice a n c) (fun _ => encL b)) () W _ _ row (grownBy_putObj' W D (.deferred none)) (fun r e => by cases e; exact ⟨_, hK, rfl⟩)
  case stop =>
    rintro D c pre W _ _ h _
    exact h.elim
end Go.Proofs.YtkknegnipodcnaaDoor.Hea
