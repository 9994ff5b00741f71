/- The contracts of the landed Of of spans, and of the closure that it hands on. -/
import Derived.Test.YtbjdlfeipidlbaaSpanS
import Derived.Test.YtbjdlfeipidlbaaKit11
import Derived.Test.YtbjdlfeipidlbaaRecZ
namespace Go.Proofs.Ytbjdlfeipidlbaa.Span
open Go.RowKit Rec
set_option linter.unusedVariables false

set_option maxRecDepth 100000 in
set_option maxHeartbeats 2000000 in
theorem next_any (k m n c xn xc Ba Bl hb ho : Nat) (xa : Option Addr) (w : World) (hBa : w.heap[Ba]? = some (.cells #[.int .i64 (m : Int)] 3 (0, 0)))
    (hBl : w.heap[Bl]? = some (.cells #[.slice (some ⟨hb, ho, none⟩) n c] 38 (0, 0))) (hk : k < n) (hn : n ≤ 16) (hc : w.cell? ⟨hb, ho + k, none⟩ = some (.slice xa xn xc)) (hm : m + xn ≤ 1000000) :
    Calls Try.prog 23 #[.int .i64 (k : Int), .pointer (some ⟨Ba, 0, none⟩), .pointer (some ⟨Bl, 0, none⟩)] w fun e w' =>
      e = .returned (.agg #[.int .i64 (m : Int), .int .i64 (xn : Int)]) ∧ Fr w.heap.size (fun b => b = Ba) w w' ∧ w'.heap[Ba]? = some (.cells #[.int .i64 ((m + xn : Nat) : Int)] 3 (0, 0)) := by
  have hl1 := lt_of_block hBa
  have hl2 := lt_of_block hBl
  have hk1 : (k : Int) < (n : Int) := by omega
  have hk0 : (0 : Int) ≤ (k : Int) := by omega
  have c1 := cell_of_one hBa
  have c2 := cell_of_one hBl
  have f1 := free_of_one hBa
  have hlb : hb < w.heap.size := World.block_lt_of_cell? w _ hc
  have hal := below_made w (.cells #[.int .i64 0, .int .i64 0] 31)
  have hal2 := hal.trans ((below_made (w.alloc (.cells #[.int .i64 0, .int .i64 0] 31)) (.cells #[.int .i64 0, .int .i64 0] 31)).mono hal.size)
  have c3 := (hal.cell (p := ⟨hb, ho + k, none⟩) hlb).trans hc
  have c4 := (hal2.cell (p := ⟨hb, ho + k, none⟩) hlb).trans hc
  clear hal hal2
  go_enter Try.func23, Try.ntmps23
  go_wp2_with fail
  go_region
  have hz1 : (w.alloc (.cells #[.int .i64 0, .int .i64 0] 31)).heap.size = w.heap.size + 1 := size_alloc _ _
  have hz2 : (((w.alloc (.cells #[.int .i64 0, .int .i64 0] 31)).alloc (.cells #[.int .i64 (m : Int), .int .i64 (xn : Int)] 31)).drew).heap.size = w.heap.size + 1 + 1 := (size_alloc _ _).trans (congrArg (· + 1) hz1)
  have e0 : (((w.alloc (.cells #[.int .i64 0, .int .i64 0] 31)).alloc (.cells #[.int .i64 (m : Int), .int .i64 (xn : Int)] 31)).drew).heap[w.heap.size]? = some (.cells #[.int .i64 0, .int .i64 0] 31 (0, 0)) :=
    (Below.heap_alloc _ _ _ (by omega)).trans (heap_alloc_new _ _)
  have e1 : (((w.alloc (.cells #[.int .i64 0, .int .i64 0] 31)).alloc (.cells #[.int .i64 (m : Int), .int .i64 (xn : Int)] 31)).drew).heap[w.heap.size + 1]? = some (.cells #[.int .i64 (m : Int), .int .i64 (xn : Int)] 31 (0, 0)) := by
    have := heap_alloc_new (w.alloc (.cells #[.int .i64 0, .int .i64 0] 31)) (.cells #[.int .i64 (m : Int), .int .i64 (xn : Int)] 31)
    rw [hz1] at this
    exact this
  have e2 : (((w.alloc (.cells #[.int .i64 0, .int .i64 0] 31)).alloc (.cells #[.int .i64 (m : Int), .int .i64 (xn : Int)] 31)).drew).heap[Ba]? = some (.cells #[.int .i64 (m : Int)] 3 (0, 0)) :=
    ((Below.heap_alloc _ _ _ (by omega)).trans (Below.heap_alloc _ _ _ hl1)).trans hBa
  have HFr : Hid (Fr w.heap.size (fun b => b = Ba) w (((w.alloc (.cells #[.int .i64 0, .int .i64 0] 31)).alloc (.cells #[.int .i64 (m : Int), .int .i64 (xn : Int)] 31)).drew)) :=
    (((Fr.refl _ _ w).alloc (Nat.le_refl _) _).alloc (by omega) _).drew
  generalize ((w.alloc (.cells #[.int .i64 0, .int .i64 0] 31)).alloc (.cells #[.int .i64 (m : Int), .int .i64 (xn : Int)] 31)).drew = W at hz2 e0 e1 e2 HFr ⊢
  have d0 := (cell_block e1 0).trans (show _ = some (Value.int .i64 (m : Int)) from rfl)
  have d1 := (cell_block e1 1).trans (show _ = some (Value.int .i64 (xn : Int)) from rfl)
  clear c1 c2 c3 c4 f1 hBa hBl hc hz1
  go_wp2_with fail
  refine (end_any (m : Int) (xn : Int) ((m + xn : Nat) : Int) W (by omega) (by omega) (by omega)).mono ?_
  rintro e w1 ⟨rfl, hb1⟩
  have g0 := (hb1.block w.heap.size (by omega)).trans e0
  have g1 := (hb1.block (w.heap.size + 1) (by omega)).trans e1
  have g2 := (hb1.block Ba (by omega)).trans e2
  have HFr2 : Hid (Fr w.heap.size (fun b => b = Ba) w w1) := HFr.out.below hb1 (by omega)
  have d2 := cell_of_one g2
  have f2 := free_of_one g2
  have d3 := (cell_block g1 0).trans (show _ = some (Value.int .i64 (m : Int)) from rfl)
  have d4 := (cell_block g1 1).trans (show _ = some (Value.int .i64 (xn : Int)) from rfl)
  have d5 := (cell_block g0 0).trans (show _ = some (Value.int .i64 0) from rfl)
  have d6 := (cell_block g0 1).trans (show _ = some (Value.int .i64 0) from rfl)
  have f5 := frozen_block g0 0
  have f6 := frozen_block g0 1
  have hne : ¬ w.heap.size = Ba := by omega
  clear e0 e1 e2 g0 g1 d0 d1 hb1 HFr hz2
  obtain ⟨p, hp⟩ : ∃ p, p = m + xn := ⟨_, rfl⟩
  rw [← hp]
  have HP := Lib.hid hp
  clear hp
  go_wp2
  obtain ⟨q0, q1, q2⟩ := two_set (w := w1.setCell ⟨Ba, 0, none⟩ (.int .i64 (p : Int))) ((World.cell?_setCell_other _ _ _ _ (by intro h; injection h with h1 _ _; exact hne h1.symm)).trans d5) ((World.cell?_setCell_other _ _ _ _ (by intro h; injection h with h1 _ _; exact hne h1.symm)).trans d6) (.int .i64 (m : Int)) (.int .i64 (xn : Int))
  refine bodyPost_ret (v := .agg #[.int .i64 (m : Int), .int .i64 (xn : Int)]) (by simp [results, Try.results23, go_sem, q0, q1, q2]) rfl ⟨rfl, ?_, ?_⟩
  · exact ((HFr2.out.setCell (.inr rfl) _).setCell (.inl (Nat.le_refl _)) _).setCell (.inl (Nat.le_refl _)) _
  · rw [← HP.out, Below.heap_setCell _ _ _ _ (by intro h; exact hne h.symm), Below.heap_setCell _ _ _ _ (by intro h; exact hne h.symm)]
    exact one_setCell g2

theorem CellsAt.fr {w w' : World} {h n : Nat} {V : Nat → Value} {N : Nat} {S : Nat → Prop} (k : CellsAt w h n V) (hf : Fr N S w w') (hN : h < N) (hs : ¬ S h) : CellsAt w' h n V := by
  have hb := hf.block h hN hs
  refine ⟨Nat.lt_of_lt_of_le k.1 hf.size, fun i hi => ?_⟩
  have := k.2 i hi
  simp only [World.cell?, World.frozen?, hb] at this ⊢
  exact this
theorem CellsAt.made2 (w : World) (z1 z2 : Value) (n : Nat) (t : TypeId) : ∃ V, CellsAt (w.alloc (.cells (madeCells #[z1, z2] (n * 2)) t)) w.heap.size (n * 2) V := by
  refine ⟨fun i => (madeCells #[z1, z2] (n * 2)).getD i undef, by rw [size_alloc]; omega, fun i hi => ⟨?_, frozen_block (heap_alloc_new w _) i⟩⟩
  have : i < (madeCells #[z1, z2] (n * 2)).size := by simp [madeCells]; omega
  rw [cell_block (heap_alloc_new w _)]
  simp [this]

/-- make of n structs of two cells: the world is told. -/
theorem wpList_make_pairs {P : Program} {w : World} {ops : Array Oper} {rest : List Oper} {o : Oper} {a : Act} {Q : Exit → Act → World → Prop}
    (hg : o.guard = none) (l c : Operand) (t : TypeId) (hop : o.op = Op.makeSlice t l c)
    (e : TypeId) (i : TypeInfo) (z : Value) (bytes : Nat) (h1 : P.underlying t = some (.slice e)) (h2 : P.info? e = some i) (h3 : i.zero = some z) (h4 : i.size = 2) (h5 : i.bytes = bytes)
    (kl kc : IntKind) (n : Nat) (hl : a.eval l = .int kl (n : Int)) (hc : a.eval c = .int kc (n : Int)) (b2 : bytes * n ≤ 281474976710656) (b3 : n ≤ 9223372036854775807)
    (hK : wpList P ops Q rest (a.put o.dst (.slice (some ⟨w.heap.size, 0, none⟩) n n)) (w.alloc (.cells (madeCells z.cells (n * 2)) e))) :
    wpList P ops Q (o :: rest) a w := by
  refine wpList_plain hg fun K hK' => ?_
  have hb : (i.bytes : Int) * (n : Int) ≤ 281474976710656 := by rw [h5, ← Int.natCast_mul]; omega
  have hrun := run_make (P := P) w t e i z h1 h2 h3 kl kc (n : Int) (n : Int) (by omega) (by omega) hb (by omega)
  rw [h4, Int.toNat_natCast] at hrun
  unfold Oper.wp
  simp [execOp, hop, hl, hc, hrun, Result.andThen]
  exact hK' _ _ hK

set_option maxRecDepth 100000 in
set_option maxHeartbeats 2000000 in
theorem produced_any (L : List (List Int)) (m0 Ba Bl hb ho c : Nat) (U : Nat → Value) (w : World) (hBa : w.heap[Ba]? = some (.cells #[.int .i64 (m0 : Int)] 3 (0, 0)))
    (hBl : w.heap[Bl]? = some (.cells #[.slice (some ⟨hb, ho, none⟩) L.length c] 38 (0, 0))) (hne : Bl ≠ Ba) (hn : L.length ≤ 16) (hhb : hb < w.heap.size) (hhn : hb ≠ Ba)
    (hc : ∀ i, i < L.length → w.cell? ⟨hb, ho + i, none⟩ = some (U i)) (hU : ∀ i, i < L.length → ∃ xa xc, U i = .slice xa (L.getD i []).length xc) (hm : m0 + dat L ≤ 1000000) :
    Calls Try.prog 22 #[.int .i64 (L.length : Int), .func (.func 23) #[] #[.pointer (some ⟨Ba, 0, none⟩), .pointer (some ⟨Bl, 0, none⟩)]] w fun e w' =>
      ∃ u, e = .returned u ∧ Fr w.heap.size (fun b => b = Ba) w w' ∧ PRow w' u (spL m0 L) := by
  obtain ⟨i0, hi, hz0, hz1, hz2⟩ := info_parts infoSpan
  have hl1 := lt_of_block hBa
  have hl2 := lt_of_block hBl
  have HBa := Lib.hid hBa
  have HBl := Lib.hid hBl
  have HC := Lib.hid hc
  have HU := Lib.hid hU
  clear hBa hBl hc hU
  obtain ⟨V0, hV0⟩ := CellsAt.made2 w (.int .i64 0) (.int .i64 0) L.length 31
  have HV0 := Lib.hid hV0
  have HF0 : Hid (Fr w.heap.size (fun b => b = Ba) w (w.alloc (.cells (madeCells #[.int .i64 0, .int .i64 0] (L.length * 2)) 31))) := (Fr.refl _ _ w).alloc (Nat.le_refl _) _
  have HBa0 : Hid ((w.alloc (.cells (madeCells #[.int .i64 0, .int .i64 0] (L.length * 2)) 31)).heap[Ba]? = some (.cells #[.int .i64 (m0 : Int)] 3 (0, 0))) := (Below.heap_alloc _ _ _ hl1).trans HBa.out
  clear hV0
  go_enter Try.func22, Try.ntmps22
  go_wp2_with (refine wpList_make_pairs rfl (.tmp 7) (.tmp 7) 24 rfl 31 i0 (.agg #[.int .i64 0, .int .i64 0]) 16 Try.underlying24 hi hz0 hz1 hz2 .i64 .i64 L.length rfl rfl (by omega) (by omega) ?_)
  obtain ⟨w0, hw0⟩ : ∃ w0, w0 = w.alloc (.cells (madeCells #[.int .i64 0, .int .i64 0] (L.length * 2)) 31) := ⟨_, rfl⟩
  rw [← hw0] at HV0 HF0 HBa0
  have hw1 : w.alloc (.cells (madeCells (Value.agg #[.int .i64 0, .int .i64 0]).cells (L.length * 2)) 31) = w0 := hw0.symm
  try rw [hw1]
  try rw [← hw0]
  clear hw0 hw1
  go_wp2
  go_loopw [11] (fun i wr => ∃ (k m : Nat) (V : Nat → Value), k ≤ L.length ∧ i = .int .i64 k ∧ Hid (m = m0 + dat (L.take k)) ∧ Hid (wr.heap[Ba]? = some (.cells #[.int .i64 (m : Int)] 3 (0, 0))) ∧
      Hid (CellsAt wr w.heap.size (L.length * 2) V) ∧ Hid (∀ i, i < k → V (i * 2) = .int .i64 (((spL m0 L).getD i (0, 0)).1 : Int) ∧ V (i * 2 + 1) = .int .i64 (((spL m0 L).getD i (0, 0)).2 : Int)) ∧ Hid (Fr w.heap.size (fun b => b = Ba) w wr)) (fun i _ => L.length - (intOf i).toNat)
  case atStart => exact ⟨0, m0, V0, Nat.zero_le _, rfl, by simp [Hid, dat], HBa0.out, HV0.out, fun i h => absurd h (by omega), HF0.out⟩
  case round =>
    obtain ⟨k, m, V, hk, rfl, HM, HBk, HVk, HS, HF⟩ := hrel
    by_cases hlt : k < L.length
    · have hlt1 : (k : Int) < (L.length : Int) := by omega
      have hbl := (HF.out.block Bl hl2 hne).trans HBl.out
      have hcell := HF.out.cell (HC.out k hlt) hhb hhn
      obtain ⟨xa, xc, hx⟩ := HU.out k hlt
      have hd1 := dat_take_succ L k hlt
      have hd2 := dat_take_le L (k + 1)
      have hM := HM.out
      have hg := spL_get m0 L k hlt
      rw [← hM] at hg
      rw [hx] at hcell
      obtain ⟨x, hxl⟩ : ∃ x, x = (L.getD k []).length := ⟨_, rfl⟩
      rw [← hxl] at hcell hd1 hg
      have HN := Lib.hid (next_any k m L.length c x xc Ba Bl hb ho xa wr HBk.out hbl hlt hn hcell (by omega))
      have HM2 : Hid (m + x = m0 + dat (L.take (k + 1))) := by unfold Hid; omega
      have HG := Lib.hid hg
      have hsz := HF.out.size
      have hza := HVk.out.1
      clear hbl hcell hx hd1 hd2 hM hg hxl
      go_wp2_with fail
      refine HN.out.mono ?_
      rintro e w1 ⟨rfl, hf1, hb1⟩
      have hne2 : ¬ w.heap.size = Ba := by omega
      have HV1 := Lib.hid (CellsAt.fr HVk.out hf1 hza hne2)
      obtain ⟨g0, f0⟩ := HV1.out.2 (k * 2) (by omega)
      obtain ⟨g1, f1⟩ := HV1.out.2 (k * 2 + 1) (by omega)
      have HF2 : Hid (Fr w.heap.size (fun b => b = Ba) w ((w1.setCell ⟨w.heap.size, k * 2, none⟩ (.int .i64 (m : Int))).setCell ⟨w.heap.size, k * 2 + 1, none⟩ (.int .i64 (x : Int)))) :=
        ((HF.out.trans (hf1.mono hsz (fun _ _ h => h))).setCell (.inl (Nat.le_refl _)) _).setCell (.inl (Nat.le_refl _)) _
      have HB2 : Hid (((w1.setCell ⟨w.heap.size, k * 2, none⟩ (.int .i64 (m : Int))).setCell ⟨w.heap.size, k * 2 + 1, none⟩ (.int .i64 (x : Int))).heap[Ba]? = some (.cells #[.int .i64 ((m + x : Nat) : Int)] 3 (0, 0))) := by
        unfold Hid
        rw [Below.heap_setCell _ _ _ _ (fun h => hne2 h.symm), Below.heap_setCell _ _ _ _ (fun h => hne2 h.symm)]
        exact hb1
      have HV2 := Lib.hid ((HV1.out.set (k * 2) (by omega) (.int .i64 (m : Int))).set (k * 2 + 1) (by omega) (.int .i64 (x : Int)))
      have HS2 : Hid (∀ i, i < k + 1 → (fun j => if j = k * 2 + 1 then Value.int .i64 (x : Int) else (fun j => if j = k * 2 then Value.int .i64 (m : Int) else V j) j) (i * 2) = .int .i64 (((spL m0 L).getD i (0, 0)).1 : Int) ∧
          (fun j => if j = k * 2 + 1 then Value.int .i64 (x : Int) else (fun j => if j = k * 2 then Value.int .i64 (m : Int) else V j) j) (i * 2 + 1) = .int .i64 (((spL m0 L).getD i (0, 0)).2 : Int)) := by
        intro i hi
        by_cases e : i = k
        · subst e
          rw [HG.out]
          simp
        · have hik : i < k := by omega
          obtain ⟨s1, s2⟩ := HS.out i hik
          have n1 : ¬ i * 2 = k * 2 + 1 := by omega
          have n2 : ¬ i * 2 = k * 2 := by omega
          have n3 : ¬ i * 2 + 1 = k * 2 + 1 := by omega
          have n4 : ¬ i * 2 + 1 = k * 2 := by omega
          simp only [if_neg n1, if_neg n2, if_neg n3, if_neg n4]
          exact ⟨s1, s2⟩
      clear hf1 hb1 HV1 HS HVk HF HBk HN
      go_wp2
      go_roundw
      case rel => exact ⟨k + 1, m + x, _, by omega, by go_num, HM2, HB2, HV2, HS2, HF2⟩
      case measure => simp [intOf]; omega
    · obtain rfl : k = L.length := by omega
      have hrow : PRow wr (.slice (some ⟨w.heap.size, 0, none⟩) L.length L.length) (spL m0 L) := by
        refine ⟨_, _, by rw [spL_length], by rw [spL_length]; exact Nat.le_refl _, by omega, fun _ => ⟨w.heap.size, 0, rfl, HVk.out.1, fun i hi => ?_⟩⟩
        rw [spL_length] at hi
        obtain ⟨s1, s2⟩ := HS.out i hi
        rw [Nat.zero_add, ← s1, ← s2]
        exact ⟨(HVk.out.2 (i * 2) (by omega)).1, (HVk.out.2 (i * 2 + 1) (by omega)).1⟩
      have HR := Lib.hid hrow
      clear hrow HM HBk HVk HS
      go_wp2
      go_ret
      exact ⟨_, rfl, HF.out, HR.out⟩
end Go.Proofs.Ytbjdlfeipidlbaa.Span
