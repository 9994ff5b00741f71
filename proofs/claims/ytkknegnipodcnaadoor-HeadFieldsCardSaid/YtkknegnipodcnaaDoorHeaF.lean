/- The document's Decode. -/
import Derived.Test.YtkknegnipodcnaaDoorHeaE
import Derived.Deep.RegionHeld3
namespace Go.Proofs.YtkknegnipodcnaaDoor.Hea
open Go.RowKit Num
set_option linter.unusedVariables false

/-- A head of bytes behind k fields. -/
def foldD (l : List Int) (t : Int) : Nat → Blk
  | 0 => Blk.zero
  | k + 1 => if 0 < (whF t k).2 then withB (foldD l t k) k (rdF l (whF t k).1.toNat (whF t k).2.toNat) else foldD l t k
theorem rdF_bd {l : List Int} (hl : ∀ i, 0 ≤ l.getD i 0 ∧ l.getD i 0 < 256) (a n : Nat) : 0 ≤ rdF l a n ∧ rdF l a n < 256 ^ n := by
  have hb : ∀ i, 0 ≤ ((l.drop a).take n).getD i 0 ∧ ((l.drop a).take n).getD i 0 < 256 := fun i => by
    by_cases hi : i < n
    · rw [take_getD _ _ _ hi, drop_getD]; exact hl _
    · simp [List.getD, List.getElem?_take, hi]
  have h := le_bd ((l.drop a).take n) hb
  refine ⟨h.1, Int.lt_of_lt_of_le h.2 ?_⟩
  have h1 : ((l.drop a).take n).length ≤ n := by rw [List.length_take]; omega
  have e : ∀ k : Nat, (256 : Int) ^ k = ((256 ^ k : Nat) : Int) := fun k => by rw [Int.natCast_pow]; rfl
  rw [e, e]
  exact Int.ofNat_le.2 (Nat.pow_le_pow_right (by decide) h1)
theorem rdF_one {l : List Int} (a : Nat) (h : a < l.length) : rdF l a 1 = l.getD a 0 := by
  unfold rdF
  rw [List.drop_eq_getElem_cons h, List.take_succ_cons, List.take_zero]
  simp [le, List.getD, h]
theorem rdF_1 {l : List Int} (hl : ∀ i, 0 ≤ l.getD i 0 ∧ l.getD i 0 < 256) (a : Nat) : 0 ≤ rdF l a 1 ∧ rdF l a 1 < 256 := rdF_bd hl a 1
theorem rdF_2 {l : List Int} (hl : ∀ i, 0 ≤ l.getD i 0 ∧ l.getD i 0 < 256) (a : Nat) : 0 ≤ rdF l a 2 ∧ rdF l a 2 < 65536 := rdF_bd hl a 2
theorem rdF_4 {l : List Int} (hl : ∀ i, 0 ≤ l.getD i 0 ∧ l.getD i 0 < 256) (a : Nat) : 0 ≤ rdF l a 4 ∧ rdF l a 4 < 4294967296 := rdF_bd hl a 4
theorem rdF_8 {l : List Int} (hl : ∀ i, 0 ≤ l.getD i 0 ∧ l.getD i 0 < 256) (a : Nat) : 0 ≤ rdF l a 8 ∧ rdF l a 8 < 18446744073709551616 := rdF_bd hl a 8
theorem w64 {v : Int} (h0 : 0 ≤ v) (h1 : v < 4294967296) : wrap64 v = v := IntWalk.wrap64_in _ (by omega)
theorem foldD_end {l : List Int} (hl : ∀ i, 0 ≤ l.getD i 0 ∧ l.getD i 0 < 256) (ht : l.getD 0 0 ≤ 2) (hs : szF (l.getD 0 0) ≤ (l.length : Int)) : foldD l (l.getD 0 0) 12 = decB l := by
  obtain ⟨t, he⟩ : ∃ t, t = l.getD 0 0 := ⟨_, rfl⟩
  have h0 := hl 0
  rw [← he] at ht hs h0 ⊢
  have h8 := (sz_bd (t := t) ⟨h0.1, ht⟩).1
  have e0 : rdF l 0 1 = t := by rw [rdF_one _ (by omega), he]
  have e1 : rdF l 1 1 = l.getD 1 0 := rdF_one _ (by omega)
  have e2 : rdF l 2 1 = l.getD 2 0 := rdF_one _ (by omega)
  have e3 : rdF l 3 1 = l.getD 3 0 := rdF_one _ (by omega)
  have b1 := hl 1
  have b2 := hl 2
  have b3 := hl 3
  have c4 := rdF_4 hl 4
  have c8 := rdF_4 hl 8
  have c12 := rdF_4 hl 12
  have c16 := rdF_8 hl 16
  have c24 := rdF_2 hl 24
  have c26 := rdF_2 hl 26
  have c28 := rdF_4 hl 28
  have m4 : rdF l 4 4 % 4294967296 = rdF l 4 4 := Int.emod_eq_of_lt c4.1 c4.2
  have m8 : rdF l 8 4 % 4294967296 = rdF l 8 4 := Int.emod_eq_of_lt c8.1 c8.2
  have m12 : rdF l 12 4 % 4294967296 = rdF l 12 4 := Int.emod_eq_of_lt c12.1 c12.2
  have m24 : rdF l 24 2 % 65536 = rdF l 24 2 := Int.emod_eq_of_lt c24.1 c24.2
  have m26 : wrap64 (rdF l 26 2) = rdF l 26 2 := w64 c26.1 (by omega)
  have m28 : rdF l 28 4 % 4294967296 = rdF l 28 4 := Int.emod_eq_of_lt c28.1 c28.2
  have n1 : wrap64 (l.getD 1 0) = l.getD 1 0 := w64 b1.1 (by omega)
  have n3 : wrap64 (l.getD 3 0) = l.getD 3 0 := w64 b3.1 (by omega)
  have n0 : wrap64 t = t := w64 h0.1 (by omega)
  unfold decB
  rw [← he]
  have htt : t = 0 ∨ t = 1 ∨ t = 2 := by omega
  clear hs ht h0 h8
  rcases htt with rfl | rfl | rfl
  · simp only [foldD, show whF 0 ((0 : Nat) : Int) = (0, 1) from by decide, show whF 0 ((1 : Nat) : Int) = (1, 1) from by decide, show whF 0 ((2 : Nat) : Int) = (2, 1) from by decide, show whF 0 ((3 : Nat) : Int) = (3, 1) from by decide, show whF 0 ((4 : Nat) : Int) = (4, 4) from by decide, show whF 0 ((5 : Nat) : Int) = (0, 0) from by decide, show whF 0 ((6 : Nat) : Int) = (0, 0) from by decide, show whF 0 ((7 : Nat) : Int) = (0, 0) from by decide, show whF 0 ((8 : Nat) : Int) = (0, 0) from by decide, show whF 0 ((9 : Nat) : Int) = (0, 0) from by decide, show whF 0 ((10 : Nat) : Int) = (0, 0) from by decide, show whF 0 ((11 : Nat) : Int) = (0, 0) from by decide]
    simp only [Int.toNat_zero, Int.reduceToNat, Int.reduceLT, if_true, if_false, Blk.zero, withB, e0, e1, e2, e3, m4, m8, m12, m24, m26, m28, n0, n1, n3, Int.reduceEq]
  · simp only [foldD, show whF 1 ((0 : Nat) : Int) = (0, 1) from by decide, show whF 1 ((1 : Nat) : Int) = (1, 1) from by decide, show whF 1 ((2 : Nat) : Int) = (2, 1) from by decide, show whF 1 ((3 : Nat) : Int) = (3, 1) from by decide, show whF 1 ((4 : Nat) : Int) = (4, 4) from by decide, show whF 1 ((5 : Nat) : Int) = (8, 4) from by decide, show whF 1 ((6 : Nat) : Int) = (12, 4) from by decide, show whF 1 ((7 : Nat) : Int) = (16, 8) from by decide, show whF 1 ((8 : Nat) : Int) = (24, 2) from by decide, show whF 1 ((9 : Nat) : Int) = (26, 2) from by decide, show whF 1 ((10 : Nat) : Int) = (28, 4) from by decide, show whF 1 ((11 : Nat) : Int) = (0, 0) from by decide]
    simp only [Int.toNat_zero, Int.reduceToNat, Int.reduceLT, if_true, if_false, Blk.zero, withB, e0, e1, e2, e3, m4, m8, m12, m24, m26, m28, n0, n1, n3, Int.reduceEq]
  · simp only [foldD, show whF 2 ((0 : Nat) : Int) = (0, 1) from by decide, show whF 2 ((1 : Nat) : Int) = (1, 1) from by decide, show whF 2 ((2 : Nat) : Int) = (2, 1) from by decide, show whF 2 ((3 : Nat) : Int) = (3, 1) from by decide, show whF 2 ((4 : Nat) : Int) = (4, 4) from by decide, show whF 2 ((5 : Nat) : Int) = (0, 0) from by decide, show whF 2 ((6 : Nat) : Int) = (0, 0) from by decide, show whF 2 ((7 : Nat) : Int) = (0, 0) from by decide, show whF 2 ((8 : Nat) : Int) = (0, 0) from by decide, show whF 2 ((9 : Nat) : Int) = (0, 0) from by decide, show whF 2 ((10 : Nat) : Int) = (12, 4) from by decide, show whF 2 ((11 : Nat) : Int) = (8, 4) from by decide]
    simp only [Int.toNat_zero, Int.reduceToNat, Int.reduceLT, if_true, if_false, Blk.zero, withB, e0, e1, e2, e3, m4, m8, m12, m24, m26, m28, n0, n1, n3, Int.reduceEq]

def cellsA (b : Blk) : Array Value := #[.int .i64 b.tag, .int .i64 b.cls, .bool b.used, .int .i64 b.lab, .int .u32 b.name, .int .u32 b.next, .int .u32 b.prev, .int .u32 b.refs, .int .u64 b.exp, .int .u16 b.typ, .int .i64 b.size, .int .u32 b.hash]
/-- A block's twelve cells, written one by one. -/
def S12 (w : World) (o : Nat) (b : Blk) : World :=
  (((((((((((w.setCell ⟨o, 0, none⟩ (.int .i64 b.tag)).setCell ⟨o, 1, none⟩ (.int .i64 b.cls)).setCell ⟨o, 2, none⟩ (.bool b.used)).setCell ⟨o, 3, none⟩ (.int .i64 b.lab)).setCell ⟨o, 4, none⟩ (.int .u32 b.name)).setCell ⟨o, 5, none⟩ (.int .u32 b.next)).setCell ⟨o, 6, none⟩ (.int .u32 b.prev)).setCell ⟨o, 7, none⟩ (.int .u32 b.refs)).setCell ⟨o, 8, none⟩ (.int .u64 b.exp)).setCell ⟨o, 9, none⟩ (.int .u16 b.typ)).setCell ⟨o, 10, none⟩ (.int .i64 b.size)).setCell ⟨o, 11, none⟩ (.int .u32 b.hash)
theorem s12_block {w : World} {o : Nat} {b0 : Blk} {T : TypeId} (h : w.heap[o]? = some (.cells (cellsA b0) T (0, 0))) (b : Blk) : (S12 w o b).heap[o]? = some (.cells (cellsA b) T (0, 0)) := by
  unfold S12
  have h1 := heap_setCell_own (o := 0) h (.int .i64 b.tag)
  have h2 := heap_setCell_own (o := 1) h1 (.int .i64 b.cls)
  have h3 := heap_setCell_own (o := 2) h2 (.bool b.used)
  have h4 := heap_setCell_own (o := 3) h3 (.int .i64 b.lab)
  have h5 := heap_setCell_own (o := 4) h4 (.int .u32 b.name)
  have h6 := heap_setCell_own (o := 5) h5 (.int .u32 b.next)
  have h7 := heap_setCell_own (o := 6) h6 (.int .u32 b.prev)
  have h8 := heap_setCell_own (o := 7) h7 (.int .u32 b.refs)
  have h9 := heap_setCell_own (o := 8) h8 (.int .u64 b.exp)
  have h10 := heap_setCell_own (o := 9) h9 (.int .u16 b.typ)
  have h11 := heap_setCell_own (o := 10) h10 (.int .i64 b.size)
  have h12 := heap_setCell_own (o := 11) h11 (.int .u32 b.hash)
  refine h12.trans ?_
  simp [cellsA]
theorem s12_below {w w0 : World} {B o : Nat} (hb : Below B w0 w) (ho : B ≤ o) (b : Blk) : Below B w0 (S12 w o b) := by
  unfold S12
  exact (((((((((((hb.setCell (p := ⟨o, 0, none⟩) ho _).setCell (p := ⟨o, 1, none⟩) ho _).setCell (p := ⟨o, 2, none⟩) ho _).setCell (p := ⟨o, 3, none⟩) ho _).setCell (p := ⟨o, 4, none⟩) ho _).setCell (p := ⟨o, 5, none⟩) ho _).setCell (p := ⟨o, 6, none⟩) ho _).setCell (p := ⟨o, 7, none⟩) ho _).setCell (p := ⟨o, 8, none⟩) ho _).setCell (p := ⟨o, 9, none⟩) ho _).setCell (p := ⟨o, 10, none⟩) ho _).setCell (p := ⟨o, 11, none⟩) ho _
theorem cells_of {w : World} {o : Nat} {b : Blk} {T : TypeId} (h : w.heap[o]? = some (.cells (cellsA b) T (0, 0))) :
    w.cell? ⟨o, 0, none⟩ = some (.int .i64 b.tag) ∧ w.cell? ⟨o, 1, none⟩ = some (.int .i64 b.cls) ∧ w.cell? ⟨o, 2, none⟩ = some (.bool b.used) ∧ w.cell? ⟨o, 3, none⟩ = some (.int .i64 b.lab) ∧ w.cell? ⟨o, 4, none⟩ = some (.int .u32 b.name) ∧ w.cell? ⟨o, 5, none⟩ = some (.int .u32 b.next) ∧ w.cell? ⟨o, 6, none⟩ = some (.int .u32 b.prev) ∧ w.cell? ⟨o, 7, none⟩ = some (.int .u32 b.refs) ∧ w.cell? ⟨o, 8, none⟩ = some (.int .u64 b.exp) ∧ w.cell? ⟨o, 9, none⟩ = some (.int .u16 b.typ) ∧ w.cell? ⟨o, 10, none⟩ = some (.int .i64 b.size) ∧ w.cell? ⟨o, 11, none⟩ = some (.int .u32 b.hash) :=
  ⟨(cell_block h 0).trans rfl, (cell_block h 1).trans rfl, (cell_block h 2).trans rfl, (cell_block h 3).trans rfl, (cell_block h 4).trans rfl, (cell_block h 5).trans rfl, (cell_block h 6).trans rfl, (cell_block h 7).trans rfl, (cell_block h 8).trans rfl, (cell_block h 9).trans rfl, (cell_block h 10).trans rfl, (cell_block h 11).trans rfl⟩
theorem free_of {w : World} {o : Nat} {b : Blk} {T : TypeId} (h : w.heap[o]? = some (.cells (cellsA b) T (0, 0))) (i : Nat) : w.frozen? ⟨o, i, none⟩ = false := frozen_block h i
theorem new0_cell (w : World) (c : Array Value) (T : TypeId) (i : Nat) : (w.alloc (.cells c T)).cell? ⟨w.heap.size, i, none⟩ = c[i]? := cell_block (heap_alloc_new w _) i
theorem decF_nil : decF [] = (Blk.zero, 3) := rfl
theorem decF_big {l : List Int} (hn : l ≠ []) (h : 2 < l.getD 0 0) : decF l = (Blk.zero, 4) := by rw [decF, if_neg hn, if_pos h]
theorem decF_short {l : List Int} (hn : l ≠ []) (h : ¬ 2 < l.getD 0 0) (hs : (l.length : Int) < szF (l.getD 0 0)) : decF l = (Blk.zero, 3) := by rw [decF, if_neg hn, if_neg h, if_pos hs]
theorem decF_rest {l : List Int} (hn : l ≠ []) (h : ¬ 2 < l.getD 0 0) (hs : ¬ (l.length : Int) < szF (l.getD 0 0)) : decF l = if 1 < l.getD 2 0 ∨ rightF (decB l) = false then (Blk.zero, 4) else (decB l, 0) := by rw [decF, if_neg hn, if_neg h, if_neg hs]

theorem decB_ok {l : List Int} (hl : ∀ i, 0 ≤ l.getD i 0 ∧ l.getD i 0 < 256) : (decB l).Ok := by
  have h0 := hl 0
  have h1 := hl 1
  have h3 := hl 3
  have c4 := rdF_4 hl 4
  have c8 := rdF_4 hl 8
  have c12 := rdF_4 hl 12
  have c16 := rdF_8 hl 16
  have c24 := rdF_2 hl 24
  have c26 := rdF_2 hl 26
  have c28 := rdF_4 hl 28
  unfold decB
  constructor <;> simp only [i64, u32, u64, u16] <;> (repeat' split) <;> omega
theorem s12_other (w : World) (o g : Nat) (b : Blk) (h : g ≠ o) : (S12 w o b).heap[g]? = w.heap[g]? := by
  unfold S12
  simp only [Below.heap_setCell _ _ _ _ (show g ≠ (⟨o, 0, none⟩ : Addr).block from h), Below.heap_setCell _ _ _ _ (show g ≠ (⟨o, 1, none⟩ : Addr).block from h), Below.heap_setCell _ _ _ _ (show g ≠ (⟨o, 2, none⟩ : Addr).block from h), Below.heap_setCell _ _ _ _ (show g ≠ (⟨o, 3, none⟩ : Addr).block from h), Below.heap_setCell _ _ _ _ (show g ≠ (⟨o, 4, none⟩ : Addr).block from h), Below.heap_setCell _ _ _ _ (show g ≠ (⟨o, 5, none⟩ : Addr).block from h), Below.heap_setCell _ _ _ _ (show g ≠ (⟨o, 6, none⟩ : Addr).block from h), Below.heap_setCell _ _ _ _ (show g ≠ (⟨o, 7, none⟩ : Addr).block from h), Below.heap_setCell _ _ _ _ (show g ≠ (⟨o, 8, none⟩ : Addr).block from h), Below.heap_setCell _ _ _ _ (show g ≠ (⟨o, 9, none⟩ : Addr).block from h), Below.heap_setCell _ _ _ _ (show g ≠ (⟨o, 10, none⟩ : Addr).block from h), Below.heap_setCell _ _ _ _ (show g ≠ (⟨o, 11, none⟩ : Addr).block from h)]

set_option maxRecDepth 100000 in
set_option maxHeartbeats 4000000 in
theorem refDecode_any (v : Value) (l : List Int) (w : World) (hr : Row .u8 w v l) (hl : l.length ≤ 1000000) :
    Calls Tryd.prog 12 #[v] w fun e w' => e = .returned (.tuple #[(decF l).1.agg, .int .i64 (decF l).2]) ∧ Below w.heap.size w w' := by
  have hby := hr.bytes
  have HRow := Lib.hid hr
  obtain ⟨ad, cap, rfl, q2, q3, q4, q5⟩ := hr
  clear q4
  by_cases hn : l = []
  · subst hn
    rw [decF_nil]
    clear q5 hby HRow
    go_enter Tryd.func12, Tryd.ntmps12
    go_wp2
    refine bodyPost_ret (v := .tuple #[Blk.zero.agg, .int .i64 3]) (by simp [results, Tryd.results12, go_sem, new0_cell, Blk.zero, Blk.agg]) rfl ⟨rfl, below_made _ _⟩
  · obtain ⟨b, off, rfl, hlt, hc⟩ := q5 hn
    have HC := Lib.hid hc
    have hl0 : 0 < l.length := List.length_pos_iff.2 hn
    have hl1 : ((l.length : Int) == 0) = false := by rw [beq_eq_false_iff_ne]; omega
    have hli : ¬ l.length = 0 := by omega
    have e0 := ((below_made w (.cells (cellsA Blk.zero) 26)).cell (p := ⟨b, off, none⟩) hlt).trans (hc 0 hl0)
    have b0 := hby 0
    obtain ⟨t, ht⟩ : ∃ t, t = l.getD 0 0 := ⟨_, rfl⟩
    rw [← ht] at e0 b0
    unfold cellsA Blk.zero at e0
    by_cases h2 : 2 < t
    · rw [decF_big hn (by rw [← ht]; exact h2)]
      clear ht hc hn hby q5 HRow
      go_enter Tryd.func12, Tryd.ntmps12
      go_wp2
      refine bodyPost_ret (v := .tuple #[Blk.zero.agg, .int .i64 4]) (by simp [results, Tryd.results12, go_sem, new0_cell, Blk.zero, Blk.agg]) rfl ⟨rfl, below_made _ _⟩
    · have h2' : ¬ 2 < l.getD 0 0 := by rw [← ht]; exact h2
      have HSz := Lib.hid (fun W => refSize_any t W)
      obtain ⟨z, hz⟩ : ∃ z, z = szF t := ⟨_, rfl⟩
      rw [← hz] at HSz
      have hblk := heap_alloc_new w (.cells (cellsA Blk.zero) 26)
      have hbl0 := below_made w (.cells (cellsA Blk.zero) 26)
      have hz0 : w.heap.size < (w.alloc (.cells (cellsA Blk.zero) 26)).heap.size := by simp
      obtain ⟨o, ho⟩ : ∃ o, o = w.heap.size := ⟨_, rfl⟩
      have HKeep : Hid (∀ W, Below (w.alloc (.cells (cellsA Blk.zero) 26)).heap.size (w.alloc (.cells (cellsA Blk.zero) 26)) W → W.heap[w.heap.size]? = some (.cells (cellsA Blk.zero) 26 (0, 0)) ∧ Below w.heap.size w W) := fun W hb => ⟨(hb.block _ hz0).trans hblk, hbl0.trans (hb.mono hbl0.size)⟩
      unfold cellsA Blk.zero at HKeep
      by_cases hs : (l.length : Int) < z
      · rw [decF_short hn h2' (by rw [← ht, ← hz]; exact hs)]
        clear ht hc hn hby q5 HRow hz hblk hbl0 hz0 ho h2'
        go_enter Tryd.func12, Tryd.ntmps12
        go_wp2_with fail
        refine (HSz.out _).mono ?_
        rintro e w1 ⟨rfl, hb1⟩
        obtain ⟨hk1, hk2⟩ := HKeep.out w1 hb1
        have hk3 : w1.heap[w.heap.size]? = some (.cells (cellsA Blk.zero) 26 (0, 0)) := hk1
        obtain ⟨c0, c1, c2, c3, c4, c5, c6, c7, c8, c9, c10, c11⟩ := cells_of hk3
        have f := free_of hk3
        have f0 := f 0
        have f1 := f 1
        have f2 := f 2
        have f3 := f 3
        have f4 := f 4
        have f5 := f 5
        have f6 := f 6
        have f7 := f 7
        have f8 := f 8
        have f9 := f 9
        have f10 := f 10
        have f11 := f 11
        have HQ := Lib.hid (cells_of (s12_block hk3 Blk.zero))
        have HBz := Lib.hid (s12_below hk2 (Nat.le_refl _) Blk.zero)
        clear hb1 hk1 hk2 hk3 f
        go_wp2
        show bodyPost _ _ _ _ _ (S12 w1 w.heap.size Blk.zero)
        generalize S12 w1 w.heap.size Blk.zero = W at HQ HBz ⊢
        obtain ⟨q0, q1, q2, q3, q4, q5, q6, q7, q8, q9, q10, q11⟩ := HQ.out
        refine bodyPost_ret (v := .tuple #[Blk.zero.agg, .int .i64 3]) (by simp [results, Tryd.results12, go_sem, q0, q1, q2, q3, q4, q5, q6, q7, q8, q9, q10, q11, Blk.zero, Blk.agg]) rfl ⟨rfl, HBz.out⟩
      · rw [decF_rest hn h2' (by rw [← ht, ← hz]; exact hs)]
        have hs2 : szF t ≤ (l.length : Int) := by omega
        have ht3 : 0 ≤ t ∧ t ≤ 2 := by omega
        have hz8 := sz_bd ht3
        have hend := foldD_end hby (by rw [← ht]; omega) (by rw [← ht]; exact hs2)
        have HFit := Lib.hid (wh_fit ht3)
        have HW := Lib.hid (fun (k : Int) W => refWhere_any t k W)
        have HOk := Lib.hid (decB_ok hby)
        have HStep : Hid (∀ k, foldD l t (k + 1) = if 0 < (whF t k).2 then withB (foldD l t k) k (rdF l (whF t k).1.toNat (whF t k).2.toNat) else foldD l t k) := fun k => rfl
        have HZ : Hid (foldD l t 0 = Blk.zero) := rfl
        have HRd := Lib.hid (fun a n => rdF_bd hby a n)
        rw [← ht] at hend
        have e2 := hc 2 (by omega)
        have b2 := hby 2
        obtain ⟨x2, hx2⟩ : ∃ x2, x2 = l.getD 2 0 := ⟨_, rfl⟩
        rw [← hx2] at e2 b2 ⊢
        obtain ⟨FD, hFD⟩ : ∃ FD : Nat → Blk, FD = foldD l t := ⟨_, rfl⟩
        rw [← hFD] at HStep HZ hend
        obtain ⟨R, hR⟩ : ∃ R, R = decB l := ⟨_, rfl⟩
        rw [← hR] at hend HOk ⊢
        obtain ⟨P, hP⟩ : ∃ P, P = if 1 < x2 ∨ rightF R = false then (Blk.zero, (4 : Int)) else (R, 0) := ⟨_, rfl⟩
        rw [← hP]
        have HP1 : Hid (1 < x2 → P = (Blk.zero, 4)) := fun h => by rw [hP, if_pos (.inl h)]
        have HP2 : Hid (rightF R = false → P = (Blk.zero, 4)) := fun h => by rw [hP, if_pos (.inr h)]
        have HP3 : Hid (¬ 1 < x2 → rightF R = true → P = (R, 0)) := fun h h1 => by rw [hP, if_neg (by rw [h1]; simp [h])]
        clear hP
        have h3l : (2 : Int) < (l.length : Int) := by omega
        have HLt := Lib.hid hlt
        have HEnd := Lib.hid hend
        have HE2 := Lib.hid e2
        have HFit2 : Hid (∀ k : Nat, k < 12 → (whF t k).1 + (whF t k).2 ≤ (l.length : Int)) := fun k hk => by have := wh_fit ht3 k hk; omega
        clear hend hFD hR hx2 hs2 ht hc hn hby q5 hblk hbl0 ho h2' e2 hz
        go_enter Tryd.func12, Tryd.ntmps12
        go_wp2_with fail
        refine (HSz.out _).mono ?_
        rintro e w1 ⟨rfl, hb1⟩
        have HK1 : Hid (w1.heap[w.heap.size]? = some (.cells (cellsA Blk.zero) 26 (0, 0)) ∧ Below w.heap.size w w1) := HKeep.out w1 hb1
        clear hb1
        have hbo := heap_alloc_new w1 (.cells (cellsA Blk.zero) 26)
        have hbb := below_made w1 (.cells (cellsA Blk.zero) 26)
        obtain ⟨o, ho⟩ : ∃ o, o = w1.heap.size := ⟨_, rfl⟩
        have HNe : Hid (w.heap.size < o) := by unfold Hid; rw [ho]; exact lt_block HK1.out.1
        have HI0 : Hid ((w1.alloc (.cells (cellsA Blk.zero) 26)).heap[o]? = some (.cells (cellsA (FD 0)) 26 (0, 0)) ∧ (w1.alloc (.cells (cellsA Blk.zero) 26)).heap[w.heap.size]? = some (.cells (cellsA Blk.zero) 26 (0, 0)) ∧ Below w.heap.size w (w1.alloc (.cells (cellsA Blk.zero) 26))) :=
          ⟨by rw [HZ.out, ho]; exact hbo, (hbb.block _ (lt_block HK1.out.1)).trans HK1.out.1, HK1.out.2.trans (hbb.mono HK1.out.2.size)⟩
        clear hbo hbb HK1
        have ho1 := ho
        clear ho
        have HIb : Hid (∀ W V D, (W.heap[o]? = some (.cells (cellsA D) 26 (0, 0)) ∧ W.heap[w.heap.size]? = some (.cells (cellsA Blk.zero) 26 (0, 0)) ∧ Below w.heap.size w W) → Below W.heap.size W V → (V.heap[o]? = some (.cells (cellsA D) 26 (0, 0)) ∧ V.heap[w.heap.size]? = some (.cells (cellsA Blk.zero) 26 (0, 0)) ∧ Below w.heap.size w V)) :=
          fun W V D h hb => ⟨(hb.block _ (lt_block h.1)).trans h.1, (hb.block _ (lt_block h.2.1)).trans h.2.1, h.2.2.trans (hb.mono h.2.2.size)⟩
        have HIs : Hid (∀ W D E, (W.heap[o]? = some (.cells (cellsA D) 26 (0, 0)) ∧ W.heap[w.heap.size]? = some (.cells (cellsA Blk.zero) 26 (0, 0)) ∧ Below w.heap.size w W) → ((S12 W o E).heap[o]? = some (.cells (cellsA E) 26 (0, 0)) ∧ (S12 W o E).heap[w.heap.size]? = some (.cells (cellsA Blk.zero) 26 (0, 0)) ∧ Below w.heap.size w (S12 W o E))) :=
          fun W D E h => ⟨s12_block h.1 E, (s12_other _ _ _ _ (by have := HNe.out; omega)).trans h.2.1, s12_below h.2.2 (by have := HNe.out; omega) E⟩
        obtain ⟨In, hIn⟩ : ∃ In : World → Blk → Prop, In = fun W D => (W.heap[o]? = some (.cells (cellsA D) 26 (0, 0)) ∧ W.heap[w.heap.size]? = some (.cells (cellsA Blk.zero) 26 (0, 0)) ∧ Below w.heap.size w W) := ⟨_, rfl⟩
        have HInc : Hid (∀ W D, In W D → W.heap[o]? = some (.cells (cellsA D) 26 (0, 0)) ∧ W.heap[w.heap.size]? = some (.cells (cellsA Blk.zero) 26 (0, 0)) ∧ Below w.heap.size w W) := fun W D h => by rw [hIn] at h; exact h
        have HInb : Hid (∀ W V D, In W D → Below W.heap.size W V → In V D) := fun W V D h hb => by rw [hIn] at h ⊢; exact HIb.out W V D h hb
        have HIns : Hid (∀ W D E, In W D → In (S12 W o E) E) := fun W D E h => by rw [hIn] at h ⊢; exact HIs.out W D E h
        have HIn0 : Hid (In (w1.alloc (.cells (cellsA Blk.zero) 26)) (FD 0)) := by unfold Hid; rw [hIn]; exact HI0.out
        clear hIn HIb HIs HI0
        unfold cellsA Blk.zero at HIn0
        go_wp2
        rw [← ho1]
        clear ho1
        generalize w1.alloc _ = w3 at HIn0 ⊢
        go_loopw [6] (fun i wr => ∃ k : Nat, k ≤ 12 ∧ i = .int .i64 k ∧ Hid (In wr (FD k))) (fun i _ => 12 - (intOf i).toNat)
        case atStart => exact ⟨0, Nat.zero_le _, rfl, HIn0.out⟩
        case round =>
          obtain ⟨k, hk, rfl, HV⟩ := hrel
          by_cases hlt : k < 12
          · have hlt1 : (k : Int) < 12 := by omega
            have hfit := HFit.out k hlt
            have hfit2 := HFit2.out k hlt
            have hstep := HStep.out k
            have HWk := Lib.hid (HW.out k wr)
            obtain ⟨a, ha⟩ : ∃ a : Nat, (whF t k).1 = a := ⟨(whF t k).1.toNat, by omega⟩
            obtain ⟨n, hn⟩ : ∃ n : Nat, (whF t k).2 = n := ⟨(whF t k).2.toNat, by omega⟩
            rw [ha, hn] at HWk hfit hstep hfit2
            rw [Int.toNat_natCast, Int.toNat_natCast] at hstep
            clear ha hn
            by_cases hz : n = 0
            · subst hz
              rw [if_neg (by omega)] at hstep
              have HSt := Lib.hid hstep
              clear hstep hfit hfit2
              go_wp2_with fail
              refine HWk.out.mono ?_
              rintro e w4 ⟨rfl, hb4⟩
              have HV4 : Hid (In w4 (FD (k + 1))) := by rw [Hid, HSt.out]; exact HInb.out _ _ _ HV.out hb4
              clear hb4 HV
              go_wp2
              go_roundw
              case rel => exact ⟨k + 1, by omega, by go_num, HV4.out⟩
              case measure => simp [intOf]; omega
            · rw [if_pos (by omega)] at hstep
              have hn0 : (0 : Int) < (n : Int) := by omega
              have hy := HRd.out a n
              have hy1 : rdF l a n < 18446744073709551616 := by
                refine Int.lt_of_lt_of_le hy.2 ?_
                have e : ∀ k : Nat, (256 : Int) ^ k = ((256 ^ k : Nat) : Int) := fun k => by rw [Int.natCast_pow]; rfl
                rw [e]
                exact Int.ofNat_le.2 (Nat.le_trans (Nat.pow_le_pow_right (by decide) (show n ≤ 8 by omega)) (by decide))
              have hwi := fun W => refWith_any (FD k) k (rdF l a n) W hlt hy.1 hy1
              rw [← hstep] at hwi
              have htk := fun W (hb : Below w.heap.size w W) => refTaken_any _ l a n W (HRow.out.mono hb (Nat.le_refl _)) (by omega) (by omega) (by omega) (by omega)
              obtain ⟨y, hye⟩ : ∃ y, y = rdF l a n := ⟨_, rfl⟩
              obtain ⟨D, hD⟩ : ∃ D, D = FD k := ⟨_, rfl⟩
              obtain ⟨E, hE⟩ : ∃ E, E = FD (k + 1) := ⟨_, rfl⟩
              rw [← hye] at hwi htk
              rw [← hD, ← hE] at hwi
              rw [← hD] at HV
              have HTk := Lib.hid htk
              have HIE : Hid (∀ W, In W E → In W (FD (k + 1))) := fun W h => by rw [← hE]; exact h
              clear htk hye hD hE hstep hy hy1 hfit hfit2
              unfold Blk.agg at hwi
              have HWi := Lib.hid hwi
              clear hwi
              go_wp2_with fail
              refine HWk.out.mono ?_
              rintro e w4 ⟨rfl, hb4⟩
              have hI4 := HInb.out _ _ _ HV.out hb4
              have hbl4 := (HInc.out _ _ hI4).2.2
              obtain ⟨tag, cls, used, lab, name, next, prev, refs, exp, typ, size, hash⟩ := D
              obtain ⟨c0, c1, c2, c3, c4, c5, c6, c7, c8, c9, c10, c11⟩ := cells_of (HInc.out _ _ hI4).1
              simp only [] at c0 c1 c2 c3 c4 c5 c6 c7 c8 c9 c10 c11
              clear hb4 HV
              go_wp2_with fail
              go_region_with (first | (go_at_call 34; refine (HTk.out _ (by first | exact hbl4 | exact hbl4.drew | exact below_drewN hbl4 _)).mono ?_; rintro e w5 ⟨rfl, rfl⟩) | (go_at_call 33; refine (HWi.out _).mono ?_; rintro e w5 ⟨rfl, hb5⟩; have hI5 := HInb.out _ _ _ (HInb.out _ _ _ hI4 (by first | exact Below.refl _ _ | exact (Below.refl _ _).drew | exact below_drewN (Below.refl _ _) _)) hb5; obtain ⟨d0, d1, d2, d3, d4, d5, d6, d7, d8, d9, d10, d11⟩ := cells_of (HInc.out _ _ hI5).1; simp only [] at d0 d1 d2 d3 d4 d5 d6 d7 d8 d9 d10 d11; have g0 := free_of (HInc.out _ _ hI5).1 0; have g1 := free_of (HInc.out _ _ hI5).1 1; have g2 := free_of (HInc.out _ _ hI5).1 2; have g3 := free_of (HInc.out _ _ hI5).1 3; have g4 := free_of (HInc.out _ _ hI5).1 4; have g5 := free_of (HInc.out _ _ hI5).1 5; have g6 := free_of (HInc.out _ _ hI5).1 6; have g7 := free_of (HInc.out _ _ hI5).1 7; have g8 := free_of (HInc.out _ _ hI5).1 8; have g9 := free_of (HInc.out _ _ hI5).1 9; have g10 := free_of (HInc.out _ _ hI5).1 10; have g11 := free_of (HInc.out _ _ hI5).1 11; have HI6 := Lib.hid (HIns.out _ _ E hI5); clear hI5 hb5))
              all_goals
                show Exit.inBlock _ _ _ _ (S12 w5 o E)
                have HI7 := Lib.hid (HIE.out _ HI6.out)
                clear HI6
                generalize S12 w5 o E = w6 at HI7 ⊢
                go_wp2
                go_roundw
                case rel => exact ⟨k + 1, by omega, by go_num, HI7.out⟩
                case measure => simp [intOf]; omega
          · obtain rfl : k = 12 := by omega
            have hv := HV.out
            rw [HEnd.out] at hv
            have HV2 := Lib.hid hv
            have g2 := ((HInc.out _ _ hv).2.2.cell (p := ⟨b, off + 2, none⟩) (by first | assumption | exact HLt.out)).trans HE2.out
            clear hv HV
            by_cases hx : 1 < x2
            · have HPx := Lib.hid (HP1.out hx)
              have hk3 := (HInc.out _ _ HV2.out).2.1
              obtain ⟨c0, c1, c2, c3, c4, c5, c6, c7, c8, c9, c10, c11⟩ := cells_of hk3
              simp only [Blk.zero] at c0 c1 c2 c3 c4 c5 c6 c7 c8 c9 c10 c11
              have f0 := free_of hk3 0
              have f1 := free_of hk3 1
              have f2 := free_of hk3 2
              have f3 := free_of hk3 3
              have f4 := free_of hk3 4
              have f5 := free_of hk3 5
              have f6 := free_of hk3 6
              have f7 := free_of hk3 7
              have f8 := free_of hk3 8
              have f9 := free_of hk3 9
              have f10 := free_of hk3 10
              have f11 := free_of hk3 11
              have HQ := Lib.hid (cells_of (s12_block hk3 Blk.zero))
              have HBz := Lib.hid (s12_below (HInc.out _ _ HV2.out).2.2 (Nat.le_refl _) Blk.zero)
              clear hk3
              go_wp2
              show bodyPost _ _ _ _ _ (S12 wr w.heap.size Blk.zero)
              generalize S12 wr w.heap.size Blk.zero = W at HQ HBz ⊢
              obtain ⟨q0, q1, q2, q3, q4, q5, q6, q7, q8, q9, q10, q11⟩ := HQ.out
              refine bodyPost_ret (v := .tuple #[Blk.zero.agg, .int .i64 4]) (by simp [results, Tryd.results12, go_sem, q0, q1, q2, q3, q4, q5, q6, q7, q8, q9, q10, q11, Blk.zero, Blk.agg]) rfl ⟨by rw [HPx.out], HBz.out⟩
            · have hx' : decide (1 < x2) = false := by simpa using hx
              have hri := fun W => refRight_any R HOk.out W
              obtain ⟨rb, hrb⟩ : ∃ rb, rb = rightF R := ⟨_, rfl⟩
              rw [← hrb] at hri HP2 HP3
              have HP4 := Lib.hid (HP3.out (by omega))
              clear hrb HP3
              unfold Blk.agg at hri
              have HRi := Lib.hid hri
              clear hri
              obtain ⟨p0, p1, p2, p3, p4, p5, p6, p7, p8, p9, p10, p11⟩ := cells_of (HInc.out _ _ HV2.out).1
              by_cases hrr : rb = true
              · subst hrr
                have HPx := Lib.hid (HP4.out rfl)
                go_wp2_with fail
                refine (HRi.out _).mono ?_
                rintro e w5 ⟨rfl, hb5⟩
                have HV5 := Lib.hid (HInb.out _ _ _ HV2.out hb5)
                clear hb5 p0 p1 p2 p3 p4 p5 p6 p7 p8 p9 p10 p11 HV2
                obtain ⟨p0, p1, p2, p3, p4, p5, p6, p7, p8, p9, p10, p11⟩ := cells_of (HInc.out _ _ HV5.out).1
                have hk3 := (HInc.out _ _ HV5.out).2.1
                obtain ⟨c0, c1, c2, c3, c4, c5, c6, c7, c8, c9, c10, c11⟩ := cells_of hk3
                simp only [Blk.zero] at c0 c1 c2 c3 c4 c5 c6 c7 c8 c9 c10 c11
                have f0 := free_of hk3 0
                have f1 := free_of hk3 1
                have f2 := free_of hk3 2
                have f3 := free_of hk3 3
                have f4 := free_of hk3 4
                have f5 := free_of hk3 5
                have f6 := free_of hk3 6
                have f7 := free_of hk3 7
                have f8 := free_of hk3 8
                have f9 := free_of hk3 9
                have f10 := free_of hk3 10
                have f11 := free_of hk3 11
                have HQ := Lib.hid (cells_of (s12_block hk3 R))
                have HBz := Lib.hid (s12_below (HInc.out _ _ HV5.out).2.2 (Nat.le_refl _) R)
                clear hk3
                go_wp2
                show bodyPost _ _ _ _ _ (S12 w5 w.heap.size R)
                generalize S12 w5 w.heap.size R = W at HQ HBz ⊢
                obtain ⟨q0, q1, q2, q3, q4, q5, q6, q7, q8, q9, q10, q11⟩ := HQ.out
                refine bodyPost_ret (v := .tuple #[R.agg, .int .i64 0]) (by simp [results, Tryd.results12, go_sem, q0, q1, q2, q3, q4, q5, q6, q7, q8, q9, q10, q11, Blk.agg]) rfl ⟨by rw [HPx.out], HBz.out⟩
              · obtain rfl : rb = false := by simpa using hrr
                have HPx := Lib.hid (HP2.out rfl)
                go_wp2_with fail
                refine (HRi.out _).mono ?_
                rintro e w5 ⟨rfl, hb5⟩
                have HV5 := Lib.hid (HInb.out _ _ _ HV2.out hb5)
                clear hb5 p0 p1 p2 p3 p4 p5 p6 p7 p8 p9 p10 p11 HV2
                have hk3 := (HInc.out _ _ HV5.out).2.1
                obtain ⟨c0, c1, c2, c3, c4, c5, c6, c7, c8, c9, c10, c11⟩ := cells_of hk3
                simp only [Blk.zero] at c0 c1 c2 c3 c4 c5 c6 c7 c8 c9 c10 c11
                have f0 := free_of hk3 0
                have f1 := free_of hk3 1
                have f2 := free_of hk3 2
                have f3 := free_of hk3 3
                have f4 := free_of hk3 4
                have f5 := free_of hk3 5
                have f6 := free_of hk3 6
                have f7 := free_of hk3 7
                have f8 := free_of hk3 8
                have f9 := free_of hk3 9
                have f10 := free_of hk3 10
                have f11 := free_of hk3 11
                have HQ := Lib.hid (cells_of (s12_block hk3 Blk.zero))
                have HBz := Lib.hid (s12_below (HInc.out _ _ HV5.out).2.2 (Nat.le_refl _) Blk.zero)
                clear hk3
                go_wp2
                show bodyPost _ _ _ _ _ (S12 w5 w.heap.size Blk.zero)
                generalize S12 w5 w.heap.size Blk.zero = W at HQ HBz ⊢
                obtain ⟨q0, q1, q2, q3, q4, q5, q6, q7, q8, q9, q10, q11⟩ := HQ.out
                refine bodyPost_ret (v := .tuple #[Blk.zero.agg, .int .i64 4]) (by simp [results, Tryd.results12, go_sem, q0, q1, q2, q3, q4, q5, q6, q7, q8, q9, q10, q11, Blk.zero, Blk.agg]) rfl ⟨by rw [HPx.out], HBz.out⟩
end Go.Proofs.YtkknegnipodcnaaDoor.Hea
