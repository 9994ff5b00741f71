/- Contracts of the landed functions of records: own, Clone, readEnds, filled, and what they call of the library. -/
import Derived.Test.YtbjdlfeipidlbaaRecP
import Derived.Test.YtbjdlfeipidlbaaRecQ
namespace Go.Proofs.Ytbjdlfeipidlbaa.Rec
open Go.RowKit
set_option linter.unusedVariables false

theorem madeCells_one (z : Value) (n : Nat) : madeCells #[z] n = (List.replicate n z).toArray := by
  apply Array.ext
  · simp [madeCells]
  · intro i h1 h2
    simp [madeCells, Nat.mod_one]

/-- A row of cells at a block's head, none of them frozen. -/
def CellsAt (w : World) (h n : Nat) (V : Nat → Value) : Prop := h < w.heap.size ∧ ∀ i, i < n → w.cell? ⟨h, i, none⟩ = some (V i) ∧ w.frozen? ⟨h, i, none⟩ = false
theorem CellsAt.mono {w w' : World} {h n : Nat} {V : Nat → Value} {B : Nat} (k : CellsAt w h n V) (hb : Below B w w') (hB : w.heap.size ≤ B) : CellsAt w' h n V :=
  ⟨Nat.lt_of_lt_of_le k.1 hb.size, fun i hi => ⟨(hb.cell (p := ⟨h, i, none⟩) (by have := k.1; simp only []; omega)).trans (k.2 i hi).1, (hb.frozen (p := ⟨h, i, none⟩) (by have := k.1; simp only []; omega)).trans (k.2 i hi).2⟩⟩
theorem CellsAt.set {w : World} {h n : Nat} {V : Nat → Value} (k : CellsAt w h n V) (j : Nat) (hj : j < n) (u : Value) : CellsAt (w.setCell ⟨h, j, none⟩ u) h n (fun i => if i = j then u else V i) := by
  refine ⟨by simpa using k.1, fun i hi => ⟨?_, by rw [World.frozen?_setCell]; exact (k.2 i hi).2⟩⟩
  by_cases e : i = j
  · subst e
    simp only [if_pos rfl]
    exact World.cell?_setCell_same _ _ _ (k.2 i hi).1
  · simp only [if_neg e]
    rw [World.cell?_setCell_other _ _ _ _ (by intro h; injection h with _ h2 _; exact e h2.symm)]
    exact (k.2 i hi).1
theorem CellsAt.made (w : World) (z : Value) (n : Nat) (t : TypeId) : CellsAt (w.alloc (.cells (madeCells #[z] n) t)) w.heap.size n (fun _ => z) := by
  refine ⟨by rw [size_alloc]; omega, fun i hi => ⟨?_, by simp⟩⟩
  rw [cell_block (heap_alloc_new w _), madeCells_one]
  simp [hi]
theorem CellsAt.ext {w : World} {h n : Nat} {V V' : Nat → Value} (k : CellsAt w h n V) (e : ∀ i, i < n → V i = V' i) : CellsAt w h n V' := ⟨k.1, fun i hi => by rw [← e i hi]; exact k.2 i hi⟩

theorem wf_bytes {l : List Int} (h : ∀ i, 0 ≤ l.getD i 0 ∧ l.getD i 0 < 256) (i : Nat) : (Lit.int .u8 (l.getD i 0)).wf = true := by
  have := h i
  exact WalkArith.wf_u8 (by omega)
theorem WRow.made (w : World) (l : List Int) (t : TypeId) (hb : ∀ i, 0 ≤ l.getD i 0 ∧ l.getD i 0 < 256) (hn : l.length ≤ 9223372036854775807) : WRow w.heap.size (w.alloc (.cells (vals l).toArray t)) (.slice (some ⟨w.heap.size, 0, none⟩) l.length l.length) l := by
  refine ⟨Row.made w l t _ rfl (fun i _ => wf_bytes hb i) hn, ?_⟩
  intro b off n cap e hne
  injection e with e _ _
  injection e with e
  injection e with e1 e2 _
  subst e1 e2
  exact ⟨Nat.le_refl _, fun i hi => by rw [Nat.zero_add]; simp⟩
theorem WRow.mono {B : Nat} {w w' : World} {v : Value} {l : List Int} {C : Nat} (h : WRow B w v l) (hb : Below C w w') (hC : w.heap.size ≤ C) : WRow B w' v l := by
  refine ⟨h.1.mono hb hC, ?_⟩
  intro b off n cap e hne
  obtain ⟨h1, h2⟩ := h.2 b off n cap e hne
  obtain ⟨k, e2, hk⟩ := h.1.block hne
  rw [e] at e2
  simp only [Value.ownBlock, Option.some.injEq] at e2
  subst e2
  exact ⟨h1, fun i hi => (hb.frozen (p := ⟨b, off + i, none⟩) (by simp only []; omega)).trans (h2 i hi)⟩
theorem WRow.less {B B' : Nat} {w : World} {v : Value} {l : List Int} (h : WRow B w v l) (hB : B' ≤ B) : WRow B' w v l :=
  ⟨h.1, fun b off n cap e hne => ⟨Nat.le_trans hB (h.2 b off n cap e hne).1, (h.2 b off n cap e hne).2⟩⟩
theorem WRow.set_far {B : Nat} {w : World} {v : Value} {l : List Int} {h j : Nat} {u : Value} (k : WRow B w v l) (hB : h < B) : WRow B (w.setCell ⟨h, j, none⟩ u) v l := by
  refine ⟨Row.set_far k.1 (fun hne e => ?_), fun b off n cap e hne => ?_⟩
  · obtain ⟨a, c, rfl, -, -, -, h5⟩ := k.1
    obtain ⟨b, off, rfl, -, -⟩ := h5 hne
    have h1 := (k.2 b off _ _ rfl hne).1
    simp only [Value.ownBlock, Option.some.injEq] at e
    omega
  · obtain ⟨h1, h2⟩ := k.2 b off n cap e hne
    exact ⟨h1, fun i hi => by rw [World.frozen?_setCell]; exact h2 i hi⟩

/-- A header of n rows, the first k of which are there. -/
def Part (B : Nat) (w : World) (h n k : Nat) (U : Nat → Value) (L : List (List Int)) : Prop := B ≤ h ∧ CellsAt w h n U ∧ ∀ i, i < k → WRow (h + 1) w (U i) (L.getD i [])
theorem Part.step {B : Nat} {w : World} {h n k : Nat} {U : Nat → Value} {L : List (List Int)} (p : Part B w h n k U L) (hk : k < n) (x : List Int) (hx : x = L.getD k []) (hb : ∀ i, 0 ≤ x.getD i 0 ∧ x.getD i 0 < 256) (hn : x.length ≤ 9223372036854775807) (t : TypeId) :
    Part B ((w.alloc (.cells (vals x).toArray t)).setCell ⟨h, k, none⟩ (.slice (some ⟨w.heap.size, 0, none⟩) x.length x.length)) h n (k + 1) (fun i => if i = k then .slice (some ⟨w.heap.size, 0, none⟩) x.length x.length else U i) L := by
  obtain ⟨p1, p2, p3⟩ := p
  have hlt := p2.1
  have hal := below_made w (.cells (vals x).toArray t)
  refine ⟨p1, (p2.mono hal (Nat.le_refl _)).set k hk _, fun i hi => ?_⟩
  by_cases e : i = k
  · subst e
    simp only [if_pos rfl]
    rw [← hx]
    exact ((WRow.made w x t hb hn).less (by omega)).set_far (by omega)
  · simp only [if_neg e]
    exact ((p3 i (by omega)).mono hal (Nat.le_refl _)).set_far (by omega)
theorem Part.row {B : Nat} {w : World} {h : Nat} {U : Nat → Value} {L : List (List Int)} (p : Part B w h L.length L.length U L) (hn : L.length ≤ 9223372036854775807) : WLRow B w (.slice (some ⟨h, 0, none⟩) L.length L.length) L := by
  obtain ⟨p1, p2, p3⟩ := p
  exact ⟨_, _, U, rfl, Nat.le_refl _, hn, fun i hi => (p3 i hi).less (by omega), fun _ => ⟨h, 0, rfl, p2.1, fun i hi => by rw [Nat.zero_add]; exact (p2.2 i hi).1⟩⟩

set_option maxRecDepth 100000 in
theorem own_any (v : Value) (l : List Int) (w : World) (hr : Row .u8 w v l) (h : l.length ≤ 1000000000) :
    Calls Try.prog 34 #[v] w fun e w' => e = .returned (.slice (some ⟨w.heap.size, 0, none⟩) l.length l.length) ∧ w' = w.alloc (.cells (vals l).toArray 5) := by
  obtain ⟨i0, hi, hz0, hz1, hz2⟩ := info_parts infoB
  have HB := Lib.hid hr.bytes
  obtain ⟨a, cap, rfl, q2, q3, q4, q5⟩ := hr
  have HQ := Lib.hid q5
  clear q4 q5
  by_cases hn : l = []
  · subst hn
    have H0 : Hid (w.alloc (.cells (madeCells #[.int .u8 0] 0) 5) = w.alloc (.cells (vals []).toArray 5)) := by
      unfold Hid; rw [madeCells_one]; rfl
    go_enter Try.func34, Try.ntmps34
    go_wp2_with (first | (refine wpList_make_row rfl (.tmp 5) (.tmp 5) 22 rfl 5 i0 (.int .u8 0) 1 Try.underlying22 hi hz0 hz1 hz2 .i64 .i64 0 rfl rfl (by omega) (by omega) ?_) | (refine wpList_copy_nothing rfl (.tmp 7) (.tmp 8) 22 22 rfl 5 Try.underlying22 (by kernel_rfl) _ _ _ _ _ _ rfl rfl rfl ?_))
    go_wp2
    go_ret
    exact ⟨rfl, H0.out⟩
  · obtain ⟨b, off, rfl, hlb, hc⟩ := HQ.out hn
    have HN : Hid ((w.alloc (.cells (madeCells #[.int .u8 0] l.length) 5)).setRow w.heap.size (vals l).toArray = w.alloc (.cells (vals l).toArray 5)) := setRow_alloc _ _ _ _
    have HS : Hid (∀ j u, (vals l)[j]? = some u → (w.alloc (.cells (madeCells #[.int .u8 0] l.length) 5)).cell? ((⟨b, off, none⟩ : Addr).add j) = some u) := by
      intro j u hj
      obtain ⟨hj2, -⟩ := List.getElem?_eq_some_iff.1 hj
      rw [vals_length] at hj2
      rw [vals_get _ _ hj2] at hj
      rw [Addr_add, ← hj]
      exact ((below_made w _).cell (p := ⟨b, off + j, none⟩) hlb).trans (hc j hj2)
    have HR : Hid (((madeCells #[.int .u8 0] l.length).toList.take 0 ++ (vals l ++ (madeCells #[.int .u8 0] l.length).toList.drop (0 + (vals l).length))).toArray = (vals l).toArray) := by
      have : (madeCells #[Value.int .u8 0] l.length).toList.length = l.length := by simp [size_madeCells1]
      unfold Hid
      rw [List.drop_eq_nil_of_le (by rw [this, vals_length]; omega)]
      simp
    have HF : Hid (0 + (vals l).length ≤ (madeCells #[Value.int .u8 0] l.length).size) := by unfold Hid; rw [vals_length, size_madeCells1]; omega
    have HL : Hid ((vals l).length = Nat.min l.length l.length) := by unfold Hid; rw [vals_length]; simp
    clear hc hn
    go_enter Try.func34, Try.ntmps34
    go_wp2_with (first | (refine wpList_make_row rfl (.tmp 5) (.tmp 5) 22 rfl 5 i0 (.int .u8 0) 1 Try.underlying22 hi hz0 hz1 hz2 .i64 .i64 l.length rfl rfl (by omega) (by omega) ?_) | (refine wpList_copy_row rfl (.tmp 7) (.tmp 8) 22 22 rfl 5 Try.underlying22 (by kernel_rfl) w.heap.size 0 l.length l.length ⟨b, off, none⟩ l.length cap rfl rfl (madeCells #[.int .u8 0] l.length) 5 (heap_alloc_new w _) (vals l) HL.out HS.out HF.out (vals_one l) (vals l).toArray HR.out _ HN.out ?_))
    go_wp2
    go_ret
    exact ⟨rfl, rfl⟩

theorem dat_getD (L : List (List Int)) (k : Nat) (h : k < L.length) : (L.getD k []).length ≤ dat L := dat_get L k h

end Go.Proofs.Ytbjdlfeipidlbaa.Rec
