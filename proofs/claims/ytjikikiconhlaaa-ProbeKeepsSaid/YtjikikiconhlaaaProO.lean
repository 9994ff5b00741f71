/- Slices of cells that came in read as tables. -/
import Derived.Test.YtjikikiconhlaaaProS
import Derived.Test.YtjikikiconhlaaaKit12
namespace Go.Proofs.Ytjikikiconhlaaa.Pro
open Go.RowKit
set_option linter.unusedVariables false

def CellR (w : World) (cs : List Value) (x : Cel) : Prop := cs = encC x ∧ wu x.1
/-- A table as it comes in. -/
def CArg (w : World) (v : Value) (T : List Cel) : Prop := CRow w v T ∧ ∀ c ∈ T, wu c.1
set_option maxRecDepth 100000 in
theorem cell_args {H : Type} {enc : TypeId × Value → H} {w : World} {base : Nat} {spare : Nat → Bool} {held : Bool} {n : Nat} {cs : List Value} {y : DataW H × List MemPlace}
    (h : DataW.trod enc Try.prog w base spare held n 51 cs = some y) : ∃ x, CellR w cs x := by
  obtain ⟨xs, n', -, -, hlen, hxs, hf⟩ := DataW.trod_struct Try.underlying51 h
  have h4 : cs.length = 2 := hlen.trans (by kernel_rfl)
  have x4 : xs.length = 2 := hxs
  match cs, h4, xs, x4 with
  | [c0, c1], _, [y0, y1], _ =>
    have f0 : DataW.trod enc Try.prog w base spare held n' 23 (([c0, c1].drop 0).take (Try.prog.cellsOf 23)) = [y0, y1][0]? := hf 0 _ rfl
    have f1 : DataW.trod enc Try.prog w base spare held n' 3 (([c0, c1].drop 1).take (Try.prog.cellsOf 3)) = [y0, y1][1]? := hf 1 _ rfl
    have q1 : Try.prog.cellsOf 3 = 1 := by kernel_rfl
    have q2 : Try.prog.cellsOf 23 = 1 := by kernel_rfl
    rw [q1] at f1
    rw [q2] at f0
    simp only [List.drop, List.take, List.getElem?_cons_zero, List.getElem?_cons_succ] at f0 f1
    obtain ⟨k0, e0, -, w0⟩ := DataW.trod_int Try.underlying23 f0
    obtain ⟨k1, e1, -, w1⟩ := DataW.trod_int Try.underlying3 f1
    simp at e0 e1
    subst e0 e1
    exact ⟨(k0, k1), rfl, w0⟩
theorem carg_of {w : World} {v : Value} {T : List Cel} (h : GRow 2 CellR (0, 0) w v T) : CArg w v T := by
  obtain ⟨a, cap, U, h1, h2, h3, h4, h5⟩ := h
  refine ⟨⟨a, cap, h1, h2, h3, fun hne => ?_⟩, fun c hc => ?_⟩
  · obtain ⟨b, off, e, hlt, hc⟩ := h5 hne
    refine ⟨b, off, e, hlt, fun i hi j x hx => hc i hi j x ?_⟩
    rw [(h4 i hi).2.1]
    exact hx
  · obtain ⟨i, hi, rfl⟩ := List.getElem_of_mem hc
    have := (h4 i hi).2.2
    simpa [List.getD, hi] using this
set_option maxRecDepth 100000 in
theorem open_cells {H : Type} {enc : TypeId × Value → H} {w : World} {base : Nat} {spare : Nat → Bool} {held : Bool} {r : Reach} {b0 : Nat} {v : Value} {d : DataW H} {p : List MemPlace}
    (hval : Value.okWide Try.prog w r b0 22 v) (h : DataW.Trod enc Try.prog w base spare held 22 v d p) : ∃ x : Value × List Cel, v = x.1 ∧ CArg w x.1 x.2 := by
  obtain ⟨a, len, cap, rfl⟩ := WideShapes.okWide_slice Try.underlying22 hval
  obtain ⟨fuel, hf⟩ := h
  obtain ⟨L, -, hrow⟩ := open_grow ((0, 0) : Cel) Try.underlying22 (show Try.prog.cellsOf 51 = 2 by kernel_rfl) (by omega) (fun n cs y hy => cell_args hy) hf
  exact ⟨(_, L), rfl, carg_of hrow⟩

/-- An act: out or in, and the cell. -/
abbrev Ac := Bool × Cel
def encA (a : Ac) : List Value := [.bool a.1, .int .u32 a.2.1, .int .i64 a.2.2]
theorem encA_len (a : Ac) : (encA a).length = 3 := rfl
def IRow (w : World) (v : Value) (L : List Ac) : Prop := ARow 3 encA (false, 0, 0) w v L
def ga (L : List Ac) (i : Nat) : Ac := L.getD i (false, 0, 0)
theorem IRow.mono {w w' : World} {v : Value} {L : List Ac} {B : Nat} (h : IRow w v L) (hb : Below B w w') (hB : w.heap.size ≤ B) : IRow w' v L := ARow.mono h hb hB
theorem IRow.open {w : World} {v : Value} {L : List Ac} (h : IRow w v L) (hne : 0 < L.length) : ∃ b off c, v = .slice (some ⟨b, off, none⟩) L.length c ∧ L.length ≤ c ∧ c ≤ 9223372036854775807 ∧ b < w.heap.size ∧
    ∀ i, i < L.length → w.cell? ⟨b, off + i * 3, none⟩ = some (.bool (ga L i).1) ∧ w.cell? ⟨b, off + i * 3 + 1, none⟩ = some (.int .u32 (ga L i).2.1) ∧ w.cell? ⟨b, off + i * 3 + 2, none⟩ = some (.int .i64 (ga L i).2.2) := by
  obtain ⟨a, cap, rfl, h2, h3, h5⟩ := h
  obtain ⟨b, off, rfl, hlt, hc⟩ := h5 (by rintro rfl; simp at hne)
  exact ⟨b, off, cap, rfl, h2, h3, hlt, fun i hi => ⟨hc i hi 0 _ rfl, hc i hi 1 _ rfl, hc i hi 2 _ rfl⟩⟩
theorem IRow.slice {w : World} {v : Value} {L : List Ac} (h : IRow w v L) : ∃ a c, v = .slice a L.length c ∧ L.length ≤ c ∧ c ≤ 9223372036854775807 := by
  obtain ⟨a, cap, h1, h2, h3, h5⟩ := h
  exact ⟨a, cap, h1, h2, h3⟩
def AcR (w : World) (cs : List Value) (x : Ac) : Prop := cs = encA x ∧ wu x.2.1
/-- Acts as they come in. -/
def AArg (w : World) (v : Value) (L : List Ac) : Prop := IRow w v L ∧ ∀ a ∈ L, wu a.2.1
set_option maxRecDepth 100000 in
theorem act_args {H : Type} {enc : TypeId × Value → H} {w : World} {base : Nat} {spare : Nat → Bool} {held : Bool} {n : Nat} {cs : List Value} {y : DataW H × List MemPlace}
    (h : DataW.trod enc Try.prog w base spare held n 45 cs = some y) : ∃ x, AcR w cs x := by
  obtain ⟨xs, n', -, -, hlen, hxs, hf⟩ := DataW.trod_struct Try.underlying45 h
  have h4 : cs.length = 3 := hlen.trans (by kernel_rfl)
  have x4 : xs.length = 3 := hxs
  match cs, h4, xs, x4 with
  | [c0, c1, c2], _, [y0, y1, y2], _ =>
    have f0 : DataW.trod enc Try.prog w base spare held n' 4 (([c0, c1, c2].drop 0).take (Try.prog.cellsOf 4)) = [y0, y1, y2][0]? := hf 0 _ rfl
    have f1 : DataW.trod enc Try.prog w base spare held n' 23 (([c0, c1, c2].drop 1).take (Try.prog.cellsOf 23)) = [y0, y1, y2][1]? := hf 1 _ rfl
    have f2 : DataW.trod enc Try.prog w base spare held n' 3 (([c0, c1, c2].drop 2).take (Try.prog.cellsOf 3)) = [y0, y1, y2][2]? := hf 2 _ rfl
    have q0 : Try.prog.cellsOf 4 = 1 := by kernel_rfl
    have q1 : Try.prog.cellsOf 3 = 1 := by kernel_rfl
    have q2 : Try.prog.cellsOf 23 = 1 := by kernel_rfl
    rw [q0] at f0
    rw [q2] at f1
    rw [q1] at f2
    simp only [List.drop, List.take, List.getElem?_cons_zero, List.getElem?_cons_succ] at f0 f1 f2
    obtain ⟨k0, e0, -⟩ := DataW.trod_bool Try.underlying4 f0
    obtain ⟨k1, e1, -, w1⟩ := DataW.trod_int Try.underlying23 f1
    obtain ⟨k2, e2, -, w2⟩ := DataW.trod_int Try.underlying3 f2
    simp at e0 e1 e2
    subst e0 e1 e2
    exact ⟨(k0, k1, k2), rfl, w1⟩
theorem aarg_of {w : World} {v : Value} {L : List Ac} (h : GRow 3 AcR (false, 0, 0) w v L) : AArg w v L := by
  obtain ⟨a, cap, U, h1, h2, h3, h4, h5⟩ := h
  refine ⟨⟨a, cap, h1, h2, h3, fun hne => ?_⟩, fun c hc => ?_⟩
  · obtain ⟨b, off, e, hlt, hc⟩ := h5 hne
    refine ⟨b, off, e, hlt, fun i hi j x hx => hc i hi j x ?_⟩
    rw [(h4 i hi).2.1]
    exact hx
  · obtain ⟨i, hi, rfl⟩ := List.getElem_of_mem hc
    have := (h4 i hi).2.2
    simpa [List.getD, hi] using this
set_option maxRecDepth 100000 in
theorem open_acts {H : Type} {enc : TypeId × Value → H} {w : World} {base : Nat} {spare : Nat → Bool} {held : Bool} {r : Reach} {b0 : Nat} {v : Value} {d : DataW H} {p : List MemPlace}
    (hval : Value.okWide Try.prog w r b0 43 v) (h : DataW.Trod enc Try.prog w base spare held 43 v d p) : ∃ x : Value × List Ac, v = x.1 ∧ AArg w x.1 x.2 := by
  obtain ⟨a, len, cap, rfl⟩ := WideShapes.okWide_slice Try.underlying43 hval
  obtain ⟨fuel, hf⟩ := h
  obtain ⟨L, -, hrow⟩ := open_grow ((false, 0, 0) : Ac) Try.underlying43 (show Try.prog.cellsOf 45 = 3 by kernel_rfl) (by omega) (fun n cs y hy => act_args hy) hf
  exact ⟨(_, L), rfl, aarg_of hrow⟩
end Go.Proofs.Ytjikikiconhlaaa.Pro
