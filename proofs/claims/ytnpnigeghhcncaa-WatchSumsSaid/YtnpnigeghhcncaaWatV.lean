/- Acts on watches, as they come in as arguments. -/
import Derived.Test.YtnpnigeghhcncaaWatH
import Derived.Test.YtnpnigeghhcncaaKit12
import Derived.Test.YtnpnigeghhcncaaArnV
namespace Go.Proofs.Ytnpnigeghhcncaa.Wat
open Go.RowKit Num Arn
set_option linter.unusedVariables false

structure Act where
  k : Int
  at_ : Int
  n : Int
  o : Int
def Act.zero : Act := ⟨0, 0, 0, 0⟩
def Act.cells (x : Act) : List Value := [.int .i64 x.k, .int .i64 x.at_, .int .i64 x.n, .int .i64 x.o]
def Act.agg (x : Act) : Value := .agg #[.int .i64 x.k, .int .i64 x.at_, .int .i64 x.n, .int .i64 x.o]
def ActR (w : World) (cs : List Value) (x : Act) : Prop := cs = x.cells ∧ is64 x.k ∧ is64 x.at_ ∧ is64 x.n ∧ is64 x.o
theorem actR_stays : GStays ActR := fun _ _ _ _ _ h _ _ => h
abbrev ActRow := GRow 4 ActR Act.zero

theorem act_cells {H : Type} {enc : TypeId × Value → H} {w : World} {base : Nat} {spare : Nat → Bool} {held : Bool} {n : Nat} {cs : List Value} {y : DataW H × List MemPlace}
    (h : DataW.trod enc Try.prog w base spare held n 29 cs = some y) : ∃ x, ActR w cs x := by
  obtain ⟨xs, n', -, -, hlen, hxs, hf⟩ := DataW.trod_struct Try.underlying29 h
  have h4 : cs.length = 4 := hlen.trans (by kernel_rfl)
  have x4 : xs.length = 4 := hxs
  match cs, h4, xs, x4 with
  | [c0, c1, c2, c3], _, [y0, y1, y2, y3], _ =>
    have f0 : DataW.trod enc Try.prog w base spare held n' 3 (([c0, c1, c2, c3].drop 0).take (Try.prog.cellsOf 3)) = [y0, y1, y2, y3][0]? := hf 0 _ rfl
    have f1 : DataW.trod enc Try.prog w base spare held n' 3 (([c0, c1, c2, c3].drop 1).take (Try.prog.cellsOf 3)) = [y0, y1, y2, y3][1]? := hf 1 _ rfl
    have f2 : DataW.trod enc Try.prog w base spare held n' 3 (([c0, c1, c2, c3].drop 2).take (Try.prog.cellsOf 3)) = [y0, y1, y2, y3][2]? := hf 2 _ rfl
    have f3 : DataW.trod enc Try.prog w base spare held n' 3 (([c0, c1, c2, c3].drop 3).take (Try.prog.cellsOf 3)) = [y0, y1, y2, y3][3]? := hf 3 _ rfl
    have q1 : Try.prog.cellsOf 3 = 1 := by kernel_rfl
    rw [q1] at f0 f1 f2 f3
    simp only [List.drop, List.take, List.getElem?_cons_zero, List.getElem?_cons_succ] at f0 f1 f2 f3
    obtain ⟨k0, e0, -, w0⟩ := DataW.trod_int Try.underlying3 f0
    obtain ⟨k1, e1, -, w1⟩ := DataW.trod_int Try.underlying3 f1
    obtain ⟨k2, e2, -, w2⟩ := DataW.trod_int Try.underlying3 f2
    obtain ⟨k3, e3, -, w3⟩ := DataW.trod_int Try.underlying3 f3
    simp at e0 e1 e2 e3
    subst e0 e1 e2 e3
    exact ⟨⟨k0, k1, k2, k3⟩, rfl, is64_wf w0, is64_wf w1, is64_wf w2, is64_wf w3⟩
theorem open_acts {H : Type} {enc : TypeId × Value → H} {w : World} {base : Nat} {spare : Nat → Bool} {held : Bool} {r : Reach} {b0 : Nat} {v : Value} {d : DataW H} {p : List MemPlace}
    (hval : Value.okWide Try.prog w r b0 22 v) (h : DataW.Trod enc Try.prog w base spare held 22 v d p) : ∃ x : Value × List Act, v = x.1 ∧ ActRow w x.1 x.2 := by
  obtain ⟨a, len, cap, rfl⟩ := WideShapes.okWide_slice Try.underlying22 hval
  obtain ⟨fuel, hf⟩ := h
  obtain ⟨L, -, hrow⟩ := open_grow Act.zero Try.underlying22 (show Try.prog.cellsOf 29 = 4 by kernel_rfl) (by omega) (fun n cs y hy => act_cells hy) hf
  exact ⟨(_, L), rfl, hrow⟩
theorem act_shape {w : World} {v : Value} {r : Reach} {b0 : Nat} {H : Type} {enc : TypeId × Value → H} {base : Nat} {spare : Nat → Bool} {held : Bool} {d : DataW H} {p : List MemPlace}
    (hval : Value.okWide Try.prog w r b0 29 v) (h : DataW.Trod enc Try.prog w base spare held 29 v d p) : ∃ x : Act, v = x.agg ∧ ActR w x.cells x := by
  obtain ⟨cs, rfl, hsz⟩ := WideShapes.okWide_struct Try.underlying29 hval
  obtain ⟨fuel, hf⟩ := h
  obtain ⟨x, hx⟩ := act_cells hf
  refine ⟨x, ?_, rfl, hx.2⟩
  have hc := hx.1
  have : cs.toList = x.cells := by simpa [Value.cells] using hc
  rw [← Array.toArray_toList (xs := cs), this]
  rfl
end Go.Proofs.Ytnpnigeghhcncaa.Wat
