/- Heads, as they come in as arguments. -/
import Derived.Test.YtkknegnipodcnaaDoorHeaM
import Derived.Test.YtkknegnipodcnaaDoorKit12
namespace Go.Proofs.YtkknegnipodcnaaDoor.Hea
open Go.RowKit Num
set_option linter.unusedVariables false

theorem i64_wf {n : Int} (h : (Lit.int .i64 n).wf = true) : i64 n := by have := bounds_i64 h; unfold i64; omega
theorem u32_wf {n : Int} (h : (Lit.int .u32 n).wf = true) : u32 n := by have := bounds_u32 h; unfold u32; omega
theorem u64_wf {n : Int} (h : (Lit.int .u64 n).wf = true) : u64 n := by have := bounds_u64 h; unfold u64; omega
theorem u16_wf {n : Int} (h : (Lit.int .u16 n).wf = true) : u16 n := by have := bounds_u16 h; unfold u16; omega
theorem list12 {α : Type} {l : List α} (h : l.length = 12) : ∃ a0 a1 a2 a3 a4 a5 a6 a7 a8 a9 a10 a11, l = [a0, a1, a2, a3, a4, a5, a6, a7, a8, a9, a10, a11] := by
  obtain _ | ⟨a0, l⟩ := l
  · simp at h
  obtain _ | ⟨a1, l⟩ := l
  · simp at h
  obtain _ | ⟨a2, l⟩ := l
  · simp at h
  obtain _ | ⟨a3, l⟩ := l
  · simp at h
  obtain _ | ⟨a4, l⟩ := l
  · simp at h
  obtain _ | ⟨a5, l⟩ := l
  · simp at h
  obtain _ | ⟨a6, l⟩ := l
  · simp at h
  obtain _ | ⟨a7, l⟩ := l
  · simp at h
  obtain _ | ⟨a8, l⟩ := l
  · simp at h
  obtain _ | ⟨a9, l⟩ := l
  · simp at h
  obtain _ | ⟨a10, l⟩ := l
  · simp at h
  obtain _ | ⟨a11, l⟩ := l
  · simp at h
  obtain _ | ⟨a12, l⟩ := l
  · exact ⟨_, _, _, _, _, _, _, _, _, _, _, _, rfl⟩
  · simp at h
set_option maxRecDepth 100000 in
theorem block_cells {H : Type} {enc : TypeId × Value → H} {w : World} {base : Nat} {spare : Nat → Bool} {held : Bool} {n : Nat} {cs : List Value} {y : DataW H × List MemPlace}
    (h : DataW.trod enc Tryd.prog w base spare held n 26 cs = some y) : ∃ x : Blk, cs = x.cells ∧ x.Ok := by
  obtain ⟨xs, n', -, -, hlen, hxs, hf⟩ := DataW.trod_struct Tryd.underlying26 h
  have h4 : cs.length = 12 := hlen.trans (by kernel_rfl)
  have x4 : xs.length = 12 := hxs
  have z3 : Tryd.prog.cellsOf 3 = 1 := by kernel_rfl
  have zb : Tryd.prog.cellsOf 4 = 1 := by kernel_rfl
  have z32 : Tryd.prog.cellsOf 22 = 1 := by kernel_rfl
  have z64 : Tryd.prog.cellsOf 23 = 1 := by kernel_rfl
  have z16 : Tryd.prog.cellsOf 24 = 1 := by kernel_rfl
  obtain ⟨c0, c1, c2, c3, c4, c5, c6, c7, c8, c9, c10, c11, rfl⟩ := list12 h4
  obtain ⟨y0, y1, y2, y3, y4, y5, y6, y7, y8, y9, y10, y11, rfl⟩ := list12 x4
  have f0 : DataW.trod enc Tryd.prog w base spare held n' 3 (([c0, c1, c2, c3, c4, c5, c6, c7, c8, c9, c10, c11].drop 0).take (Tryd.prog.cellsOf 3)) = [y0, y1, y2, y3, y4, y5, y6, y7, y8, y9, y10, y11][0]? := hf 0 _ rfl
  have f1 : DataW.trod enc Tryd.prog w base spare held n' 3 (([c0, c1, c2, c3, c4, c5, c6, c7, c8, c9, c10, c11].drop 1).take (Tryd.prog.cellsOf 3)) = [y0, y1, y2, y3, y4, y5, y6, y7, y8, y9, y10, y11][1]? := hf 1 _ rfl
  have f2 : DataW.trod enc Tryd.prog w base spare held n' 4 (([c0, c1, c2, c3, c4, c5, c6, c7, c8, c9, c10, c11].drop 2).take (Tryd.prog.cellsOf 4)) = [y0, y1, y2, y3, y4, y5, y6, y7, y8, y9, y10, y11][2]? := hf 2 _ rfl
  have f3 : DataW.trod enc Tryd.prog w base spare held n' 3 (([c0, c1, c2, c3, c4, c5, c6, c7, c8, c9, c10, c11].drop 3).take (Tryd.prog.cellsOf 3)) = [y0, y1, y2, y3, y4, y5, y6, y7, y8, y9, y10, y11][3]? := hf 3 _ rfl
  have f4 : DataW.trod enc Tryd.prog w base spare held n' 22 (([c0, c1, c2, c3, c4, c5, c6, c7, c8, c9, c10, c11].drop 4).take (Tryd.prog.cellsOf 22)) = [y0, y1, y2, y3, y4, y5, y6, y7, y8, y9, y10, y11][4]? := hf 4 _ rfl
  have f5 : DataW.trod enc Tryd.prog w base spare held n' 22 (([c0, c1, c2, c3, c4, c5, c6, c7, c8, c9, c10, c11].drop 5).take (Tryd.prog.cellsOf 22)) = [y0, y1, y2, y3, y4, y5, y6, y7, y8, y9, y10, y11][5]? := hf 5 _ rfl
  have f6 : DataW.trod enc Tryd.prog w base spare held n' 22 (([c0, c1, c2, c3, c4, c5, c6, c7, c8, c9, c10, c11].drop 6).take (Tryd.prog.cellsOf 22)) = [y0, y1, y2, y3, y4, y5, y6, y7, y8, y9, y10, y11][6]? := hf 6 _ rfl
  have f7 : DataW.trod enc Tryd.prog w base spare held n' 22 (([c0, c1, c2, c3, c4, c5, c6, c7, c8, c9, c10, c11].drop 7).take (Tryd.prog.cellsOf 22)) = [y0, y1, y2, y3, y4, y5, y6, y7, y8, y9, y10, y11][7]? := hf 7 _ rfl
  have f8 : DataW.trod enc Tryd.prog w base spare held n' 23 (([c0, c1, c2, c3, c4, c5, c6, c7, c8, c9, c10, c11].drop 8).take (Tryd.prog.cellsOf 23)) = [y0, y1, y2, y3, y4, y5, y6, y7, y8, y9, y10, y11][8]? := hf 8 _ rfl
  have f9 : DataW.trod enc Tryd.prog w base spare held n' 24 (([c0, c1, c2, c3, c4, c5, c6, c7, c8, c9, c10, c11].drop 9).take (Tryd.prog.cellsOf 24)) = [y0, y1, y2, y3, y4, y5, y6, y7, y8, y9, y10, y11][9]? := hf 9 _ rfl
  have f10 : DataW.trod enc Tryd.prog w base spare held n' 3 (([c0, c1, c2, c3, c4, c5, c6, c7, c8, c9, c10, c11].drop 10).take (Tryd.prog.cellsOf 3)) = [y0, y1, y2, y3, y4, y5, y6, y7, y8, y9, y10, y11][10]? := hf 10 _ rfl
  have f11 : DataW.trod enc Tryd.prog w base spare held n' 22 (([c0, c1, c2, c3, c4, c5, c6, c7, c8, c9, c10, c11].drop 11).take (Tryd.prog.cellsOf 22)) = [y0, y1, y2, y3, y4, y5, y6, y7, y8, y9, y10, y11][11]? := hf 11 _ rfl
  rw [z3] at f0
  rw [z3] at f1
  rw [zb] at f2
  rw [z3] at f3
  rw [z32] at f4
  rw [z32] at f5
  rw [z32] at f6
  rw [z32] at f7
  rw [z64] at f8
  rw [z16] at f9
  rw [z3] at f10
  rw [z32] at f11
  simp only [List.drop, List.take, List.getElem?_cons_zero, List.getElem?_cons_succ] at f0 f1 f2 f3 f4 f5 f6 f7 f8 f9 f10 f11
  obtain ⟨k0, e0, -, w0⟩ := DataW.trod_int Tryd.underlying3 f0
  obtain ⟨k1, e1, -, w1⟩ := DataW.trod_int Tryd.underlying3 f1
  obtain ⟨k2, e2, -⟩ := DataW.trod_bool Tryd.underlying4 f2
  obtain ⟨k3, e3, -, w3⟩ := DataW.trod_int Tryd.underlying3 f3
  obtain ⟨k4, e4, -, w4⟩ := DataW.trod_int Tryd.underlying22 f4
  obtain ⟨k5, e5, -, w5⟩ := DataW.trod_int Tryd.underlying22 f5
  obtain ⟨k6, e6, -, w6⟩ := DataW.trod_int Tryd.underlying22 f6
  obtain ⟨k7, e7, -, w7⟩ := DataW.trod_int Tryd.underlying22 f7
  obtain ⟨k8, e8, -, w8⟩ := DataW.trod_int Tryd.underlying23 f8
  obtain ⟨k9, e9, -, w9⟩ := DataW.trod_int Tryd.underlying24 f9
  obtain ⟨k10, e10, -, w10⟩ := DataW.trod_int Tryd.underlying3 f10
  obtain ⟨k11, e11, -, w11⟩ := DataW.trod_int Tryd.underlying22 f11
  simp at e0 e1 e2 e3 e4 e5 e6 e7 e8 e9 e10 e11
  subst e0 e1 e2 e3 e4 e5 e6 e7 e8 e9 e10 e11
  exact ⟨⟨k0, k1, k2, k3, k4, k5, k6, k7, k8, k9, k10, k11⟩, rfl, ⟨i64_wf w0, i64_wf w1, i64_wf w3, u32_wf w4, u32_wf w5, u32_wf w6, u32_wf w7, u64_wf w8, u16_wf w9, i64_wf w10, u32_wf w11⟩⟩
set_option maxRecDepth 100000 in
theorem block_shape {w : World} {v : Value} {r : Reach} {b0 : Nat} {H : Type} {enc : TypeId × Value → H} {base : Nat} {spare : Nat → Bool} {held : Bool} {d : DataW H} {p : List MemPlace}
    (hval : Value.okWide Tryd.prog w r b0 26 v) (h : DataW.Trod enc Tryd.prog w base spare held 26 v d p) : ∃ x : Blk, v = x.agg ∧ x.Ok := by
  obtain ⟨cs, rfl, hsz⟩ := WideShapes.okWide_struct Tryd.underlying26 hval
  obtain ⟨fuel, hf⟩ := h
  obtain ⟨x, hx, hok⟩ := block_cells hf
  refine ⟨x, ?_, hok⟩
  have : cs.toList = x.cells := by simpa [Value.cells] using hx
  rw [← Array.toArray_toList (xs := cs), this]
  rfl
end Go.Proofs.YtkknegnipodcnaaDoor.Hea
