/- Acts that come in as arguments. -/
import Derived.Test.YtncbfagmdldclaaArnL
namespace Go.Proofs.Ytncbfagmdldclaa.Arn
open Go.RowKit Num
set_option linter.unusedVariables false

/-- A slice of bytes that comes in, as a field. -/
theorem open_bytes {H : Type} {enc : TypeId × Value → H} {P : Program} {w : World} {base : Nat} {spare : Nat → Bool} {held : Bool} {e s : TypeId} {fuel : Nat} {cs : List Value} {y : DataW H × List MemPlace}
    (he : P.underlying e = some (.slice s)) (hs : P.underlying s = some (.int .u8)) (hcs : P.cellsOf s = 1) (h : DataW.trod enc P w base spare held fuel e cs = some y) : ∃ v l, cs = [v] ∧ Row .u8 w v l := by
  rcases ChangeShapes.open_ints he hs hcs h with ⟨rfl, _⟩ | ⟨x, len2, cap2, zs, rfl, _, hl2, hm2, hz2, _, hcell2, hwf2⟩
  · exact ⟨.slice none 0 0, [], rfl, Row.nil _ _⟩
  · refine ⟨.slice (some x) len2 cap2, zs.take len2, rfl, ?_⟩
    have hln : len2 ≤ zs.length := by rw [hz2]; split <;> omega
    have hL : (zs.take len2).length = len2 := by rw [List.length_take]; omega
    have hget : ∀ i, i < len2 → (zs.take len2).getD i 0 = zs.getD i 0 := fun i hi => by simp [List.getD, hi]
    refine ⟨some x, cap2, by rw [hL], by rw [hL]; exact hl2, by unfold maxLen at hm2; omega, fun i hi => ?_, fun hne => ?_⟩
    · rw [hL] at hi
      rw [hget i hi]
      have hi' : i < zs.length := by omega
      have e : zs.getD i 0 = zs[i] := by simp [List.getD, hi']
      rw [e]
      exact hwf2 _ (List.getElem_mem hi')
    · have hpos : 0 < len2 := by
        have := List.length_pos_iff.2 hne
        omega
      obtain ⟨b, off, spot⟩ := x
      have hc := hcell2 0 (by omega)
      have hspot : spot = none := by simpa [Addr.add] using World.cell?_spot hc
      subst hspot
      refine ⟨b, off, rfl, by have := World.block_lt_of_cell? w _ hc; simpa [Addr.add] using this, fun i hi => ?_⟩
      rw [hL] at hi
      rw [hget i hi, ← hcell2 i (by omega), Addr_add]
theorem is64_wf {n : Int} (h : (Lit.int .i64 n).wf = true) : is64 n := by
  have := bounds_i64 h
  unfold is64
  omega

theorem act_cells {H : Type} {enc : TypeId × Value → H} {w : World} {base : Nat} {spare : Nat → Bool} {held : Bool} {n : Nat} {cs : List Value} {y : DataW H × List MemPlace}
    (h : DataW.trod enc Try.prog w base spare held n 34 cs = some y) : ∃ x, ActR w cs x := by
  obtain ⟨xs, n', -, -, hlen, hxs, hf⟩ := DataW.trod_struct Try.underlying34 h
  have h7 : cs.length = 7 := hlen.trans (by kernel_rfl)
  have x7 : xs.length = 7 := hxs
  match cs, h7, xs, x7 with
  | [c0, c1, c2, c3, c4, c5, c6], _, [y0, y1, y2, y3, y4, y5, y6], _ =>
    have f0 : DataW.trod enc Try.prog w base spare held n' 3 (([c0, c1, c2, c3, c4, c5, c6].drop 0).take (Try.prog.cellsOf 3)) = [y0, y1, y2, y3, y4, y5, y6][0]? := hf 0 _ rfl
    have f1 : DataW.trod enc Try.prog w base spare held n' 3 (([c0, c1, c2, c3, c4, c5, c6].drop 1).take (Try.prog.cellsOf 3)) = [y0, y1, y2, y3, y4, y5, y6][1]? := hf 1 _ rfl
    have f2 : DataW.trod enc Try.prog w base spare held n' 3 (([c0, c1, c2, c3, c4, c5, c6].drop 2).take (Try.prog.cellsOf 3)) = [y0, y1, y2, y3, y4, y5, y6][2]? := hf 2 _ rfl
    have f3 : DataW.trod enc Try.prog w base spare held n' 3 (([c0, c1, c2, c3, c4, c5, c6].drop 3).take (Try.prog.cellsOf 3)) = [y0, y1, y2, y3, y4, y5, y6][3]? := hf 3 _ rfl
    have f4 : DataW.trod enc Try.prog w base spare held n' 3 (([c0, c1, c2, c3, c4, c5, c6].drop 4).take (Try.prog.cellsOf 3)) = [y0, y1, y2, y3, y4, y5, y6][4]? := hf 4 _ rfl
    have f5 : DataW.trod enc Try.prog w base spare held n' 31 (([c0, c1, c2, c3, c4, c5, c6].drop 5).take (Try.prog.cellsOf 31)) = [y0, y1, y2, y3, y4, y5, y6][5]? := hf 5 _ rfl
    have f6 : DataW.trod enc Try.prog w base spare held n' 32 (([c0, c1, c2, c3, c4, c5, c6].drop 6).take (Try.prog.cellsOf 32)) = [y0, y1, y2, y3, y4, y5, y6][6]? := hf 6 _ rfl
    have q1 : Try.prog.cellsOf 3 = 1 := by kernel_rfl
    have q2 : Try.prog.cellsOf 31 = 1 := by kernel_rfl
    have q3 : Try.prog.cellsOf 32 = 1 := by kernel_rfl
    rw [q1] at f0 f1 f2 f3 f4
    rw [q2] at f5
    rw [q3] at f6
    simp only [List.drop, List.take, List.getElem?_cons_zero, List.getElem?_cons_succ] at f0 f1 f2 f3 f4 f5 f6
    obtain ⟨k0, e0, -, w0⟩ := DataW.trod_int Try.underlying3 f0
    obtain ⟨k1, e1, -, w1⟩ := DataW.trod_int Try.underlying3 f1
    obtain ⟨k2, e2, -, w2⟩ := DataW.trod_int Try.underlying3 f2
    obtain ⟨k3, e3, -, w3⟩ := DataW.trod_int Try.underlying3 f3
    obtain ⟨k4, e4, -, w4⟩ := DataW.trod_int Try.underlying3 f4
    obtain ⟨k5, e5, -, w5⟩ := DataW.trod_int Try.underlying31 f5
    obtain ⟨u, l, e6, hr⟩ := open_bytes Try.underlying32 Try.underlying5 (by kernel_rfl) f6
    simp at e0 e1 e2 e3 e4 e5 e6
    subst e0 e1 e2 e3 e4 e5 e6
    have b5 := bounds_u64 w5
    exact ⟨⟨k0, k1, k2, k3, k4, k5, _, l⟩, rfl, is64_wf w0, is64_wf w1, is64_wf w2, is64_wf w3, is64_wf w4, (show 0 ≤ k5 by omega), (show k5 < 18446744073709551616 by omega), hr⟩

theorem open_acts {H : Type} {enc : TypeId × Value → H} {w : World} {base : Nat} {spare : Nat → Bool} {held : Bool} {r : Reach} {b0 : Nat} {v : Value} {d : DataW H} {p : List MemPlace}
    (hval : Value.okWide Try.prog w r b0 22 v) (h : DataW.Trod enc Try.prog w base spare held 22 v d p) : ∃ x : Value × List Act, v = x.1 ∧ ActRow w x.1 x.2 := by
  obtain ⟨a, len, cap, rfl⟩ := WideShapes.okWide_slice Try.underlying22 hval
  obtain ⟨fuel, hf⟩ := h
  obtain ⟨L, -, hrow⟩ := open_grow Act.zero Try.underlying22 (show Try.prog.cellsOf 34 = 7 by kernel_rfl) (by omega) (fun n cs y hy => act_cells hy) hf
  exact ⟨(_, L), rfl, hrow⟩
end Go.Proofs.Ytncbfagmdldclaa.Arn
