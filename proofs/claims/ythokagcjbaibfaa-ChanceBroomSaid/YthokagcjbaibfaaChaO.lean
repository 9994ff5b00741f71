/- A slice of bools that came in reads as a list. -/
import Derived.Test.YthokagcjbaibfaaRows
import Derived.Test.YthokagcjbaibfaaKit23
import Derived.WalkKit
import Derived.ProofKit
import Derived.OpenShut
namespace Go.Proofs.Ythokagcjbaibfaa.Cha
open Go.RowKit Go.ChangeShapes Go.WideShapes
set_option linter.unusedVariables false

theorem open_brow {H : Type} {enc : TypeId × Value → H} {w : World} {base : Nat} {spare : Nat → Bool} {held : Bool} {r : Reach} {b0 : Nat} {v : Value} {d : DataW H} {p : List MemPlace}
    (hval : Value.okWide Try.prog w r b0 22 v) (h : DataW.Trod enc Try.prog w base spare held 22 v d p) : ∃ x : Value × List Bool, v = x.1 ∧ BRow w x.1 x.2 := by
  obtain ⟨a, len, cap, rfl⟩ := WideShapes.okWide_slice Try.underlying22 hval
  obtain ⟨fuel, hf⟩ := h
  rcases open_bools Try.underlying22 Try.underlying4 (by kernel_rfl) hf with hcs | ⟨x, l, c, zs, hcs, hl, hm, hz, hcell⟩
  · simp [Value.cells] at hcs
    obtain ⟨rfl, rfl, rfl⟩ := hcs
    exact ⟨(_, []), rfl, BRow.nil _⟩
  · simp [Value.cells] at hcs
    obtain ⟨rfl, rfl, rfl⟩ := hcs
    have hzl : len ≤ zs.length := by rw [hz]; split <;> omega
    have hL : (zs.take len).length = len := by rw [List.length_take]; omega
    refine ⟨(_, zs.take len), rfl, some x, cap, by rw [hL], by rw [hL]; exact hl, by unfold maxLen at hm; omega, fun hne => ?_⟩
    have hpos : 0 < len := by
      have h9 : 0 < (zs.take len).length := List.length_pos_iff.2 hne
      omega
    obtain ⟨b, off, spot⟩ := x
    have hc := hcell 0 (by omega)
    have hspot : spot = none := by simpa [Addr.add] using World.cell?_spot hc
    subst hspot
    refine ⟨b, off, rfl, by have := World.block_lt_of_cell? w _ hc; simpa [Addr.add] using this, fun i hi => ?_⟩
    rw [hL] at hi
    rw [show (zs.take len).getD i false = zs.getD i false by simp [List.getD, hi], ← hcell i (by omega), Addr_add]
end Go.Proofs.Ythokagcjbaibfaa.Cha
