/- Contracts of the landed arena: its making, its length, what is read of it. -/
import Derived.Test.YtnpnigeghhcncaaArnH
namespace Go.Proofs.Ytnpnigeghhcncaa.Arn
open Go.RowKit Num
set_option linter.unusedVariables false

/-- The code's arena: a block with a slice of bytes, and that one's block. -/
structure Hn where
  g : Nat
  b : Nat
  n : Nat
def blkC (h : Hn) (k : Nat) : Prop := k = h.g ∨ k = h.b
theorem newRow_made (w : World) (l : List Int) (hb : IsBytes l) (hl : l.length ≤ 1000000000) : NewRow w.heap.size (w.alloc (.cells (vals l).toArray 5)) (.slice (some ⟨w.heap.size, 0, none⟩) l.length l.length) l := by
  refine ⟨row_of_block (heap_alloc_new w _) hb (by omega), ?_⟩
  intro b off n c e hne
  injection e with e1 e2 e3
  injection e1 with e1
  injection e1 with e1 e4 _
  subst e1 e4
  have hg := heap_alloc_new w (.cells (vals l).toArray 5)
  exact ⟨Nat.le_refl _, fun i hi => by unfold World.frozen?; simp only [hg]; simp⟩

theorem zeros_cells (n : Nat) : madeCells #[Value.int .u8 0] n = (vals (List.replicate n 0)).toArray := by
  rw [madeCells_one]; simp [vals]

/-- Where a view begins. -/
def vwA (a m : Nat) : Nat := if m = 0 then 0 else a
theorem heap_setCell_own {w : World} {g o : Nat} {c : Array Value} {t : TypeId} {fr : Nat × Nat} (hg : w.heap[g]? = some (.cells c t fr)) (u : Value) : (w.setCell ⟨g, o, none⟩ u).heap[g]? = some (.cells (c.setIfInBounds o u) t fr) := by
  have hlt : g < w.heap.size := (Array.getElem?_eq_some_iff.1 hg).1
  have hv : w.heap[g] = .cells c t fr := (Array.getElem?_eq_some_iff.1 hg).2
  unfold World.setCell
  rw [Array.getElem?_eq_getElem (by simpa using hlt), Array.getElem_modify]
  simp [hv]
theorem vals_set (l : List Int) (i : Nat) (y : Int) : (vals l).toArray.setIfInBounds i (.int .u8 y) = (vals (l.set i y)).toArray := by
  simp [vals, List.map_set]
theorem set_bytesC {l : List Int} (h : IsBytes l) (k : Nat) (y : Int) (h0 : 0 ≤ y) (h1 : y < 256) : IsBytes (l.set k y) :=
  IsBytes.of_mem fun x hx => by
    rcases List.mem_or_eq_of_mem_set hx with hx | rfl
    · exact h.mem hx
    · exact ⟨h0, h1⟩
end Go.Proofs.Ytnpnigeghhcncaa.Arn
