/- What the shells of the laws hand over: a slice of integers that came in reads as a list. -/
import Derived.Test.YtjikikiconhlaaaKit
namespace Go.Proofs.Ytjikikiconhlaaa
open Go.RowKit

theorem Row.ofArg {k : IntKind} {w : World} {a : Option Addr} {len cap : Nat} {zs : List Int}
    (h : (a = none ∧ len = 0 ∧ cap = 0 ∧ zs = []) ∨ ∃ x, a = some x ∧ len ≤ cap ∧ cap ≤ maxLen ∧ zs.length = cap ∧ (∀ i, i < zs.length → w.cell? (x.add i) = some (.int k (zs.getD i 0))) ∧ ∀ n ∈ zs, (Lit.int k n).wf = true) :
    Row k w (.slice a len cap) (zs.take len) ∧ (zs.take len).length = len := by
  rcases h with ⟨rfl, rfl, rfl, rfl⟩ | ⟨x, rfl, hl, hm, hz, hcell, hwf⟩
  · exact ⟨Row.nil _ _, rfl⟩
  · have hL : (zs.take len).length = len := by simp; omega
    have hget : ∀ i, i < len → (zs.take len).getD i 0 = zs.getD i 0 := fun i hi => by simp [List.getD, hi]
    refine ⟨⟨some x, cap, by rw [hL], by rw [hL]; exact hl, by unfold maxLen at hm; omega, fun i hi => ?_, fun hne => ?_⟩, hL⟩
    · rw [hL] at hi
      rw [hget i hi]
      have hi' : i < zs.length := by omega
      have : zs.getD i 0 = zs[i] := by simp [List.getD, hi']
      rw [this]
      exact hwf _ (List.getElem_mem hi')
    · have hpos : 0 < len := by
        have := List.length_pos_iff.2 hne
        omega
      obtain ⟨b, off, spot⟩ := x
      have hc := hcell 0 (by omega)
      have hspot : spot = none := by simpa [Addr.add] using World.cell?_spot hc
      subst hspot
      refine ⟨b, off, rfl, by have := World.block_lt_of_cell? w _ hc; simpa [Addr.add] using this, fun i hi => ?_⟩
      rw [hL] at hi
      rw [hget i hi, ← hcell i (by omega), Addr_add]

/-- 'append(out, x)' of one integer first lays x in a new block of one cell. -/
theorem news_one (w : World) (k : IntKind) (x : Int) (e : TypeId) : ∀ j u, [Value.int k x][j]? = some u → (w.alloc (.cells #[.int k x] e)).cell? ((⟨w.heap.size, 0, none⟩ : Addr).add j) = some u := by
  intro j u hj
  match j, hj with
  | 0, hj =>
    rw [Addr_add, Nat.zero_add, cell_block (heap_alloc_new w _)]
    simpa using hj
  | j + 1, hj => simp at hj
theorem oneCell_one (k : IntKind) (x : Int) : ∀ u ∈ [Value.int k x], u.oneCell' = true := by
  intro u hu
  simp at hu
  subst hu
  rfl
theorem le_alloc {b : Nat} {w : World} (o : Obj) (h : b ≤ w.heap.size) : b ≤ (w.alloc o).heap.size := by
  have : (w.alloc o).heap.size = w.heap.size + 1 := Array.size_push _
  omega
theorem maxLen_of {n : Nat} (h : n ≤ 9223372036854775807) : n ≤ maxLen := by unfold maxLen; omega
end Go.Proofs.Ytjikikiconhlaaa
