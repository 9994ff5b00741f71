/- Blocks that are parameters; the document's number. -/
import Derived.Test.YtkknegnipodcnaaDoorHeaA
namespace Go.Proofs.YtkknegnipodcnaaDoor.Hea
open Go.RowKit Num
set_option linter.unusedVariables false

def BW (w : World) (b : Blk) : World := w.alloc (.cells #[.int .i64 b.tag, .int .i64 b.cls, .bool b.used, .int .i64 b.lab, .int .u32 b.name, .int .u32 b.next, .int .u32 b.prev, .int .u32 b.refs, .int .u64 b.exp, .int .u16 b.typ, .int .i64 b.size, .int .u32 b.hash] 26)
/-- A block that is a parameter lies in a box. -/
structure BX (w W : World) (b : Blk) : Prop where
  c0 : W.cell? ⟨w.heap.size, 0, none⟩ = some (.int .i64 b.tag)
  c1 : W.cell? ⟨w.heap.size, 1, none⟩ = some (.int .i64 b.cls)
  c2 : W.cell? ⟨w.heap.size, 2, none⟩ = some (.bool b.used)
  c3 : W.cell? ⟨w.heap.size, 3, none⟩ = some (.int .i64 b.lab)
  c4 : W.cell? ⟨w.heap.size, 4, none⟩ = some (.int .u32 b.name)
  c5 : W.cell? ⟨w.heap.size, 5, none⟩ = some (.int .u32 b.next)
  c6 : W.cell? ⟨w.heap.size, 6, none⟩ = some (.int .u32 b.prev)
  c7 : W.cell? ⟨w.heap.size, 7, none⟩ = some (.int .u32 b.refs)
  c8 : W.cell? ⟨w.heap.size, 8, none⟩ = some (.int .u64 b.exp)
  c9 : W.cell? ⟨w.heap.size, 9, none⟩ = some (.int .u16 b.typ)
  c10 : W.cell? ⟨w.heap.size, 10, none⟩ = some (.int .i64 b.size)
  c11 : W.cell? ⟨w.heap.size, 11, none⟩ = some (.int .u32 b.hash)
  lt : w.heap.size < W.heap.size
  bel : Below w.heap.size w W
theorem BX.first (w : World) (b : Blk) : BX w (BW w b) b := by
  have h := heap_alloc_new w (.cells #[.int .i64 b.tag, .int .i64 b.cls, .bool b.used, .int .i64 b.lab, .int .u32 b.name, .int .u32 b.next, .int .u32 b.prev, .int .u32 b.refs, .int .u64 b.exp, .int .u16 b.typ, .int .i64 b.size, .int .u32 b.hash] 26)
  exact ⟨(cell_block h 0).trans rfl, (cell_block h 1).trans rfl, (cell_block h 2).trans rfl, (cell_block h 3).trans rfl, (cell_block h 4).trans rfl, (cell_block h 5).trans rfl, (cell_block h 6).trans rfl, (cell_block h 7).trans rfl, (cell_block h 8).trans rfl, (cell_block h 9).trans rfl, (cell_block h 10).trans rfl, (cell_block h 11).trans rfl,
    by unfold BW; exact (by simp : w.heap.size < (w.alloc _).heap.size), below_made _ _⟩
theorem BX.below {w W V : World} {b : Blk} (h : BX w W b) (hb : Below W.heap.size W V) : BX w V b := by
  have hc : ∀ o u, W.cell? ⟨w.heap.size, o, none⟩ = some u → V.cell? ⟨w.heap.size, o, none⟩ = some u := fun o u e => (hb.cell (p := ⟨w.heap.size, o, none⟩) h.lt).trans e
  exact ⟨hc _ _ h.c0, hc _ _ h.c1, hc _ _ h.c2, hc _ _ h.c3, hc _ _ h.c4, hc _ _ h.c5, hc _ _ h.c6, hc _ _ h.c7, hc _ _ h.c8, hc _ _ h.c9, hc _ _ h.c10, hc _ _ h.c11, Nat.lt_of_lt_of_le h.lt hb.size, h.bel.trans (hb.mono h.bel.size)⟩

set_option maxRecDepth 100000 in
set_option maxHeartbeats 4000000 in
theorem refNumber_any (b : Blk) (hb : b.Ok) (f : Nat) (hf : f < 12) (w : World) : Calls Tryd.prog 29 #[b.agg, .int .i64 (f : Int)] w fun e w' => e = .returned (.int .u64 (numF b f)) ∧ Below w.heap.size w w' := by
  obtain ⟨c0, c1, c2, c3, c4, c5, c6, c7, c8, c9, c10, c11, -, hbel⟩ := BX.first w b
  unfold BW at c0 c1 c2 c3 c4 c5 c6 c7 c8 c9 c10 c11 hbel
  obtain ⟨h1, h2, h3, h4, h5, h6, h7, h8, h9, h10, h11⟩ := hb
  simp only [i64, u32, u64, u16] at h4 h5 h6 h7 h8 h9 h11
  have e4 : IntKind.u64.wrap b.name = b.name := u64_id (by omega) (by omega)
  have e5 : IntKind.u64.wrap b.next = b.next := u64_id (by omega) (by omega)
  have e6 : IntKind.u64.wrap b.prev = b.prev := u64_id (by omega) (by omega)
  have e7 : IntKind.u64.wrap b.refs = b.refs := u64_id (by omega) (by omega)
  have e8 : IntKind.u64.wrap b.typ = b.typ := u64_id (by omega) (by omega)
  have e9 : IntKind.u64.wrap b.hash = b.hash := u64_id (by omega) (by omega)
  have HB := Lib.hid hbel
  obtain ⟨tag, cls, used, lab, name, next, prev, refs, exp, typ, size, hash⟩ := b
  simp only [] at c0 c1 c2 c3 c4 c5 c6 c7 c8 c9 c10 c11 e4 e5 e6 e7 e8 e9 HB
  clear h1 h2 h3 h4 h5 h6 h7 h8 h9 h10 h11 hbel
  unfold Blk.agg
  have hk : f = 0 ∨ f = 1 ∨ f = 2 ∨ f = 3 ∨ f = 4 ∨ f = 5 ∨ f = 6 ∨ f = 7 ∨ f = 8 ∨ f = 9 ∨ f = 10 ∨ f = 11 := by omega
  clear hf
  rcases hk with rfl | rfl | rfl | rfl | rfl | rfl | rfl | rfl | rfl | rfl | rfl | rfl
  case inr.inr.inl =>
    cases used
    all_goals
      go_enter Tryd.func29, Tryd.ntmps29
      go_wp2
      go_ret
      exact ⟨rfl, HB.out⟩
  all_goals
    go_enter Tryd.func29, Tryd.ntmps29
    go_wp2
    go_ret
    exact ⟨rfl, HB.out⟩
end Go.Proofs.YtkknegnipodcnaaDoor.Hea
