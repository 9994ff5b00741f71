/- Plain mathematics of heads of blocks: their fields, which may be, their bytes. The document's Where, Size, number. Blocks that are parameters; the document's number. The document's Right. The document's Encode. The document's taken, with. The document's Decode. What is asked of head's functions; the example of the page; HeadWhere. Heads come back from their bytes, and bytes from their heads. The landed head: its tables; where fields lie; how long heads are. The landed head: Right. The landed head: the numbers in a header's bytes; Decode. The landed head: Decode. -/
import Derived.Test.YtjjfihoplkddfaaGreatDoorJ2
import Derived.Test.YtjjfihoplkddfaaGreatDoorJ1
import Derived.Deep.RegionHeld3
import Derived.Laws.StructEq
namespace Go.Proofs.YtjjfihoplkddfaaGreatDoor.Hea
open Go.RowKit Num
set_option linter.unusedVariables false

structure Blk where
  tag : Int
  cls : Int
  used : Bool
  lab : Int
  name : Int
  next : Int
  prev : Int
  refs : Int
  exp : Int
  typ : Int
  size : Int
  hash : Int
def Blk.zero : Blk := ⟨0, 0, false, 0, 0, 0, 0, 0, 0, 0, 0, 0⟩
def Blk.cells (b : Blk) : List Value := [.int .i64 b.tag, .int .i64 b.cls, .bool b.used, .int .i64 b.lab, .int .u32 b.name, .int .u32 b.next, .int .u32 b.prev, .int .u32 b.refs, .int .u64 b.exp, .int .u16 b.typ, .int .i64 b.size, .int .u32 b.hash]
def Blk.agg (b : Blk) : Value := .agg #[.int .i64 b.tag, .int .i64 b.cls, .bool b.used, .int .i64 b.lab, .int .u32 b.name, .int .u32 b.next, .int .u32 b.prev, .int .u32 b.refs, .int .u64 b.exp, .int .u16 b.typ, .int .i64 b.size, .int .u32 b.hash]
def i64 (n : Int) : Prop := -9223372036854775808 ≤ n ∧ n ≤ 9223372036854775807
def u32 (n : Int) : Prop := 0 ≤ n ∧ n < 4294967296
def u64 (n : Int) : Prop := 0 ≤ n ∧ n < 18446744073709551616
def u16 (n : Int) : Prop := 0 ≤ n ∧ n < 65536
structure Blk.Ok (b : Blk) : Prop where
  tag : i64 b.tag
  cls : i64 b.cls
  lab : i64 b.lab
  name : u32 b.name
  next : u32 b.next
  prev : u32 b.prev
  refs : u32 b.refs
  exp : u64 b.exp
  typ : u16 b.typ
  size : i64 b.size
  hash : u32 b.hash
theorem Blk.zero_ok : Blk.zero.Ok := by
  constructor <;> simp [Blk.zero, i64, u32, u64, u16]
/-- Where a field lies, and how many bytes it has. -/
def whF (t f : Int) : Int × Int :=
  if t < 0 ∨ 2 < t ∨ f < 0 ∨ 11 < f then (0, 0) else if f < 4 then (f, 1) else if f = 4 then (4, 4)
  else if t = 1 ∧ f = 5 then (8, 4) else if t = 1 ∧ f = 6 then (12, 4) else if t = 1 ∧ f = 7 then (16, 8) else if t = 1 ∧ f = 8 then (24, 2) else if t = 1 ∧ f = 9 then (26, 2) else if t = 1 ∧ f = 10 then (28, 4)
  else if t = 2 ∧ f = 11 then (8, 4) else if t = 2 ∧ f = 10 then (12, 4) else (0, 0)
def szF (t : Int) : Int := if t = 0 then 8 else if t = 1 then 32 else if t = 2 then 16 else 0
/-- A field's number. -/
def numF (b : Blk) (f : Nat) : Int :=
  match f with
  | 0 => IntKind.u64.wrap b.tag
  | 1 => IntKind.u64.wrap b.cls
  | 2 => if b.used then 1 else 0
  | 3 => IntKind.u64.wrap b.lab
  | 4 => b.name
  | 5 => b.next
  | 6 => b.prev
  | 7 => b.exp
  | 8 => b.typ
  | 9 => IntKind.u64.wrap b.size
  | 10 => b.hash
  | _ => b.refs
theorem u64_bd (n : Int) : 0 ≤ IntKind.u64.wrap n ∧ IntKind.u64.wrap n < 18446744073709551616 := by
  simp [IntKind.wrap, IntKind.bits, IntKind.signed]
  omega
theorem u64_id {n : Int} (h0 : 0 ≤ n) (h1 : n < 18446744073709551616) : IntKind.u64.wrap n = n := by
  simp [IntKind.wrap, IntKind.bits, IntKind.signed]
  omega
theorem numF_bd {b : Blk} (h : b.Ok) (f : Nat) : 0 ≤ numF b f ∧ numF b f < 18446744073709551616 := by
  obtain ⟨h1, h2, h3, h4, h5, h6, h7, h8, h9, h10, h11⟩ := h
  simp only [i64, u32, u64, u16] at *
  unfold numF
  split
  · exact u64_bd _
  · exact u64_bd _
  · split <;> omega
  · exact u64_bd _
  · omega
  · omega
  · omega
  · omega
  · omega
  · exact u64_bd _
  · omega
  · omega
/-- Which heads may be. -/
def RightP (b : Blk) : Prop :=
  (b.tag = 0 ∧ b.cls = 0 ∧ b.used = false ∧ b.lab = 0 ∧ b.next = 0 ∧ b.prev = 0 ∧ b.exp = 0 ∧ b.typ = 0 ∧ b.size = 0 ∧ b.hash = 0 ∧ b.refs = 0) ∨
  (b.tag = 1 ∧ 1 ≤ b.cls ∧ b.cls ≤ 9 ∧ b.lab = 0 ∧ 0 ≤ b.size ∧ b.size ≤ 480 ∧ b.refs = 0) ∨
  (b.tag = 2 ∧ 1 ≤ b.cls ∧ b.cls ≤ 9 ∧ b.used = false ∧ 1 ≤ b.lab ∧ b.lab ≤ 63 ∧ b.next = 0 ∧ b.prev = 0 ∧ b.exp = 0 ∧ b.typ = 0 ∧ b.size = 0)
instance (b : Blk) : Decidable (RightP b) := by unfold RightP; infer_instance
def rightF (b : Blk) : Bool := decide (RightP b)
def p2 (v : Int) : List Int := [v % 256, v / 256]
def p4 (v : Int) : List Int := [v % 256, v / 256 % 256, v / 65536 % 256, v / 16777216]
def p8 (v : Int) : List Int := [v % 256, v / 256 % 256, v / 65536 % 256, v / 16777216 % 256, v / 4294967296 % 256, v / 1099511627776 % 256, v / 281474976710656 % 256, v / 72057594037927936]
def p1 (b : Blk) : List Int := [b.tag, b.cls, if b.used then 1 else 0, b.lab]
def encL (b : Blk) : List Int :=
  p1 b ++ (p4 b.name ++ (if b.tag = 1 then p4 b.next ++ (p4 b.prev ++ (p8 b.exp ++ (p2 b.typ ++ (p2 b.size ++ p4 b.hash)))) else if b.tag = 2 then p4 b.refs ++ p4 b.hash else []))
def rdF (l : List Int) (a n : Nat) : Int := le ((l.drop a).take n)
/-- What bytes say of a head. -/
def decB (l : List Int) : Blk :=
  ⟨l.getD 0 0, l.getD 1 0, l.getD 2 0 == 1, l.getD 3 0, rdF l 4 4, if l.getD 0 0 = 1 then rdF l 8 4 else 0, if l.getD 0 0 = 1 then rdF l 12 4 else 0, if l.getD 0 0 = 2 then rdF l 8 4 else 0, if l.getD 0 0 = 1 then rdF l 16 8 else 0,
    if l.getD 0 0 = 1 then rdF l 24 2 else 0, if l.getD 0 0 = 1 then rdF l 26 2 else 0, if l.getD 0 0 = 1 then rdF l 28 4 else if l.getD 0 0 = 2 then rdF l 12 4 else 0⟩
def decF (l : List Int) : Blk × Int :=
  if l = [] then (Blk.zero, 3) else if 2 < l.getD 0 0 then (Blk.zero, 4) else if (l.length : Int) < szF (l.getD 0 0) then (Blk.zero, 3)
  else if 1 < l.getD 2 0 ∨ rightF (decB l) = false then (Blk.zero, 4) else (decB l, 0)
end Go.Proofs.YtjjfihoplkddfaaGreatDoor.Hea

namespace Go.Proofs.YtjjfihoplkddfaaGreatDoor.Hea
open Go.RowKit Num
set_option linter.unusedVariables false

theorem wrap_id {n : Int} (h1 : -9223372036854775808 ≤ n) (h2 : n ≤ 9223372036854775807) : IntKind.i64.wrap n = n := by simp [IntKind.wrap, IntKind.bits, IntKind.signed]; omega

end Go.Proofs.YtjjfihoplkddfaaGreatDoor.Hea

namespace Go.Proofs.YtjjfihoplkddfaaGreatDoor.Hea
open Go.RowKit Num
set_option linter.unusedVariables false

def BW (w : World) (b : Blk) : World := w.alloc (.cells #[.int .i64 b.tag, .int .i64 b.cls, .bool b.used, .int .i64 b.lab, .int .u32 b.name, .int .u32 b.next, .int .u32 b.prev, .int .u32 b.refs, .int .u64 b.exp, .int .u16 b.typ, .int .i64 b.size, .int .u32 b.hash] 68)
/-- A block that is a parameter lies in a box. -/
structure BX (w W : World) (b : Blk) : Prop where
  c0 : W.cell? ⟨w.heap.size, 0, none⟩ = some (.int .i64 b.tag)
  c1 : W.cell? ⟨w.heap.size, 1, none⟩ = some (.int .i64 b.cls)
  c2 : W.cell? ⟨w.heap.size, 2, none⟩ = some (.bool b.used)
  c3 : W.cell? ⟨w.heap.size, 3, none⟩ = some (.int .i64 b.lab)
  c4 : W.cell? ⟨w.heap.size, 4, none⟩ = some (.int .u32 b.name)
  c5 : W.cell? ⟨w.heap.size, 5, none⟩ = some (.int .u32 b.next)
  c6 : W.cell? ⟨w.heap.size, 6, none⟩ = some (.int .u32 b.prev)
  c7 : W.cell? ⟨w.heap.size, 7, none⟩ = some (.int .u32 b.refs)
  c8 : W.cell? ⟨w.heap.size, 8, none⟩ = some (.int .u64 b.exp)
  c9 : W.cell? ⟨w.heap.size, 9, none⟩ = some (.int .u16 b.typ)
  c10 : W.cell? ⟨w.heap.size, 10, none⟩ = some (.int .i64 b.size)
  c11 : W.cell? ⟨w.heap.size, 11, none⟩ = some (.int .u32 b.hash)
  lt : w.heap.size < W.heap.size
  bel : Below w.heap.size w W
theorem BX.first (w : World) (b : Blk) : BX w (BW w b) b := by
  have h := heap_alloc_new w (.cells #[.int .i64 b.tag, .int .i64 b.cls, .bool b.used, .int .i64 b.lab, .int .u32 b.name, .int .u32 b.next, .int .u32 b.prev, .int .u32 b.refs, .int .u64 b.exp, .int .u16 b.typ, .int .i64 b.size, .int .u32 b.hash] 68)
  exact ⟨(cell_block h 0).trans rfl, (cell_block h 1).trans rfl, (cell_block h 2).trans rfl, (cell_block h 3).trans rfl, (cell_block h 4).trans rfl, (cell_block h 5).trans rfl, (cell_block h 6).trans rfl, (cell_block h 7).trans rfl, (cell_block h 8).trans rfl, (cell_block h 9).trans rfl, (cell_block h 10).trans rfl, (cell_block h 11).trans rfl,
    by unfold BW; exact (by simp : w.heap.size < (w.alloc _).heap.size), below_made _ _⟩
theorem BX.below {w W V : World} {b : Blk} (h : BX w W b) (hb : Below W.heap.size W V) : BX w V b := by
  have hc : ∀ o u, W.cell? ⟨w.heap.size, o, none⟩ = some u → V.cell? ⟨w.heap.size, o, none⟩ = some u := fun o u e => (hb.cell (p := ⟨w.heap.size, o, none⟩) h.lt).trans e
  exact ⟨hc _ _ h.c0, hc _ _ h.c1, hc _ _ h.c2, hc _ _ h.c3, hc _ _ h.c4, hc _ _ h.c5, hc _ _ h.c6, hc _ _ h.c7, hc _ _ h.c8, hc _ _ h.c9, hc _ _ h.c10, hc _ _ h.c11, Nat.lt_of_lt_of_le h.lt hb.size, h.bel.trans (hb.mono h.bel.size)⟩

end Go.Proofs.YtjjfihoplkddfaaGreatDoor.Hea

namespace Go.Proofs.YtjjfihoplkddfaaGreatDoor.Hea
open Go.RowKit Num
set_option linter.unusedVariables false

/-- All fields that a block with that tag has not are 0. -/
def noneF (b : Blk) (k : Nat) : Prop := ∀ j : Nat, j < k → (whF b.tag j).2 = 0 → numF b j = 0
theorem u64_zero {n : Int} (h0 : 0 ≤ n) (h1 : n ≤ 480) (h : IntKind.u64.wrap n = 0) : n = 0 := by
  rw [u64_id h0 (by omega)] at h
  exact h
theorem none_zero {b : Blk} (ht : b.tag = 0) (hs : 0 ≤ b.size ∧ b.size ≤ 480) (h : noneF b 12) : b.next = 0 ∧ b.prev = 0 ∧ b.exp = 0 ∧ b.typ = 0 ∧ b.size = 0 ∧ b.hash = 0 ∧ b.refs = 0 := by
  unfold noneF at h
  rw [ht] at h
  exact ⟨h 5 (by decide) (by decide), h 6 (by decide) (by decide), h 7 (by decide) (by decide), h 8 (by decide) (by decide), u64_zero hs.1 hs.2 (h 9 (by decide) (by decide)), h 10 (by decide) (by decide), h 11 (by decide) (by decide)⟩
end Go.Proofs.YtjjfihoplkddfaaGreatDoor.Hea

namespace Go.Proofs.YtjjfihoplkddfaaGreatDoor.Hea
open Go.RowKit Num
set_option linter.unusedVariables false

theorem wh_fit {t : Int} (ht : 0 ≤ t ∧ t ≤ 2) (k : Nat) (hk : k < 12) : 0 ≤ (whF t k).1 ∧ 0 ≤ (whF t k).2 ∧ (whF t k).2 ≤ 8 ∧ (whF t k).1 + (whF t k).2 ≤ szF t := by
  have h1 : t = 0 ∨ t = 1 ∨ t = 2 := by omega
  have h2 : k = 0 ∨ k = 1 ∨ k = 2 ∨ k = 3 ∨ k = 4 ∨ k = 5 ∨ k = 6 ∨ k = 7 ∨ k = 8 ∨ k = 9 ∨ k = 10 ∨ k = 11 := by omega
  rcases h1 with rfl | rfl | rfl <;> rcases h2 with rfl | rfl | rfl | rfl | rfl | rfl | rfl | rfl | rfl | rfl | rfl | rfl <;> decide
theorem sz_bd {t : Int} (ht : 0 ≤ t ∧ t ≤ 2) : 8 ≤ szF t ∧ szF t ≤ 32 := by
  have h1 : t = 0 ∨ t = 1 ∨ t = 2 := by omega
  rcases h1 with rfl | rfl | rfl <;> decide
theorem list_of_getD {a b : List Int} (hl : a.length = b.length) (h : ∀ i, i < a.length → a.getD i 0 = b.getD i 0) : a = b := by
  refine List.ext_getElem hl fun i h1 h2 => ?_
  have := h i h1
  simpa [List.getD, h1, h2] using this
theorem stl_at (l : List Int) (a n : Nat) (v : Int) (i : Nat) (h : a + n ≤ l.length) (hn : n ≤ 8) : (stl l a n v).getD i 0 = if a ≤ i ∧ i < a + n then (parts v).getD (i - a) 0 else l.getD i 0 := by
  unfold stl List.getD
  rw [List.getElem?_append, List.length_take, Nat.min_eq_left (by omega), List.getElem?_append, List.length_take, parts_length, Nat.min_eq_left hn]
  split
  · rw [if_neg (by omega), List.getElem?_take_of_lt (by omega)]
  · split
    · rw [if_pos (by omega), List.getElem?_take_of_lt (by omega)]
    · rw [if_neg (by omega), List.getElem?_drop, show a + n + (i - a - n) = i by omega]
theorem right_tag {b : Blk} (h : RightP b) : 0 ≤ b.tag ∧ b.tag ≤ 2 := by
  rcases h with h | h | h <;> omega

theorem madeCells_one (z : Value) (n : Nat) : madeCells #[z] n = (List.replicate n z).toArray := by
  apply Array.ext
  · simp [madeCells]
  · intro i h1 h2
    simp [madeCells, Nat.mod_one]
theorem zeros_cells (n : Nat) : madeCells #[Value.int .u8 0] n = (vals (List.replicate n 0)).toArray := by
  rw [madeCells_one]; simp [vals]
theorem frozen_block {w : World} {g : Nat} {c : Array Value} {e : TypeId} (h : w.heap[g]? = some (.cells c e (0, 0))) (i : Nat) : w.frozen? ⟨g, i, none⟩ = false := by simp [World.frozen?, h]
theorem vals_set (l : List Int) (i : Nat) (y : Int) : (vals l).toArray.setIfInBounds i (.int .u8 y) = (vals (l.set i y)).toArray := by
  simp [vals, List.map_set]
theorem heap_setCell_own {w : World} {g o : Nat} {c : Array Value} {t : TypeId} {fr : Nat × Nat} (hg : w.heap[g]? = some (.cells c t fr)) (u : Value) : (w.setCell ⟨g, o, none⟩ u).heap[g]? = some (.cells (c.setIfInBounds o u) t fr) := by
  have hlt : g < w.heap.size := (Array.getElem?_eq_some_iff.1 hg).1
  have hv : w.heap[g] = .cells c t fr := (Array.getElem?_eq_some_iff.1 hg).2
  unfold World.setCell
  rw [Array.getElem?_eq_getElem (by simpa using hlt), Array.getElem_modify]
  simp [hv]
end Go.Proofs.YtjjfihoplkddfaaGreatDoor.Hea

namespace Go.Proofs.YtjjfihoplkddfaaGreatDoor.Hea
open Go.RowKit Num
set_option linter.unusedVariables false

end Go.Proofs.YtjjfihoplkddfaaGreatDoor.Hea

namespace Go.Proofs.YtjjfihoplkddfaaGreatDoor.Hea
open Go.RowKit Num
set_option linter.unusedVariables false

theorem rdF_bd {l : List Int} (hl : ∀ i, 0 ≤ l.getD i 0 ∧ l.getD i 0 < 256) (a n : Nat) : 0 ≤ rdF l a n ∧ rdF l a n < 256 ^ n := by
  have hb : ∀ i, 0 ≤ ((l.drop a).take n).getD i 0 ∧ ((l.drop a).take n).getD i 0 < 256 := fun i => by
    by_cases hi : i < n
    · rw [take_getD _ _ _ hi, drop_getD]; exact hl _
    · simp [List.getD, List.getElem?_take, hi]
  have h := le_bd ((l.drop a).take n) hb
  refine ⟨h.1, Int.lt_of_lt_of_le h.2 ?_⟩
  have h1 : ((l.drop a).take n).length ≤ n := by rw [List.length_take]; omega
  have e : ∀ k : Nat, (256 : Int) ^ k = ((256 ^ k : Nat) : Int) := fun k => by rw [Int.natCast_pow]; rfl
  rw [e, e]
  exact Int.ofNat_le.2 (Nat.pow_le_pow_right (by decide) h1)
theorem rdF_one {l : List Int} (a : Nat) (h : a < l.length) : rdF l a 1 = l.getD a 0 := by
  unfold rdF
  rw [List.drop_eq_getElem_cons h, List.take_succ_cons, List.take_zero]
  simp [le, List.getD, h]
theorem rdF_2 {l : List Int} (hl : ∀ i, 0 ≤ l.getD i 0 ∧ l.getD i 0 < 256) (a : Nat) : 0 ≤ rdF l a 2 ∧ rdF l a 2 < 65536 := rdF_bd hl a 2
theorem rdF_4 {l : List Int} (hl : ∀ i, 0 ≤ l.getD i 0 ∧ l.getD i 0 < 256) (a : Nat) : 0 ≤ rdF l a 4 ∧ rdF l a 4 < 4294967296 := rdF_bd hl a 4
theorem rdF_8 {l : List Int} (hl : ∀ i, 0 ≤ l.getD i 0 ∧ l.getD i 0 < 256) (a : Nat) : 0 ≤ rdF l a 8 ∧ rdF l a 8 < 18446744073709551616 := rdF_bd hl a 8
theorem w64 {v : Int} (h0 : 0 ≤ v) (h1 : v < 4294967296) : wrap64 v = v := IntWalk.wrap64_in _ (by omega)
def cellsA (b : Blk) : Array Value := #[.int .i64 b.tag, .int .i64 b.cls, .bool b.used, .int .i64 b.lab, .int .u32 b.name, .int .u32 b.next, .int .u32 b.prev, .int .u32 b.refs, .int .u64 b.exp, .int .u16 b.typ, .int .i64 b.size, .int .u32 b.hash]
/-- A block's twelve cells, written one by one. -/
def S12 (w : World) (o : Nat) (b : Blk) : World :=
  (((((((((((w.setCell ⟨o, 0, none⟩ (.int .i64 b.tag)).setCell ⟨o, 1, none⟩ (.int .i64 b.cls)).setCell ⟨o, 2, none⟩ (.bool b.used)).setCell ⟨o, 3, none⟩ (.int .i64 b.lab)).setCell ⟨o, 4, none⟩ (.int .u32 b.name)).setCell ⟨o, 5, none⟩ (.int .u32 b.next)).setCell ⟨o, 6, none⟩ (.int .u32 b.prev)).setCell ⟨o, 7, none⟩ (.int .u32 b.refs)).setCell ⟨o, 8, none⟩ (.int .u64 b.exp)).setCell ⟨o, 9, none⟩ (.int .u16 b.typ)).setCell ⟨o, 10, none⟩ (.int .i64 b.size)).setCell ⟨o, 11, none⟩ (.int .u32 b.hash)
theorem s12_block {w : World} {o : Nat} {b0 : Blk} {T : TypeId} (h : w.heap[o]? = some (.cells (cellsA b0) T (0, 0))) (b : Blk) : (S12 w o b).heap[o]? = some (.cells (cellsA b) T (0, 0)) := by
  unfold S12
  have h1 := heap_setCell_own (o := 0) h (.int .i64 b.tag)
  have h2 := heap_setCell_own (o := 1) h1 (.int .i64 b.cls)
  have h3 := heap_setCell_own (o := 2) h2 (.bool b.used)
  have h4 := heap_setCell_own (o := 3) h3 (.int .i64 b.lab)
  have h5 := heap_setCell_own (o := 4) h4 (.int .u32 b.name)
  have h6 := heap_setCell_own (o := 5) h5 (.int .u32 b.next)
  have h7 := heap_setCell_own (o := 6) h6 (.int .u32 b.prev)
  have h8 := heap_setCell_own (o := 7) h7 (.int .u32 b.refs)
  have h9 := heap_setCell_own (o := 8) h8 (.int .u64 b.exp)
  have h10 := heap_setCell_own (o := 9) h9 (.int .u16 b.typ)
  have h11 := heap_setCell_own (o := 10) h10 (.int .i64 b.size)
  have h12 := heap_setCell_own (o := 11) h11 (.int .u32 b.hash)
  refine h12.trans ?_
  simp [cellsA]
theorem s12_below {w w0 : World} {B o : Nat} (hb : Below B w0 w) (ho : B ≤ o) (b : Blk) : Below B w0 (S12 w o b) := by
  unfold S12
  exact (((((((((((hb.setCell (p := ⟨o, 0, none⟩) ho _).setCell (p := ⟨o, 1, none⟩) ho _).setCell (p := ⟨o, 2, none⟩) ho _).setCell (p := ⟨o, 3, none⟩) ho _).setCell (p := ⟨o, 4, none⟩) ho _).setCell (p := ⟨o, 5, none⟩) ho _).setCell (p := ⟨o, 6, none⟩) ho _).setCell (p := ⟨o, 7, none⟩) ho _).setCell (p := ⟨o, 8, none⟩) ho _).setCell (p := ⟨o, 9, none⟩) ho _).setCell (p := ⟨o, 10, none⟩) ho _).setCell (p := ⟨o, 11, none⟩) ho _
theorem cells_of {w : World} {o : Nat} {b : Blk} {T : TypeId} (h : w.heap[o]? = some (.cells (cellsA b) T (0, 0))) :
    w.cell? ⟨o, 0, none⟩ = some (.int .i64 b.tag) ∧ w.cell? ⟨o, 1, none⟩ = some (.int .i64 b.cls) ∧ w.cell? ⟨o, 2, none⟩ = some (.bool b.used) ∧ w.cell? ⟨o, 3, none⟩ = some (.int .i64 b.lab) ∧ w.cell? ⟨o, 4, none⟩ = some (.int .u32 b.name) ∧ w.cell? ⟨o, 5, none⟩ = some (.int .u32 b.next) ∧ w.cell? ⟨o, 6, none⟩ = some (.int .u32 b.prev) ∧ w.cell? ⟨o, 7, none⟩ = some (.int .u32 b.refs) ∧ w.cell? ⟨o, 8, none⟩ = some (.int .u64 b.exp) ∧ w.cell? ⟨o, 9, none⟩ = some (.int .u16 b.typ) ∧ w.cell? ⟨o, 10, none⟩ = some (.int .i64 b.size) ∧ w.cell? ⟨o, 11, none⟩ = some (.int .u32 b.hash) :=
  ⟨(cell_block h 0).trans rfl, (cell_block h 1).trans rfl, (cell_block h 2).trans rfl, (cell_block h 3).trans rfl, (cell_block h 4).trans rfl, (cell_block h 5).trans rfl, (cell_block h 6).trans rfl, (cell_block h 7).trans rfl, (cell_block h 8).trans rfl, (cell_block h 9).trans rfl, (cell_block h 10).trans rfl, (cell_block h 11).trans rfl⟩
theorem free_of {w : World} {o : Nat} {b : Blk} {T : TypeId} (h : w.heap[o]? = some (.cells (cellsA b) T (0, 0))) (i : Nat) : w.frozen? ⟨o, i, none⟩ = false := frozen_block h i
theorem decF_nil : decF [] = (Blk.zero, 3) := rfl
theorem decF_big {l : List Int} (hn : l ≠ []) (h : 2 < l.getD 0 0) : decF l = (Blk.zero, 4) := by rw [decF, if_neg hn, if_pos h]
theorem decF_short {l : List Int} (hn : l ≠ []) (h : ¬ 2 < l.getD 0 0) (hs : (l.length : Int) < szF (l.getD 0 0)) : decF l = (Blk.zero, 3) := by rw [decF, if_neg hn, if_neg h, if_pos hs]
theorem decF_rest {l : List Int} (hn : l ≠ []) (h : ¬ 2 < l.getD 0 0) (hs : ¬ (l.length : Int) < szF (l.getD 0 0)) : decF l = if 1 < l.getD 2 0 ∨ rightF (decB l) = false then (Blk.zero, 4) else (decB l, 0) := by rw [decF, if_neg hn, if_neg h, if_neg hs]

theorem decB_ok {l : List Int} (hl : ∀ i, 0 ≤ l.getD i 0 ∧ l.getD i 0 < 256) : (decB l).Ok := by
  have h0 := hl 0
  have h1 := hl 1
  have h3 := hl 3
  have c4 := rdF_4 hl 4
  have c8 := rdF_4 hl 8
  have c12 := rdF_4 hl 12
  have c16 := rdF_8 hl 16
  have c24 := rdF_2 hl 24
  have c26 := rdF_2 hl 26
  have c28 := rdF_4 hl 28
  unfold decB
  constructor <;> simp only [i64, u32, u64, u16] <;> (repeat' split) <;> omega
end Go.Proofs.YtjjfihoplkddfaaGreatDoor.Hea

namespace Go.Proofs.YtjjfihoplkddfaaGreatDoor.Hea
open Go.RowKit Num
set_option linter.unusedVariables false

end Go.Proofs.YtjjfihoplkddfaaGreatDoor.Hea

namespace Go.Proofs.YtjjfihoplkddfaaGreatDoor.Hea
open Go.RowKit Num
set_option linter.unusedVariables false

theorem dec_enc {b : Blk} (hb : b.Ok) (hr : RightP b) : decF (encL b ++ [9, 9]) = (b, 0) ∧ ((encL b).length : Int) = szF b.tag := by
  obtain ⟨k1, k2, k3, k4, k5, k6, k7, k8, k9, k10, k11⟩ := hb
  simp only [i64, u32, u64, u16] at *
  have hrr : rightF b = true := by unfold rightF; rw [decide_eq_true_eq]; exact hr
  obtain ⟨tag, cls, used, lab, name, next, prev, refs, exp, typ, size, hash⟩ := b
  simp only [] at *
  have key : decB (encL ⟨tag, cls, used, lab, name, next, prev, refs, exp, typ, size, hash⟩ ++ [9, 9]) = ⟨tag, cls, used, lab, name, next, prev, refs, exp, typ, size, hash⟩ := by
    rcases hr with ⟨h0, h1, h2, h3, h4, h5, h6, h7, h8, h9, h10⟩ | ⟨h0, h1, h2, h3, h4, h5, h6⟩ | ⟨h0, h1, h2, h3, h4, h5, h6, h7, h8, h9, h10⟩
    · simp only [] at h0 h1 h2 h3 h4 h5 h6 h7 h8 h9 h10
      subst h0 h1 h2 h3 h4 h5 h6 h7 h8 h9 h10
      simp [encL, decB, p1, p4, rdF, le]
      omega
    · simp only [] at h0 h1 h2 h3 h4 h5 h6
      subst h0 h3 h6
      cases used <;> simp [encL, decB, p1, p4, p8, p2, rdF, le] <;> omega
    · simp only [] at h0 h1 h2 h3 h4 h5 h6 h7 h8 h9 h10
      subst h0 h3 h6 h7 h8 h9 h10
      simp [encL, decB, p1, p4, rdF, le]
      omega
  have h0 : (encL ⟨tag, cls, used, lab, name, next, prev, refs, exp, typ, size, hash⟩ ++ [9, 9]).getD 0 0 = tag := by simp [encL, p1]
  have h2 : (encL ⟨tag, cls, used, lab, name, next, prev, refs, exp, typ, size, hash⟩ ++ [9, 9]).getD 2 0 = if used then 1 else 0 := by simp [encL, p1]
  have hn : encL ⟨tag, cls, used, lab, name, next, prev, refs, exp, typ, size, hash⟩ ++ [9, 9] ≠ [] := by simp
  have hl : ((encL ⟨tag, cls, used, lab, name, next, prev, refs, exp, typ, size, hash⟩).length : Int) = szF tag := by
    rcases hr with ⟨e, -⟩ | ⟨e, -⟩ | ⟨e, -⟩
    · simp only [] at e
      subst e
      simp [encL, p1, p4, szF]
    · simp only [] at e
      subst e
      simp [encL, p1, p4, p8, p2, szF]
    · simp only [] at e
      subst e
      simp [encL, p1, p4, szF]
  have ht : tag ≤ 2 := by
    rcases hr with ⟨e, -⟩ | ⟨e, -⟩ | ⟨e, -⟩
    all_goals simp only [] at e
    all_goals omega
  refine ⟨?_, hl⟩
  rw [decF_rest hn (by rw [h0]; omega) (by rw [h0, List.length_append]; simp only [List.length_cons, List.length_nil]; omega), key, h2, hrr]
  rw [if_neg]
  rintro (h | h)
  · split at h <;> omega
  · cases h
end Go.Proofs.YtjjfihoplkddfaaGreatDoor.Hea

namespace Go.Proofs.YtjjfihoplkddfaaGreatDoor.Hea
open Go.RowKit Num
set_option linter.unusedVariables false

/-- The order of the fields. -/
def ordI : List Int := [0, 1, 2, 3, 4, 5, 6, 7, 8, 9, 11, 10]
structure Tab (w : World) : Prop where
  ord : Lib.TabIs Tryz.prog w "columbarium/head.order" .i64 ordI
  pl : ∀ p q, p < 3 → q < 12 → w.cell? ⟨5, p * 24 + q * 2, none⟩ = some (.int .i64 (whF (p : Int) (q : Int)).1) ∧ w.cell? ⟨5, p * 24 + q * 2 + 1, none⟩ = some (.int .i64 (whF (p : Int) (q : Int)).2)
theorem cell_keep {w w' : World} {b o : Nat} {v : Value} (hb : Below w.heap.size w w') (h : w.cell? ⟨b, o, none⟩ = some v) : w'.cell? ⟨b, o, none⟩ = some v := by
  have hlt : b < w.heap.size := by
    rcases Nat.lt_or_ge b w.heap.size with h1 | h1
    · exact h1
    · rw [World.cell?, Array.getElem?_eq_none h1] at h
      simp at h
  exact (hb.cell (p := ⟨b, o, none⟩) hlt).trans h
theorem Tab.keep {w w' : World} (hb : Below w.heap.size w w') (h : Tab w) : Tab w' :=
  ⟨tab_keep hb h.ord, fun p q hp hq => ⟨cell_keep hb (h.pl p q hp hq).1, cell_keep hb (h.pl p q hp hq).2⟩⟩
theorem Tab.at {w : World} (h : Tab w) (i : Nat) (hi : i < 12) : w.cell? ⟨3, i, none⟩ = some (.int .i64 (ordI.getD i 0)) :=
  Lib.TabIs.cell h.ord (show Tryz.prog.globalNamed "columbarium/head.order" = some 3 by kernel_rfl) i hi
def plG (p q : Nat) : List Int := [(whF (p : Int) (q : Int)).1, (whF (p : Int) (q : Int)).2]
theorem tab_of {l : List (String × DataW Unit)} {w : World} (hp : (l.all fun x => x.2.handleName?.isNone) = true) (h1 : ("columbarium/head.places", Rows.laid_columbarium_head_places) ∈ l) (h2 : ("columbarium/head.order", Rows.laid_columbarium_head_order) ∈ l) (h : laidMetH Tryz.prog l w) : Tab w := by
  refine ⟨tab_of_laid (g := 3) (n := 12) (t := 251) (e := 3) hp h2 (by kernel_rfl) (by kernel_rfl) (by kernel_rfl) (by kernel_rfl) (by kernel_rfl) (by kernel_rfl) h, fun p q h3 h4 => ?_⟩
  have k := fun a (ha : a < 2) => grid_of_laid (n := 3) (m := 12) (s := 2) (G := plG) (k := .i64) (g := 5) (t := 273) (t1 := 272) (t2 := 228) (e := 3) hp h1 (by kernel_rfl) (by kernel_rfl) (by kernel_rfl) (by kernel_rfl) (by kernel_rfl) (by kernel_rfl) (by kernel_rfl) (by kernel_rfl) (by kernel_rfl) (by kernel_rfl) h p q a h3 h4 ha rfl
  exact ⟨k 0 (by omega), k 1 (by omega)⟩

theorem isTag_any (t : Int) (w : World) : Calls Tryz.prog 107 #[.int .i64 t] w fun e w' => e = .returned (.bool (decide (0 ≤ t ∧ t ≤ 2))) ∧ w = w' := by
  by_cases h0 : 0 ≤ t
  · by_cases h2 : t < 3
    · go_enter Tryz.func107, Tryz.ntmps107
      go_wp2
      go_ret
      exact ⟨ret_bool (by simp <;> omega), rfl⟩
    · have h2' : decide (t < 3) = false := decide_eq_false h2
      go_enter Tryz.func107, Tryz.ntmps107
      go_wp2
      go_ret
      exact ⟨ret_bool (by simp <;> omega), rfl⟩
  · have h0' : decide (0 ≤ t) = false := decide_eq_false h0
    go_enter Tryz.func107, Tryz.ntmps107
    go_wp2
    go_ret
    exact ⟨ret_bool (by simp <;> omega), rfl⟩
theorem between_any (a n b : Int) (w : World) : Calls Tryz.prog 249 #[.int .i64 a, .int .i64 n, .int .i64 b] w fun e w' => e = .returned (.bool (decide (a ≤ n ∧ n ≤ b))) ∧ w = w' := by
  by_cases h0 : a ≤ n
  · by_cases h2 : n ≤ b
    · go_enter Tryz.func249, Tryz.ntmps249
      go_wp2
      go_ret
      exact ⟨ret_bool (by simp <;> omega), rfl⟩
    · have h2' : decide (n ≤ b) = false := decide_eq_false h2
      go_enter Tryz.func249, Tryz.ntmps249
      go_wp2
      go_ret
      exact ⟨ret_bool (by simp <;> omega), rfl⟩
  · have h0' : decide (a ≤ n) = false := decide_eq_false h0
    go_enter Tryz.func249, Tryz.ntmps249
    go_wp2
    go_ret
    exact ⟨ret_bool (by simp <;> omega), rfl⟩
theorem size_any (t : Int) (w : World) : Calls Tryz.prog 168 #[.int .i64 t] w fun e w' => e = .returned (.int .i64 (szF t)) ∧ w = w' := by
  by_cases h0 : t = 0
  · subst h0
    go_enter Tryz.func168, Tryz.ntmps168
    go_wp2
    go_ret
    exact ⟨rfl, rfl⟩
  by_cases h1 : t = 1
  · subst h1
    go_enter Tryz.func168, Tryz.ntmps168
    go_wp2
    go_ret
    exact ⟨rfl, rfl⟩
  by_cases h2 : t = 2
  · subst h2
    go_enter Tryz.func168, Tryz.ntmps168
    go_wp2
    go_ret
    exact ⟨rfl, rfl⟩
  have e0 : (t == 0) = false := by simpa using h0
  have e1 : (t == 1) = false := by simpa using h1
  have e2 : (t == 2) = false := by simpa using h2
  have H := Lib.hid (show szF t = 0 by rw [szF, if_neg h0, if_neg h1, if_neg h2])
  clear h0 h1 h2
  go_enter Tryz.func168, Tryz.ntmps168
  go_wp2
  go_ret
  exact ⟨ret_int H.out.symm, rfl⟩

theorem placeOf_any (t f : Int) (w : World) (ht : Tab w) : Calls Tryz.prog 222 #[.int .i64 t, .int .i64 f] w fun e w' => e = .returned (.agg #[.int .i64 (whF t f).1, .int .i64 (whF t f).2]) ∧ Below w.heap.size w w' := by
  have HT := Lib.hid (fun W => isTag_any t W)
  have hb := below_made w (.cells #[.int .i64 0, .int .i64 0] 228)
  have HB := Lib.hid hb
  by_cases h : (0 ≤ t ∧ t ≤ 2) ∧ 0 ≤ f ∧ f < 12
  · obtain ⟨⟨h1, h2⟩, h3, h4⟩ := h
    obtain ⟨p, rfl⟩ : ∃ p : Nat, t = p := ⟨t.toNat, by omega⟩
    obtain ⟨q, rfl⟩ : ∃ q : Nat, f = q := ⟨f.toNat, by omega⟩
    obtain ⟨c0, c1⟩ := (ht.keep hb).pl p q (by omega) (by omega)
    rw [show decide (0 ≤ (p : Int) ∧ (p : Int) ≤ 2) = true by simp; omega] at HT
    have hp3 : (p : Int) < 3 := by omega
    have hq0 : decide ((q : Int) < 0) = false := by simp
    have hq1 : decide ((12 : Int) ≤ (q : Int)) = false := by simp; omega
    have hblk := heap_alloc_new w (.cells #[.int .i64 (whF (p : Int) (q : Int)).1, .int .i64 (whF (p : Int) (q : Int)).2] 228)
    have q0 : (w.alloc (.cells #[.int .i64 (whF (p : Int) (q : Int)).1, .int .i64 (whF (p : Int) (q : Int)).2] 228)).cell? ⟨w.heap.size, 0, none⟩ = some (.int .i64 (whF (p : Int) (q : Int)).1) := (cell_block hblk 0).trans rfl
    have q1 : (w.alloc (.cells #[.int .i64 (whF (p : Int) (q : Int)).1, .int .i64 (whF (p : Int) (q : Int)).2] 228)).cell? ⟨w.heap.size, 1, none⟩ = some (.int .i64 (whF (p : Int) (q : Int)).2) := (cell_block hblk 1).trans rfl
    obtain ⟨x, y, hxy⟩ : ∃ x y, whF (p : Int) (q : Int) = (x, y) := ⟨_, _, rfl⟩
    rw [hxy] at c0 c1 q0 q1 ⊢
    clear hxy ht hb hblk
    go_enter Tryz.func222, Tryz.ntmps222
    go_wp2_with fail
    refine (HT.out _).mono ?_
    rintro e w' ⟨rfl, rfl⟩
    go_wp2
    refine bodyPost_ret (v := .agg #[.int .i64 x, .int .i64 y]) (by simp [results, Tryz.results222, go_sem, q0, q1]) rfl ⟨rfl, below_made _ _⟩
  · have hz : whF t f = (0, 0) := by rw [whF, if_pos (by omega)]
    have hblk := heap_alloc_new w (.cells #[.int .i64 0, .int .i64 0] 228)
    have q0 : (w.alloc (.cells #[.int .i64 0, .int .i64 0] 228)).cell? ⟨w.heap.size, 0, none⟩ = some (.int .i64 0) := (cell_block hblk 0).trans rfl
    have q1 : (w.alloc (.cells #[.int .i64 0, .int .i64 0] 228)).cell? ⟨w.heap.size, 1, none⟩ = some (.int .i64 0) := (cell_block hblk 1).trans rfl
    rw [hz]
    clear hz ht hb hblk
    by_cases h1 : 0 ≤ t ∧ t ≤ 2
    · rw [show decide (0 ≤ t ∧ t ≤ 2) = true by simpa using h1] at HT
      by_cases h2 : f < 0
      · clear h h1
        go_enter Tryz.func222, Tryz.ntmps222
        go_wp2_with fail
        refine (HT.out _).mono ?_
        rintro e w' ⟨rfl, rfl⟩
        go_wp2
        refine bodyPost_ret (v := .agg #[.int .i64 0, .int .i64 0]) (by simp [results, Tryz.results222, go_sem, q0, q1]) rfl ⟨rfl, HB.out⟩
      · have h2' : decide (f < 0) = false := decide_eq_false h2
        have h3 : (12 : Int) ≤ f := by omega
        clear h h1
        go_enter Tryz.func222, Tryz.ntmps222
        go_wp2_with fail
        refine (HT.out _).mono ?_
        rintro e w' ⟨rfl, rfl⟩
        go_wp2
        refine bodyPost_ret (v := .agg #[.int .i64 0, .int .i64 0]) (by simp [results, Tryz.results222, go_sem, q0, q1]) rfl ⟨rfl, HB.out⟩
    · rw [show decide (0 ≤ t ∧ t ≤ 2) = false by simpa using h1] at HT
      clear h h1
      go_enter Tryz.func222, Tryz.ntmps222
      go_wp2_with fail
      refine (HT.out _).mono ?_
      rintro e w' ⟨rfl, rfl⟩
      go_wp2
      refine bodyPost_ret (v := .agg #[.int .i64 0, .int .i64 0]) (by simp [results, Tryz.results222, go_sem, q0, q1]) rfl ⟨rfl, HB.out⟩

theorem where_any (t f : Int) (w : World) (ht : Tab w) : Calls Tryz.prog 145 #[.int .i64 t, .int .i64 f] w fun e w' => e = .returned (.tuple #[.int .i64 (whF t f).1, .int .i64 (whF t f).2]) ∧ Below w.heap.size w w' := by
  have HP := Lib.hid (placeOf_any t f w ht)
  obtain ⟨x, y, hxy⟩ : ∃ x y, whF t f = (x, y) := ⟨_, _, rfl⟩
  rw [hxy] at HP ⊢
  clear hxy ht
  go_enter Tryz.func145, Tryz.ntmps145
  go_wp2_with fail
  refine HP.out.mono ?_
  rintro e w1 ⟨rfl, hb1⟩
  have hblk := heap_alloc_new w1 (.cells #[.int .i64 x, .int .i64 y] 228)
  have q0 : (w1.alloc (.cells #[.int .i64 x, .int .i64 y] 228)).cell? ⟨w1.heap.size, 0, none⟩ = some (.int .i64 x) := (cell_block hblk 0).trans rfl
  have q1 : (w1.alloc (.cells #[.int .i64 x, .int .i64 y] 228)).cell? ⟨w1.heap.size, 1, none⟩ = some (.int .i64 y) := (cell_block hblk 1).trans rfl
  have HB := Lib.hid (hb1.trans ((below_made w1 (.cells #[.int .i64 x, .int .i64 y] 228)).mono hb1.size))
  clear hblk hb1
  go_wp2_with fail
  generalize w1.alloc (.cells #[.int .i64 x, .int .i64 y] 228) = W at q0 q1 HB ⊢
  go_quiet (fail)
  go_wp2
  go_ret2
  exact ⟨rfl, below_drewN HB.out _⟩
end Go.Proofs.YtjjfihoplkddfaaGreatDoor.Hea

namespace Go.Proofs.YtjjfihoplkddfaaGreatDoor.Hea
open Go.RowKit Num
set_option linter.unusedVariables false

def eqB (a b : Blk) : Bool := a.tag == b.tag && (a.cls == b.cls && (a.used == b.used && (a.lab == b.lab && (a.name == b.name && (a.next == b.next && (a.prev == b.prev && (a.refs == b.refs && (a.exp == b.exp && (a.typ == b.typ && (a.size == b.size && a.hash == b.hash))))))))))
/-- Two heads compared. -/
theorem eq_blk (a b : Blk) (w : World) : (Op.equalIn 10000 68 a.agg b.agg).run Tryz.prog w = .ok (eqB a b) w := by
  obtain ⟨a0, a1, a2, a3, a4, a5, a6, a7, a8, a9, a10, a11⟩ := a
  obtain ⟨b0, b1, b2, b3, b4, b5, b6, b7, b8, b9, b10, b11⟩ := b
  unfold Blk.agg eqB
  simp only []
  rw [show (10000 : Nat) = 9999 + 1 from rfl, run_equalIn_struct w 9999 68 _ _ (by kernel_rfl) (by kernel_rfl)]
  go_simp
  by_cases h0 : a0 = b0
  case neg => simp [h0]
  subst h0
  by_cases h1 : a1 = b1
  case neg => simp [h1]
  subst h1
  by_cases h2 : a2 = b2
  case neg => simp [h2]
  subst h2
  by_cases h3 : a3 = b3
  case neg => simp [h3]
  subst h3
  by_cases h4 : a4 = b4
  case neg => simp [h4]
  subst h4
  by_cases h5 : a5 = b5
  case neg => simp [h5]
  subst h5
  by_cases h6 : a6 = b6
  case neg => simp [h6]
  subst h6
  by_cases h7 : a7 = b7
  case neg => simp [h7]
  subst h7
  by_cases h8 : a8 = b8
  case neg => simp [h8]
  subst h8
  by_cases h9 : a9 = b9
  case neg => simp [h9]
  subst h9
  by_cases h10 : a10 = b10
  case neg => simp [h10]
  subst h10
  by_cases h11 : a11 = b11
  case neg => simp [h11]
  subst h11
  simp
theorem right_f0 {b : Blk} (h : b.tag = 0) : rightF b = eqB b ⟨0, 0, false, 0, b.name, 0, 0, 0, 0, 0, 0, 0⟩ := by
  unfold rightF eqB
  rw [Bool.eq_iff_iff, decide_eq_true_iff]
  unfold RightP
  cases b.used <;> simp [h] <;> omega
theorem right_f1 {b : Blk} (h : b.tag = 1) : rightF b = (decide (1 ≤ b.cls ∧ b.cls ≤ 9) && (decide (0 ≤ b.size ∧ b.size ≤ 480) && (b.lab == 0 && b.refs == 0))) := by
  unfold rightF
  rw [Bool.eq_iff_iff, decide_eq_true_iff]
  unfold RightP
  simp [h]
  omega
theorem right_f2 {b : Blk} (h : b.tag = 2) : rightF b = (decide (1 ≤ b.cls ∧ b.cls ≤ 9) && (decide (1 ≤ b.lab ∧ b.lab ≤ 63) && eqB b ⟨2, b.cls, false, b.lab, b.name, 0, 0, b.refs, 0, 0, 0, b.hash⟩)) := by
  unfold rightF eqB
  rw [Bool.eq_iff_iff, decide_eq_true_iff]
  unfold RightP
  cases b.used <;> simp [h] <;> omega
theorem right_f3 {b : Blk} (h0 : b.tag ≠ 0) (h1 : b.tag ≠ 1) (h2 : b.tag ≠ 2) : rightF b = false := by
  unfold rightF
  rw [decide_eq_false_iff_not]
  unfold RightP
  omega

set_option maxRecDepth 100000 in
set_option maxHeartbeats 4000000 in
theorem right_any (b : Blk) (w : World) : Calls Tryz.prog 195 #[b.agg] w fun e w' => e = .returned (.bool (rightF b)) ∧ Below w.heap.size w w' := by
  obtain ⟨c0, c1, c2, c3, c4, c5, c6, c7, c8, c9, c10, c11, -, hbel⟩ := BX.first w b
  unfold BW at c0 c1 c2 c3 c4 c5 c6 c7 c8 c9 c10 c11 hbel
  have HB := Lib.hid hbel
  have HC1 := Lib.hid (fun W => between_any 1 b.cls 9 W)
  have HC2 := Lib.hid (fun W => between_any 0 b.size 480 W)
  have HC3 := Lib.hid (fun W => between_any 1 b.lab 63 W)
  have hq0 := fun W => eq_blk b ⟨0, 0, false, 0, b.name, 0, 0, 0, 0, 0, 0, 0⟩ W
  have hq2 := fun W => eq_blk b ⟨2, b.cls, false, b.lab, b.name, 0, 0, b.refs, 0, 0, 0, b.hash⟩ W
  have hr0 := @right_f0 b
  have hr1 := @right_f1 b
  have hr2 := @right_f2 b
  have hr3 := @right_f3 b
  obtain ⟨R, hR⟩ : ∃ R, R = rightF b := ⟨_, rfl⟩
  rw [← hR] at hr0 hr1 hr2 hr3 ⊢
  generalize eqB b ⟨0, 0, false, 0, b.name, 0, 0, 0, 0, 0, 0, 0⟩ = Q0 at hq0 hr0
  generalize eqB b ⟨2, b.cls, false, b.lab, b.name, 0, 0, b.refs, 0, 0, 0, b.hash⟩ = Q2 at hq2 hr2
  generalize decide (1 ≤ b.cls ∧ b.cls ≤ 9) = d1 at HC1 hr1 hr2
  generalize decide (0 ≤ b.size ∧ b.size ≤ 480) = d2 at HC2 hr1
  generalize decide (1 ≤ b.lab ∧ b.lab ≤ 63) = d3 at HC3 hr2
  have HR0 := Lib.hid hr0
  have HR1 := Lib.hid hr1
  have HR2 := Lib.hid hr2
  have HR3 := Lib.hid hr3
  clear hbel hR hr0 hr1 hr2 hr3
  unfold Blk.agg at hq0 hq2 ⊢
  obtain ⟨tag, cls, used, lab, name, next, prev, refs, exp, typ, size, hash⟩ := b
  simp only [] at c0 c1 c2 c3 c4 c5 c6 c7 c8 c9 c10 c11 hq0 hq2 HC1 HC2 HC3 HR0 HR1 HR2 HR3 HB ⊢
  by_cases t0 : tag = 0
  · subst t0
    have HR := Lib.hid (HR0.out rfl)
    clear HR0 HR1 HR2 HR3 HC1 HC2 HC3 hq2
    go_enter Tryz.func195, Tryz.ntmps195
    go_wp2
    go_ret
    exact ⟨ret_bool HR.out.symm, HB.out⟩
  by_cases t1 : tag = 1
  · subst t1
    have HR := Lib.hid (HR1.out rfl)
    clear HR0 HR1 HR2 HR3 HC3 hq0 hq2 t0
    cases d1
    · go_enter Tryz.func195, Tryz.ntmps195
      go_wp2_with fail
      refine (HC1.out _).mono ?_
      rintro e w1 ⟨rfl, rfl⟩
      go_wp2
      go_ret
      exact ⟨ret_bool HR.out.symm, HB.out⟩
    cases d2
    · go_enter Tryz.func195, Tryz.ntmps195
      go_wp2_with fail
      refine (HC1.out _).mono ?_
      rintro e w1 ⟨rfl, rfl⟩
      go_wp2_with fail
      refine (HC2.out _).mono ?_
      rintro e w1 ⟨rfl, rfl⟩
      go_wp2
      go_ret
      exact ⟨ret_bool HR.out.symm, HB.out⟩
    obtain ⟨l0, hl0⟩ : ∃ l0, (lab == 0) = l0 := ⟨_, rfl⟩
    rw [hl0] at HR
    cases l0
    · go_enter Tryz.func195, Tryz.ntmps195
      go_wp2_with fail
      refine (HC1.out _).mono ?_
      rintro e w1 ⟨rfl, rfl⟩
      go_wp2_with fail
      refine (HC2.out _).mono ?_
      rintro e w1 ⟨rfl, rfl⟩
      go_wp2
      go_ret
      exact ⟨ret_bool HR.out.symm, HB.out⟩
    · go_enter Tryz.func195, Tryz.ntmps195
      go_wp2_with fail
      refine (HC1.out _).mono ?_
      rintro e w1 ⟨rfl, rfl⟩
      go_wp2_with fail
      refine (HC2.out _).mono ?_
      rintro e w1 ⟨rfl, rfl⟩
      go_wp2
      go_ret
      exact ⟨ret_bool (by rw [HR.out]; simp), HB.out⟩
  by_cases t2 : tag = 2
  · subst t2
    have HR := Lib.hid (HR2.out rfl)
    clear HR0 HR1 HR2 HR3 HC2 hq0 t0 t1
    cases d1
    · go_enter Tryz.func195, Tryz.ntmps195
      go_wp2_with fail
      refine (HC1.out _).mono ?_
      rintro e w1 ⟨rfl, rfl⟩
      go_wp2
      go_ret
      exact ⟨ret_bool HR.out.symm, HB.out⟩
    cases d3
    · go_enter Tryz.func195, Tryz.ntmps195
      go_wp2_with fail
      refine (HC1.out _).mono ?_
      rintro e w1 ⟨rfl, rfl⟩
      go_wp2_with fail
      refine (HC3.out _).mono ?_
      rintro e w1 ⟨rfl, rfl⟩
      go_wp2
      go_ret
      exact ⟨ret_bool HR.out.symm, HB.out⟩
    · go_enter Tryz.func195, Tryz.ntmps195
      go_wp2_with fail
      refine (HC1.out _).mono ?_
      rintro e w1 ⟨rfl, rfl⟩
      go_wp2_with fail
      refine (HC3.out _).mono ?_
      rintro e w1 ⟨rfl, rfl⟩
      go_wp2
      go_ret
      exact ⟨ret_bool (by rw [HR.out]; simp), HB.out⟩
  · have HR := Lib.hid (HR3.out t0 t1 t2)
    have e0 : (tag == 0) = false := by simpa using t0
    have e1 : (tag == 1) = false := by simpa using t1
    have e2 : (tag == 2) = false := by simpa using t2
    clear HR0 HR1 HR2 HR3 HC1 HC2 HC3 hq0 hq2 t0 t1 t2
    go_enter Tryz.func195, Tryz.ntmps195
    go_wp2
    go_ret
    exact ⟨ret_bool HR.out.symm, HB.out⟩
end Go.Proofs.YtjjfihoplkddfaaGreatDoor.Hea

namespace Go.Proofs.YtjjfihoplkddfaaGreatDoor.Hea
open Go.RowKit Num
set_option linter.unusedVariables false

/-- The number in a field of bytes. -/
def rdv (l : List Int) (t f : Int) : Int := (ldv l (whF t f).1 (whF t f).2).1
theorem wh_all {t : Int} (ht : 0 ≤ t ∧ t ≤ 2) (f : Nat) (hf : f < 12) (h1 : (whF t f).2 ≠ 0) : isW (whF t f).2 = true ∧ (whF t f).1 % (whF t f).2 = 0 := by
  have k1 : t = 0 ∨ t = 1 ∨ t = 2 := by omega
  have all : ∀ t : Fin 3, ∀ f : Fin 12, (whF (t.val : Int) (f.val : Int)).2 ≠ 0 → isW (whF (t.val : Int) (f.val : Int)).2 = true ∧ (whF (t.val : Int) (f.val : Int)).1 % (whF (t.val : Int) (f.val : Int)).2 = 0 := by
    decide +kernel
  rcases k1 with rfl | rfl | rfl
  · exact all 0 ⟨f, hf⟩ h1
  · exact all 1 ⟨f, hf⟩ h1
  · exact all 2 ⟨f, hf⟩ h1
theorem rdv_is {l : List Int} {t : Int} (ht : 0 ≤ t ∧ t ≤ 2) (hs : szF t ≤ (l.length : Int)) (f : Nat) (hf : f < 12) : rdv l t f = if (whF t f).2 = 0 then 0 else rdF l (whF t f).1.toNat (whF t f).2.toNat := by
  unfold rdv
  by_cases hz : (whF t f).2 = 0
  · rw [if_pos hz, hz]
    rfl
  · rw [if_neg hz]
    obtain ⟨h1, h2⟩ := wh_all ht f hf hz
    have h3 := wh_fit ht f hf
    have hsz := sz_bd ht
    have hp : plc l.length (whF t f).1 (whF t f).2 = 0 := by
      unfold plc
      rw [if_neg (by omega), if_pos h2]
    unfold ldv
    rw [if_pos h1, if_pos hp]
    rfl
def parB (l : List Int) (t : Int) : Blk := ⟨t, rdv l t 1, rdv l t 2 != 0, rdv l t 3, rdv l t 4, rdv l t 5, rdv l t 6, rdv l t 11, rdv l t 7, rdv l t 8, rdv l t 9, rdv l t 10⟩
structure ParOk (l : List Int) (t : Int) : Prop where
  b1 : 0 ≤ rdv l t 1 ∧ rdv l t 1 < 65536
  b2 : 0 ≤ rdv l t 2 ∧ rdv l t 2 < 65536
  b3 : 0 ≤ rdv l t 3 ∧ rdv l t 3 < 65536
  b4 : 0 ≤ rdv l t 4 ∧ rdv l t 4 < 4294967296
  b5 : 0 ≤ rdv l t 5 ∧ rdv l t 5 < 4294967296
  b6 : 0 ≤ rdv l t 6 ∧ rdv l t 6 < 4294967296
  b7 : 0 ≤ rdv l t 7 ∧ rdv l t 7 < 18446744073709551616
  b8 : 0 ≤ rdv l t 8 ∧ rdv l t 8 < 65536
  b9 : 0 ≤ rdv l t 9 ∧ rdv l t 9 < 65536
  b10 : 0 ≤ rdv l t 10 ∧ rdv l t 10 < 4294967296
  b11 : 0 ≤ rdv l t 11 ∧ rdv l t 11 < 4294967296
theorem par_is {l : List Int} (hl : ∀ i, 0 ≤ l.getD i 0 ∧ l.getD i 0 < 256) {t : Int} (he : t = l.getD 0 0) (ht : 0 ≤ t ∧ t ≤ 2) (hs : szF t ≤ (l.length : Int)) :
    parB l t = { decB l with used := l.getD 2 0 != 0 } ∧ ParOk l t ∧ rdv l t 2 = l.getD 2 0 := by
  have h8 := (sz_bd ht).1
  have e1 : rdF l 1 1 = l.getD 1 0 := rdF_one _ (by omega)
  have e2 : rdF l 2 1 = l.getD 2 0 := rdF_one _ (by omega)
  have e3 : rdF l 3 1 = l.getD 3 0 := rdF_one _ (by omega)
  have b1 := hl 1
  have b2 := hl 2
  have b3 := hl 3
  have c4 := rdF_4 hl 4
  have c8 := rdF_4 hl 8
  have c12 := rdF_4 hl 12
  have c16 := rdF_8 hl 16
  have c24 := rdF_2 hl 24
  have c26 := rdF_2 hl 26
  have c28 := rdF_4 hl 28
  have hv := fun f hf => rdv_is ht hs f hf
  have v1 := hv 1 (by omega)
  have v2 := hv 2 (by omega)
  have v3 := hv 3 (by omega)
  have v4 := hv 4 (by omega)
  have v5 := hv 5 (by omega)
  have v6 := hv 6 (by omega)
  have v7 := hv 7 (by omega)
  have v8 := hv 8 (by omega)
  have v9 := hv 9 (by omega)
  have v10 := hv 10 (by omega)
  have v11 := hv 11 (by omega)
  clear hv
  unfold decB
  rw [← he]
  have htt : t = 0 ∨ t = 1 ∨ t = 2 := by omega
  clear hs he h8 hl
  obtain ⟨y1, hy1⟩ : ∃ y, y = l.getD 1 0 := ⟨_, rfl⟩
  obtain ⟨y2, hy2⟩ : ∃ y, y = l.getD 2 0 := ⟨_, rfl⟩
  obtain ⟨y3, hy3⟩ : ∃ y, y = l.getD 3 0 := ⟨_, rfl⟩
  rw [← hy1] at b1 e1 ⊢
  rw [← hy2] at b2 e2 ⊢
  rw [← hy3] at b3 e3 ⊢
  clear hy1 hy2 hy3
  rcases htt with rfl | rfl | rfl
  all_goals
    simp [whF, e1, e2, e3] at v1 v2 v3 v4 v5 v6 v7 v8 v9 v10 v11
    refine ⟨?_, ?_, v2⟩
    · unfold parB
      simp [v1, v2, v3, v4, v5, v6, v7, v8, v9, v10, v11]
    · constructor <;> simp only [v1, v2, v3, v4, v5, v6, v7, v8, v9, v10, v11] <;> omega

theorem read_int (v : Value) (l : List Int) (t f : Int) (w : World) (htb : Tab w) (hr : Row .u8 w v l) (hx : 0 ≤ rdv l t f ∧ rdv l t f < 65536) :
    Calls Tryz.prog 196 #[v, .int .i64 t, .int .i64 f] w fun e w' => e = .returned (.int .i64 (rdv l t f)) ∧ Below w.heap.size w w' := by
  have HW := Lib.hid (where_any t f w htb)
  have HL := Lib.hid (fun W (hb : Below w.heap.size w W) => load_any v (whF t f).1 (whF t f).2 l W (hr.mono hb (Nat.le_refl _)))
  have hw : wrap64 (rdv l t f) = rdv l t f := w64 hx.1 (by omega)
  unfold rdv at hx hw ⊢
  generalize (ldv l (whF t f).1 (whF t f).2).1 = x at HL hx hw ⊢
  generalize (ldv l (whF t f).1 (whF t f).2).2 = y at HL
  generalize (whF t f).1 = p at HW HL
  generalize (whF t f).2 = q at HW HL
  clear htb hr hx
  go_enter Tryz.func196, Tryz.ntmps196
  go_wp2_with fail
  refine HW.out.mono ?_
  rintro e w1 ⟨rfl, hb1⟩
  have HB1 := Lib.hid hb1
  clear hb1
  go_wp2_with fail
  refine (HL.out _ HB1.out).mono ?_
  rintro e w2 ⟨rfl, hb2⟩
  have HB2 := Lib.hid (HB1.out.trans (hb2.mono HB1.out.size))
  clear hb2
  go_wp2
  go_ret
  exact ⟨ret_int hw, HB2.out⟩
theorem read_u32 (v : Value) (l : List Int) (t f : Int) (w : World) (htb : Tab w) (hr : Row .u8 w v l) (hx : 0 ≤ rdv l t f ∧ rdv l t f < 4294967296) :
    Calls Tryz.prog 246 #[v, .int .i64 t, .int .i64 f] w fun e w' => e = .returned (.int .u32 (rdv l t f)) ∧ Below w.heap.size w w' := by
  have HW := Lib.hid (where_any t f w htb)
  have HL := Lib.hid (fun W (hb : Below w.heap.size w W) => load_any v (whF t f).1 (whF t f).2 l W (hr.mono hb (Nat.le_refl _)))
  have hw : (rdv l t f) % 4294967296 = rdv l t f := Int.emod_eq_of_lt hx.1 hx.2
  unfold rdv at hx hw ⊢
  generalize (ldv l (whF t f).1 (whF t f).2).1 = x at HL hx hw ⊢
  generalize (ldv l (whF t f).1 (whF t f).2).2 = y at HL
  generalize (whF t f).1 = p at HW HL
  generalize (whF t f).2 = q at HW HL
  clear htb hr hx
  go_enter Tryz.func246, Tryz.ntmps246
  go_wp2_with fail
  refine HW.out.mono ?_
  rintro e w1 ⟨rfl, hb1⟩
  have HB1 := Lib.hid hb1
  clear hb1
  go_wp2_with fail
  refine (HL.out _ HB1.out).mono ?_
  rintro e w2 ⟨rfl, hb2⟩
  have HB2 := Lib.hid (HB1.out.trans (hb2.mono HB1.out.size))
  clear hb2
  go_wp2
  go_ret
  exact ⟨rfl, HB2.out⟩
theorem read_u16 (v : Value) (l : List Int) (t f : Int) (w : World) (htb : Tab w) (hr : Row .u8 w v l) (hx : 0 ≤ rdv l t f ∧ rdv l t f < 65536) :
    Calls Tryz.prog 248 #[v, .int .i64 t, .int .i64 f] w fun e w' => e = .returned (.int .u16 (rdv l t f)) ∧ Below w.heap.size w w' := by
  have HW := Lib.hid (where_any t f w htb)
  have HL := Lib.hid (fun W (hb : Below w.heap.size w W) => load_any v (whF t f).1 (whF t f).2 l W (hr.mono hb (Nat.le_refl _)))
  have hw : (rdv l t f) % 65536 = rdv l t f := Int.emod_eq_of_lt hx.1 hx.2
  unfold rdv at hx hw ⊢
  generalize (ldv l (whF t f).1 (whF t f).2).1 = x at HL hx hw ⊢
  generalize (ldv l (whF t f).1 (whF t f).2).2 = y at HL
  generalize (whF t f).1 = p at HW HL
  generalize (whF t f).2 = q at HW HL
  clear htb hr hx
  go_enter Tryz.func248, Tryz.ntmps248
  go_wp2_with fail
  refine HW.out.mono ?_
  rintro e w1 ⟨rfl, hb1⟩
  have HB1 := Lib.hid hb1
  clear hb1
  go_wp2_with fail
  refine (HL.out _ HB1.out).mono ?_
  rintro e w2 ⟨rfl, hb2⟩
  have HB2 := Lib.hid (HB1.out.trans (hb2.mono HB1.out.size))
  clear hb2
  go_wp2
  go_ret
  exact ⟨rfl, HB2.out⟩
theorem read_u64 (v : Value) (l : List Int) (t f : Int) (w : World) (htb : Tab w) (hr : Row .u8 w v l) (hx : 0 ≤ rdv l t f ∧ rdv l t f < 18446744073709551616) :
    Calls Tryz.prog 247 #[v, .int .i64 t, .int .i64 f] w fun e w' => e = .returned (.int .u64 (rdv l t f)) ∧ Below w.heap.size w w' := by
  have HW := Lib.hid (where_any t f w htb)
  have HL := Lib.hid (fun W (hb : Below w.heap.size w W) => load_any v (whF t f).1 (whF t f).2 l W (hr.mono hb (Nat.le_refl _)))
  have hw : (rdv l t f) % 18446744073709551616 = rdv l t f := Int.emod_eq_of_lt hx.1 hx.2
  unfold rdv at hx hw ⊢
  generalize (ldv l (whF t f).1 (whF t f).2).1 = x at HL hx hw ⊢
  generalize (ldv l (whF t f).1 (whF t f).2).2 = y at HL
  generalize (whF t f).1 = p at HW HL
  generalize (whF t f).2 = q at HW HL
  clear htb hr hx
  go_enter Tryz.func247, Tryz.ntmps247
  go_wp2_with fail
  refine HW.out.mono ?_
  rintro e w1 ⟨rfl, hb1⟩
  have HB1 := Lib.hid hb1
  clear hb1
  go_wp2_with fail
  refine (HL.out _ HB1.out).mono ?_
  rintro e w2 ⟨rfl, hb2⟩
  have HB2 := Lib.hid (HB1.out.trans (hb2.mono HB1.out.size))
  clear hb2
  go_wp2
  go_ret
  exact ⟨rfl, HB2.out⟩

set_option maxRecDepth 100000 in
set_option maxHeartbeats 4000000 in
theorem parse_any (v : Value) (l : List Int) (t : Int) (w : World) (htb : Tab w) (hr : Row .u8 w v l) (hp : ParOk l t) :
    Calls Tryz.prog 194 #[v, .int .i64 t] w fun e w' => e = .returned (parB l t).agg ∧ Below w.heap.size w w' := by
  have hblk := heap_alloc_new w (.cells (cellsA Blk.zero) 68)
  have hbl0 := below_made w (.cells (cellsA Blk.zero) 68)
  have hz0 : w.heap.size < (w.alloc (.cells (cellsA Blk.zero) 68)).heap.size := by simp
  obtain ⟨BB, hBB⟩ : ∃ BB : World → Prop, BB = fun W => Below (w.alloc (.cells (cellsA Blk.zero) 68)).heap.size (w.alloc (.cells (cellsA Blk.zero) 68)) W := ⟨_, rfl⟩
  have HX : Hid (BB (w.alloc (.cells (cellsA Blk.zero) 68))) := by unfold Hid; rw [hBB]; exact Below.refl _ _
  have HBB : Hid (∀ W V, BB W → Below W.heap.size W V → BB V) := fun W V h hb => by rw [hBB] at h ⊢; exact h.trans (hb.mono h.size)
  have HKeep : Hid (∀ W, BB W → W.heap[w.heap.size]? = some (.cells (cellsA Blk.zero) 68 (0, 0)) ∧ Below w.heap.size w W) := fun W hb => by rw [hBB] at hb; exact ⟨(hb.block _ hz0).trans hblk, hbl0.trans (hb.mono hbl0.size)⟩
  have hk := fun W (h : BB W) => (HKeep.out W h).2
  have H1 := Lib.hid (fun W (h : BB W) => read_int v l t 1 W (htb.keep (hk W h)) (hr.mono (hk W h) (Nat.le_refl _)) hp.b1)
  have H2 := Lib.hid (fun W (h : BB W) => read_int v l t 2 W (htb.keep (hk W h)) (hr.mono (hk W h) (Nat.le_refl _)) hp.b2)
  have H3 := Lib.hid (fun W (h : BB W) => read_int v l t 3 W (htb.keep (hk W h)) (hr.mono (hk W h) (Nat.le_refl _)) hp.b3)
  have H4 := Lib.hid (fun W (h : BB W) => read_u32 v l t 4 W (htb.keep (hk W h)) (hr.mono (hk W h) (Nat.le_refl _)) hp.b4)
  have H5 := Lib.hid (fun W (h : BB W) => read_u32 v l t 5 W (htb.keep (hk W h)) (hr.mono (hk W h) (Nat.le_refl _)) hp.b5)
  have H6 := Lib.hid (fun W (h : BB W) => read_u32 v l t 6 W (htb.keep (hk W h)) (hr.mono (hk W h) (Nat.le_refl _)) hp.b6)
  have H11 := Lib.hid (fun W (h : BB W) => read_u32 v l t 11 W (htb.keep (hk W h)) (hr.mono (hk W h) (Nat.le_refl _)) hp.b11)
  have H7 := Lib.hid (fun W (h : BB W) => read_u64 v l t 7 W (htb.keep (hk W h)) (hr.mono (hk W h) (Nat.le_refl _)) hp.b7)
  have H8 := Lib.hid (fun W (h : BB W) => read_u16 v l t 8 W (htb.keep (hk W h)) (hr.mono (hk W h) (Nat.le_refl _)) hp.b8)
  have H9 := Lib.hid (fun W (h : BB W) => read_int v l t 9 W (htb.keep (hk W h)) (hr.mono (hk W h) (Nat.le_refl _)) hp.b9)
  have H10 := Lib.hid (fun W (h : BB W) => read_u32 v l t 10 W (htb.keep (hk W h)) (hr.mono (hk W h) (Nat.le_refl _)) hp.b10)
  unfold parB
  unfold cellsA Blk.zero at HX
  obtain ⟨x1, hx1⟩ : ∃ x, x = rdv l t 1 := ⟨_, rfl⟩
  obtain ⟨x2, hx2⟩ : ∃ x, x = rdv l t 2 := ⟨_, rfl⟩
  obtain ⟨x3, hx3⟩ : ∃ x, x = rdv l t 3 := ⟨_, rfl⟩
  obtain ⟨x4, hx4⟩ : ∃ x, x = rdv l t 4 := ⟨_, rfl⟩
  obtain ⟨x5, hx5⟩ : ∃ x, x = rdv l t 5 := ⟨_, rfl⟩
  obtain ⟨x6, hx6⟩ : ∃ x, x = rdv l t 6 := ⟨_, rfl⟩
  obtain ⟨x11, hx11⟩ : ∃ x, x = rdv l t 11 := ⟨_, rfl⟩
  obtain ⟨x7, hx7⟩ : ∃ x, x = rdv l t 7 := ⟨_, rfl⟩
  obtain ⟨x8, hx8⟩ : ∃ x, x = rdv l t 8 := ⟨_, rfl⟩
  obtain ⟨x9, hx9⟩ : ∃ x, x = rdv l t 9 := ⟨_, rfl⟩
  obtain ⟨x10, hx10⟩ : ∃ x, x = rdv l t 10 := ⟨_, rfl⟩
  rw [← hx1] at H1
  rw [← hx2] at H2
  rw [← hx3] at H3
  rw [← hx4] at H4
  rw [← hx5] at H5
  rw [← hx6] at H6
  rw [← hx11] at H11
  rw [← hx7] at H7
  rw [← hx8] at H8
  rw [← hx9] at H9
  rw [← hx10] at H10
  rw [← hx1, ← hx2, ← hx3, ← hx4, ← hx5, ← hx6, ← hx11, ← hx7, ← hx8, ← hx9, ← hx10]
  clear hblk hbl0 hz0 hBB hk htb hr hp hx1 hx2 hx3 hx4 hx5 hx6 hx11 hx7 hx8 hx9 hx10
  go_enter Tryz.func194, Tryz.ntmps194
  go_wp2_with fail
  refine (H1.out _ HX.out).mono ?_
  rintro e w1 ⟨rfl, hb⟩
  have HV1 := Lib.hid (HBB.out _ _ HX.out hb)
  clear hb
  go_wp2_with fail
  refine (H2.out _ HV1.out).mono ?_
  rintro e w2 ⟨rfl, hb⟩
  have HV2 := Lib.hid (HBB.out _ _ HV1.out hb)
  clear hb
  go_wp2_with fail
  refine (H3.out _ HV2.out).mono ?_
  rintro e w3 ⟨rfl, hb⟩
  have HV3 := Lib.hid (HBB.out _ _ HV2.out hb)
  clear hb
  go_wp2_with fail
  refine (H4.out _ HV3.out).mono ?_
  rintro e w4 ⟨rfl, hb⟩
  have HV4 := Lib.hid (HBB.out _ _ HV3.out hb)
  clear hb
  go_wp2_with fail
  refine (H5.out _ HV4.out).mono ?_
  rintro e w5 ⟨rfl, hb⟩
  have HV5 := Lib.hid (HBB.out _ _ HV4.out hb)
  clear hb
  go_wp2_with fail
  refine (H6.out _ HV5.out).mono ?_
  rintro e w6 ⟨rfl, hb⟩
  have HV6 := Lib.hid (HBB.out _ _ HV5.out hb)
  clear hb
  go_wp2_with fail
  refine (H11.out _ HV6.out).mono ?_
  rintro e w7 ⟨rfl, hb⟩
  have HV7 := Lib.hid (HBB.out _ _ HV6.out hb)
  clear hb
  go_wp2_with fail
  refine (H7.out _ HV7.out).mono ?_
  rintro e w8 ⟨rfl, hb⟩
  have HV8 := Lib.hid (HBB.out _ _ HV7.out hb)
  clear hb
  go_wp2_with fail
  refine (H8.out _ HV8.out).mono ?_
  rintro e w9 ⟨rfl, hb⟩
  have HV9 := Lib.hid (HBB.out _ _ HV8.out hb)
  clear hb
  go_wp2_with fail
  refine (H9.out _ HV9.out).mono ?_
  rintro e w10 ⟨rfl, hb⟩
  have HV10 := Lib.hid (HBB.out _ _ HV9.out hb)
  clear hb
  go_wp2_with fail
  refine (H10.out _ HV10.out).mono ?_
  rintro e w11 ⟨rfl, hb⟩
  have HV11 := Lib.hid (HBB.out _ _ HV10.out hb)
  clear hb
  obtain ⟨hk1, hk2⟩ := HKeep.out w11 HV11.out
  have f := free_of hk1
  have f0 := f 0
  have f1 := f 1
  have f2 := f 2
  have f3 := f 3
  have f4 := f 4
  have f5 := f 5
  have f6 := f 6
  have f7 := f 7
  have f8 := f 8
  have f9 := f 9
  have f10 := f 10
  have f11 := f 11
  obtain ⟨c0, c1, c2, c3, c4, c5, c6, c7, c8, c9, c10, c11⟩ := cells_of hk1
  have HQ := Lib.hid (cells_of (s12_block hk1 ⟨t, x1, x2 != 0, x3, x4, x5, x6, x11, x7, x8, x9, x10⟩))
  have HBz := Lib.hid (s12_below hk2 (Nat.le_refl _) ⟨t, x1, x2 != 0, x3, x4, x5, x6, x11, x7, x8, x9, x10⟩)
  simp only [] at HQ
  clear hk1 hk2 f
  go_wp2
  show bodyPost _ _ _ _ _ (S12 w11 w.heap.size ⟨t, x1, x2 != 0, x3, x4, x5, x6, x11, x7, x8, x9, x10⟩)
  generalize S12 w11 w.heap.size ⟨t, x1, x2 != 0, x3, x4, x5, x6, x11, x7, x8, x9, x10⟩ = W at HQ HBz ⊢
  obtain ⟨q0, q1, q2, q3, q4, q5, q6, q7, q8, q9, q10, q11⟩ := HQ.out
  refine bodyPost_ret (v := Blk.agg ⟨t, x1, x2 != 0, x3, x4, x5, x6, x11, x7, x8, x9, x10⟩) (by simp [results, Tryz.results194, go_sem, q0, q1, q2, q3, q4, q5, q6, q7, q8, q9, q10, q11, Blk.agg]) rfl ⟨rfl, HBz.out⟩
end Go.Proofs.YtjjfihoplkddfaaGreatDoor.Hea

namespace Go.Proofs.YtjjfihoplkddfaaGreatDoor.Hea
open Go.RowKit Num
set_option linter.unusedVariables false

theorem decode_bad {l : List Int} (hn : l ≠ []) (h : ¬ 2 < l.getD 0 0) (hs : ¬ (l.length : Int) < szF (l.getD 0 0)) (hb : ∀ i, 0 ≤ l.getD i 0 ∧ l.getD i 0 < 256) (hr : rightF { decB l with used := l.getD 2 0 != 0 } = false ∨ 1 < l.getD 2 0) : decF l = (Blk.zero, 4) := by
  rw [decF_rest hn h hs, if_pos ?_]
  by_cases h2 : 1 < l.getD 2 0
  · exact .inl h2
  · refine .inr ?_
    rcases hr with hr | hr
    · have e : (l.getD 2 0 != 0) = (l.getD 2 0 == 1) := by
        have := hb 2
        rcases (show l.getD 2 0 = 0 ∨ l.getD 2 0 = 1 by omega) with e | e <;> rw [e] <;> rfl
      rw [e] at hr
      exact hr
    · exact absurd hr h2
theorem decode_good {l : List Int} (hn : l ≠ []) (h : ¬ 2 < l.getD 0 0) (hs : ¬ (l.length : Int) < szF (l.getD 0 0)) (hb : ∀ i, 0 ≤ l.getD i 0 ∧ l.getD i 0 < 256) (hr : rightF { decB l with used := l.getD 2 0 != 0 } = true) (h2 : ¬ 1 < l.getD 2 0) : decF l = ({ decB l with used := l.getD 2 0 != 0 }, 0) := by
  have e : (l.getD 2 0 != 0) = (l.getD 2 0 == 1) := by
    have := hb 2
    rcases (show l.getD 2 0 = 0 ∨ l.getD 2 0 = 1 by omega) with e | e <;> rw [e] <;> rfl
  rw [e] at hr ⊢
  rw [decF_rest hn h hs, if_neg]
  · rfl
  · rintro (h3 | h3)
    · exact h2 h3
    · rw [show rightF (decB l) = true from hr] at h3
      cases h3

set_option maxRecDepth 100000 in
set_option maxHeartbeats 4000000 in
theorem decode_any (v : Value) (l : List Int) (w : World) (htb : Tab w) (hr : Row .u8 w v l) (hl : l.length ≤ 1000000) :
    Calls Tryz.prog 109 #[v] w fun e w' => e = .returned (.tuple #[(decF l).1.agg, .int .i64 (decF l).2]) ∧ Below w.heap.size w w' := by
  have hby := hr.bytes
  have HRow := Lib.hid hr
  obtain ⟨ad, cap, rfl, q2, q3, q4, q5⟩ := hr
  clear q4
  by_cases hn : l = []
  · subst hn
    rw [decF_nil]
    clear q5 hby HRow htb
    go_enter Tryz.func109, Tryz.ntmps109
    go_wp2
    refine bodyPost_ret (v := .tuple #[Blk.zero.agg, .int .i64 3]) (by simp [results, Tryz.results109, go_sem, Blk.zero, Blk.agg]) rfl ⟨rfl, below_made _ _⟩
  · obtain ⟨b, off, rfl, hlt, hc⟩ := q5 hn
    have HC := Lib.hid hc
    have hl0 : 0 < l.length := List.length_pos_iff.2 hn
    have hl1 : ((l.length : Int) == 0) = false := by rw [beq_eq_false_iff_ne]; omega
    have hli : ¬ l.length = 0 := by omega
    have e0 := ((below_made w (.cells (cellsA Blk.zero) 68)).cell (p := ⟨b, off, none⟩) hlt).trans (hc 0 hl0)
    have b0 := hby 0
    obtain ⟨t, ht⟩ : ∃ t, t = l.getD 0 0 := ⟨_, rfl⟩
    rw [← ht] at e0 b0
    unfold cellsA Blk.zero at e0
    have HTag := Lib.hid (fun W => isTag_any t W)
    by_cases h2 : 2 < t
    · rw [decF_big hn (by rw [← ht]; exact h2)]
      rw [show decide (0 ≤ t ∧ t ≤ 2) = false by rw [decide_eq_false_iff_not]; omega] at HTag
      clear ht hc hn hby q5 HRow htb
      go_enter Tryz.func109, Tryz.ntmps109
      go_wp2_with fail
      refine (HTag.out _).mono ?_
      rintro e w1 ⟨rfl, rfl⟩
      go_wp2
      refine bodyPost_ret (v := .tuple #[Blk.zero.agg, .int .i64 4]) (by simp [results, Tryz.results109, go_sem, Blk.zero, Blk.agg]) rfl ⟨rfl, below_made _ _⟩
    · have h2' : ¬ 2 < l.getD 0 0 := by rw [← ht]; exact h2
      rw [show decide (0 ≤ t ∧ t ≤ 2) = true by rw [decide_eq_true_iff]; omega] at HTag
      have HSz := Lib.hid (fun W => size_any t W)
      obtain ⟨z, hz⟩ : ∃ z, z = szF t := ⟨_, rfl⟩
      rw [← hz] at HSz
      by_cases hs : (l.length : Int) < z
      · rw [decF_short hn h2' (by rw [← ht, ← hz]; exact hs)]
        clear ht hc hn hby q5 HRow hz h2' htb
        go_enter Tryz.func109, Tryz.ntmps109
        go_wp2_with fail
        refine (HTag.out _).mono ?_
        rintro e w1 ⟨rfl, rfl⟩
        go_wp2_with fail
        refine (HSz.out _).mono ?_
        rintro e w1 ⟨rfl, rfl⟩
        go_wp2
        refine bodyPost_ret (v := .tuple #[Blk.zero.agg, .int .i64 3]) (by simp [results, Tryz.results109, go_sem, Blk.zero, Blk.agg]) rfl ⟨rfl, below_made _ _⟩
      · have hs2 : szF t ≤ (l.length : Int) := by omega
        have hs3 : ¬ (l.length : Int) < szF (l.getD 0 0) := by rw [← ht]; omega
        have ht3 : 0 ≤ t ∧ t ≤ 2 := by omega
        obtain ⟨p1, p2, p3⟩ := par_is hby ht ht3 hs2
        have hbad := decode_bad hn h2' hs3 hby
        have hgood := decode_good hn h2' hs3 hby
        have hoky := decB_ok hby
        have HP := Lib.hid (fun W (hb : Below w.heap.size w W) => parse_any (.slice (some ⟨b, off, none⟩) l.length cap) l t W (htb.keep hb) (HRow.out.mono hb (Nat.le_refl _)) p2)
        have HRd := Lib.hid (fun W (hb : Below w.heap.size w W) => read_int (.slice (some ⟨b, off, none⟩) l.length cap) l t 2 W (htb.keep hb) (HRow.out.mono hb (Nat.le_refl _)) p2.b2)
        have b2 := hby 2
        rw [p1] at HP
        rw [p3] at HRd
        obtain ⟨B, hB⟩ : ∃ B : Blk, B = { decB l with used := l.getD 2 0 != 0 } := ⟨_, rfl⟩
        rw [← hB] at HP hbad hgood
        have HRi := Lib.hid (fun W => right_any B W)
        obtain ⟨y, hy⟩ : ∃ y, y = l.getD 2 0 := ⟨_, rfl⟩
        rw [← hy] at HRd hbad hgood b2
        obtain ⟨D, hD⟩ : ∃ D, D = decF l := ⟨_, rfl⟩
        rw [← hD] at hbad hgood ⊢
        generalize rightF B = R at HRi hbad hgood
        have HBad := Lib.hid hbad
        have HGood := Lib.hid hgood
        have hblk := heap_alloc_new w (.cells (cellsA Blk.zero) 68)
        have hbl0 := below_made w (.cells (cellsA Blk.zero) 68)
        have hz0 : w.heap.size < (w.alloc (.cells (cellsA Blk.zero) 68)).heap.size := by simp
        obtain ⟨BB, hBB⟩ : ∃ BB : World → Prop, BB = fun W => Below (w.alloc (.cells (cellsA Blk.zero) 68)).heap.size (w.alloc (.cells (cellsA Blk.zero) 68)) W := ⟨_, rfl⟩
        have HX : Hid (BB (w.alloc (.cells (cellsA Blk.zero) 68))) := by unfold Hid; rw [hBB]; exact Below.refl _ _
        have HBB : Hid (∀ W V, BB W → Below W.heap.size W V → BB V) := fun W V h hb => by rw [hBB] at h ⊢; exact h.trans (hb.mono h.size)
        have HKeep : Hid (∀ W, BB W → W.heap[w.heap.size]? = some (.cells (cellsA Blk.zero) 68 (0, 0)) ∧ Below w.heap.size w W) := fun W hb => by rw [hBB] at hb; exact ⟨(hb.block _ hz0).trans hblk, hbl0.trans (hb.mono hbl0.size)⟩
        unfold cellsA Blk.zero at HX
        unfold Blk.agg at HP HRi
        obtain ⟨B0, B1, B2, B3, B4, B5, B6, B7, B8, B9, B10, B11⟩ := B
        simp only [] at HP HRi
        clear ht hc hn hby q5 HRow hz h2' htb hs2 hs3 p1 p2 p3 hbad hgood hoky hB hy hD hblk hbl0 hz0 hBB ht3
        have HBx : Hid (∀ (W V : World), (∃ X : World, X = W.alloc (.cells #[.int .i64 B0, .int .i64 B1, .bool B2, .int .i64 B3, .int .u32 B4, .int .u32 B5, .int .u32 B6, .int .u32 B7, .int .u64 B8, .int .u16 B9, .int .i64 B10, .int .u32 B11] 68) ∧ Below X.heap.size X V) → V.cell? ⟨W.heap.size, 0, none⟩ = some (.int .i64 B0) ∧ V.cell? ⟨W.heap.size, 1, none⟩ = some (.int .i64 B1) ∧ V.cell? ⟨W.heap.size, 2, none⟩ = some (.bool B2) ∧ V.cell? ⟨W.heap.size, 3, none⟩ = some (.int .i64 B3) ∧ V.cell? ⟨W.heap.size, 4, none⟩ = some (.int .u32 B4) ∧ V.cell? ⟨W.heap.size, 5, none⟩ = some (.int .u32 B5) ∧ V.cell? ⟨W.heap.size, 6, none⟩ = some (.int .u32 B6) ∧ V.cell? ⟨W.heap.size, 7, none⟩ = some (.int .u32 B7) ∧ V.cell? ⟨W.heap.size, 8, none⟩ = some (.int .u64 B8) ∧ V.cell? ⟨W.heap.size, 9, none⟩ = some (.int .u16 B9) ∧ V.cell? ⟨W.heap.size, 10, none⟩ = some (.int .i64 B10) ∧ V.cell? ⟨W.heap.size, 11, none⟩ = some (.int .u32 B11)) := by
          rintro W V ⟨X, rfl, hb⟩
          exact cells_of (b := ⟨B0, B1, B2, B3, B4, B5, B6, B7, B8, B9, B10, B11⟩) ((hb.block _ (by simp)).trans (heap_alloc_new W _))
        cases R
        · rw [HBad.out (.inl rfl)]
          clear HBad HGood HRd
          go_enter Tryz.func109, Tryz.ntmps109
          go_wp2_with fail
          refine (HTag.out _).mono ?_
          rintro e w1 ⟨rfl, rfl⟩
          go_wp2_with fail
          refine (HSz.out _).mono ?_
          rintro e w1 ⟨rfl, rfl⟩
          go_wp2_with fail
          refine (HP.out _ (HKeep.out _ HX.out).2).mono ?_
          rintro e w1 ⟨rfl, hb1⟩
          have HV1 := Lib.hid (HBB.out _ _ HX.out hb1)
          have hb2 := below_made w1 (.cells #[.int .i64 B0, .int .i64 B1, .bool B2, .int .i64 B3, .int .u32 B4, .int .u32 B5, .int .u32 B6, .int .u32 B7, .int .u64 B8, .int .u16 B9, .int .i64 B10, .int .u32 B11] 68)
          have HV2 := Lib.hid (HBB.out _ _ HV1.out hb2)
          obtain ⟨c0, c1, c2, c3, c4, c5, c6, c7, c8, c9, c10, c11⟩ := HBx.out w1 _ ⟨_, rfl, Below.refl _ _⟩
          clear hb1 hb2
          go_wp2_with fail
          refine (HRi.out _).mono ?_
          rintro e w3 ⟨rfl, hb3⟩
          have HV3 := Lib.hid (HBB.out _ _ HV2.out hb3)
          clear hb3 c0 c1 c2 c3 c4 c5 c6 c7 c8 c9 c10 c11
          obtain ⟨hk1, hk2⟩ := HKeep.out w3 HV3.out
          obtain ⟨c0, c1, c2, c3, c4, c5, c6, c7, c8, c9, c10, c11⟩ := cells_of hk1
          have f := free_of hk1
          have f0 := f 0
          have f1 := f 1
          have f2 := f 2
          have f3 := f 3
          have f4 := f 4
          have f5 := f 5
          have f6 := f 6
          have f7 := f 7
          have f8 := f 8
          have f9 := f 9
          have f10 := f 10
          have f11 := f 11
          have HQ := Lib.hid (cells_of (s12_block hk1 Blk.zero))
          have HBz := Lib.hid (s12_below hk2 (Nat.le_refl _) Blk.zero)
          clear hk1 hk2 f
          go_wp2
          show bodyPost _ _ _ _ _ (S12 w3 w.heap.size Blk.zero)
          generalize S12 w3 w.heap.size Blk.zero = W at HQ HBz ⊢
          obtain ⟨q0, q1, q2, q3, q4, q5, q6, q7, q8, q9, q10, q11⟩ := HQ.out
          refine bodyPost_ret (v := .tuple #[Blk.zero.agg, .int .i64 4]) (by simp [results, Tryz.results109, go_sem, q0, q1, q2, q3, q4, q5, q6, q7, q8, q9, q10, q11, Blk.zero, Blk.agg]) rfl ⟨rfl, HBz.out⟩
        by_cases hy1 : 1 < y
        · rw [HBad.out (.inr hy1)]
          clear HBad HGood
          go_enter Tryz.func109, Tryz.ntmps109
          go_wp2_with fail
          refine (HTag.out _).mono ?_
          rintro e w1 ⟨rfl, rfl⟩
          go_wp2_with fail
          refine (HSz.out _).mono ?_
          rintro e w1 ⟨rfl, rfl⟩
          go_wp2_with fail
          refine (HP.out _ (HKeep.out _ HX.out).2).mono ?_
          rintro e w1 ⟨rfl, hb1⟩
          have HV1 := Lib.hid (HBB.out _ _ HX.out hb1)
          have hb2 := below_made w1 (.cells #[.int .i64 B0, .int .i64 B1, .bool B2, .int .i64 B3, .int .u32 B4, .int .u32 B5, .int .u32 B6, .int .u32 B7, .int .u64 B8, .int .u16 B9, .int .i64 B10, .int .u32 B11] 68)
          have HV2 := Lib.hid (HBB.out _ _ HV1.out hb2)
          obtain ⟨c0, c1, c2, c3, c4, c5, c6, c7, c8, c9, c10, c11⟩ := HBx.out w1 _ ⟨_, rfl, Below.refl _ _⟩
          clear hb1 hb2
          go_wp2_with fail
          refine (HRi.out _).mono ?_
          rintro e w3 ⟨rfl, hb3⟩
          have HV3 := Lib.hid (HBB.out _ _ HV2.out hb3)
          clear hb3 c0 c1 c2 c3 c4 c5 c6 c7 c8 c9 c10 c11
          go_wp2_with fail
          refine (HRd.out _ (HKeep.out _ HV3.out).2).mono ?_
          rintro e w4 ⟨rfl, hb4⟩
          have HV4 := Lib.hid (HBB.out _ _ HV3.out hb4)
          clear hb4
          obtain ⟨hk1, hk2⟩ := HKeep.out w4 HV4.out
          obtain ⟨c0, c1, c2, c3, c4, c5, c6, c7, c8, c9, c10, c11⟩ := cells_of hk1
          have f := free_of hk1
          have f0 := f 0
          have f1 := f 1
          have f2 := f 2
          have f3 := f 3
          have f4 := f 4
          have f5 := f 5
          have f6 := f 6
          have f7 := f 7
          have f8 := f 8
          have f9 := f 9
          have f10 := f 10
          have f11 := f 11
          have HQ := Lib.hid (cells_of (s12_block hk1 Blk.zero))
          have HBz := Lib.hid (s12_below hk2 (Nat.le_refl _) Blk.zero)
          clear hk1 hk2 f
          go_wp2
          show bodyPost _ _ _ _ _ (S12 w4 w.heap.size Blk.zero)
          generalize S12 w4 w.heap.size Blk.zero = W at HQ HBz ⊢
          obtain ⟨q0, q1, q2, q3, q4, q5, q6, q7, q8, q9, q10, q11⟩ := HQ.out
          refine bodyPost_ret (v := .tuple #[Blk.zero.agg, .int .i64 4]) (by simp [results, Tryz.results109, go_sem, q0, q1, q2, q3, q4, q5, q6, q7, q8, q9, q10, q11, Blk.zero, Blk.agg]) rfl ⟨rfl, HBz.out⟩
        · rw [HGood.out rfl hy1]
          have hy1' : decide (1 < y) = false := by rw [decide_eq_false_iff_not]; exact hy1
          clear HBad HGood
          go_enter Tryz.func109, Tryz.ntmps109
          go_wp2_with fail
          refine (HTag.out _).mono ?_
          rintro e w1 ⟨rfl, rfl⟩
          go_wp2_with fail
          refine (HSz.out _).mono ?_
          rintro e w1 ⟨rfl, rfl⟩
          go_wp2_with fail
          refine (HP.out _ (HKeep.out _ HX.out).2).mono ?_
          rintro e w1 ⟨rfl, hb1⟩
          have HV1 := Lib.hid (HBB.out _ _ HX.out hb1)
          have hb2 := below_made w1 (.cells #[.int .i64 B0, .int .i64 B1, .bool B2, .int .i64 B3, .int .u32 B4, .int .u32 B5, .int .u32 B6, .int .u32 B7, .int .u64 B8, .int .u16 B9, .int .i64 B10, .int .u32 B11] 68)
          have HV2 := Lib.hid (HBB.out _ _ HV1.out hb2)
          obtain ⟨c0, c1, c2, c3, c4, c5, c6, c7, c8, c9, c10, c11⟩ := HBx.out w1 _ ⟨_, rfl, Below.refl _ _⟩
          clear hb1 hb2
          go_wp2_with fail
          refine (HRi.out _).mono ?_
          rintro e w3 ⟨rfl, hb3⟩
          have HV3 := Lib.hid (HBB.out _ _ HV2.out hb3)
          clear c0 c1 c2 c3 c4 c5 c6 c7 c8 c9 c10 c11
          have HB3 := Lib.hid hb3
          clear hb3
          go_wp2_with fail
          refine (HRd.out _ (HKeep.out _ HV3.out).2).mono ?_
          rintro e w4 ⟨rfl, hb4⟩
          have HV4 := Lib.hid (HBB.out _ _ HV3.out hb4)
          obtain ⟨d0, d1, d2, d3, d4, d5, d6, d7, d8, d9, d10, d11⟩ := HBx.out w1 w4 ⟨_, rfl, HB3.out.trans (hb4.mono HB3.out.size)⟩
          clear hb4
          obtain ⟨hk1, hk2⟩ := HKeep.out w4 HV4.out
          obtain ⟨c0, c1, c2, c3, c4, c5, c6, c7, c8, c9, c10, c11⟩ := cells_of hk1
          have f := free_of hk1
          have f0 := f 0
          have f1 := f 1
          have f2 := f 2
          have f3 := f 3
          have f4 := f 4
          have f5 := f 5
          have f6 := f 6
          have f7 := f 7
          have f8 := f 8
          have f9 := f 9
          have f10 := f 10
          have f11 := f 11
          have HQ := Lib.hid (cells_of (s12_block hk1 ⟨B0, B1, B2, B3, B4, B5, B6, B7, B8, B9, B10, B11⟩))
          have HBz := Lib.hid (s12_below hk2 (Nat.le_refl _) ⟨B0, B1, B2, B3, B4, B5, B6, B7, B8, B9, B10, B11⟩)
          simp only [] at HQ
          clear hk1 hk2 f
          go_wp2
          show bodyPost _ _ _ _ _ (S12 w4 w.heap.size ⟨B0, B1, B2, B3, B4, B5, B6, B7, B8, B9, B10, B11⟩)
          generalize S12 w4 w.heap.size ⟨B0, B1, B2, B3, B4, B5, B6, B7, B8, B9, B10, B11⟩ = W at HQ HBz ⊢
          obtain ⟨q0, q1, q2, q3, q4, q5, q6, q7, q8, q9, q10, q11⟩ := HQ.out
          refine bodyPost_ret (v := .tuple #[Blk.agg ⟨B0, B1, B2, B3, B4, B5, B6, B7, B8, B9, B10, B11⟩, .int .i64 0]) (by simp [results, Tryz.results109, go_sem, q0, q1, q2, q3, q4, q5, q6, q7, q8, q9, q10, q11, Blk.agg]) rfl ⟨rfl, HBz.out⟩
end Go.Proofs.YtjjfihoplkddfaaGreatDoor.Hea
