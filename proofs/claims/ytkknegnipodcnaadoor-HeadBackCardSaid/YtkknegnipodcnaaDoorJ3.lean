/- Plain mathematics of heads of blocks: their fields, which may be, their bytes. The document's Where, Size, number. Blocks that are parameters; the document's number. The document's Right. The document's Encode. The document's taken, with. The document's Decode. What is asked of head's functions; the example of the page; HeadWhere. Heads come back from their bytes, and bytes from their heads. The landed head: its tables; where fields lie; how long heads are. The landed head: Right. The landed head: the numbers in a header's bytes; Decode. The landed head: Decode. Heads, as they come in as arguments. HeadWhere, HeadCodes. HeadBack. (Made by tools/gen_XHeaR.py.) -/
import Derived.Test.YtkknegnipodcnaaDoorJ2
import Derived.Test.YtkknegnipodcnaaDoorJ1
import Derived.Deep.RegionHeld3
import Derived.Laws.StructEq
import Derived.BigQuiet
namespace Go.Proofs.YtkknegnipodcnaaDoor.Hea
open Go.RowKit Num
set_option linter.unusedVariables false

structure Blk where
  tag : Int
  cls : Int
  used : Bool
  lab : Int
  name : Int
  next : Int
  prev : Int
  refs : Int
  exp : Int
  typ : Int
  size : Int
  hash : Int
def Blk.zero : Blk := ⟨0, 0, false, 0, 0, 0, 0, 0, 0, 0, 0, 0⟩
def Blk.cells (b : Blk) : List Value := [.int .i64 b.tag, .int .i64 b.cls, .bool b.used, .int .i64 b.lab, .int .u32 b.name, .int .u32 b.next, .int .u32 b.prev, .int .u32 b.refs, .int .u64 b.exp, .int .u16 b.typ, .int .i64 b.size, .int .u32 b.hash]
def Blk.agg (b : Blk) : Value := .agg #[.int .i64 b.tag, .int .i64 b.cls, .bool b.used, .int .i64 b.lab, .int .u32 b.name, .int .u32 b.next, .int .u32 b.prev, .int .u32 b.refs, .int .u64 b.exp, .int .u16 b.typ, .int .i64 b.size, .int .u32 b.hash]
def i64 (n : Int) : Prop := -9223372036854775808 ≤ n ∧ n ≤ 9223372036854775807
def u32 (n : Int) : Prop := 0 ≤ n ∧ n < 4294967296
def u64 (n : Int) : Prop := 0 ≤ n ∧ n < 18446744073709551616
def u16 (n : Int) : Prop := 0 ≤ n ∧ n < 65536
structure Blk.Ok (b : Blk) : Prop where
  tag : i64 b.tag
  cls : i64 b.cls
  lab : i64 b.lab
  name : u32 b.name
  next : u32 b.next
  prev : u32 b.prev
  refs : u32 b.refs
  exp : u64 b.exp
  typ : u16 b.typ
  size : i64 b.size
  hash : u32 b.hash
theorem Blk.zero_ok : Blk.zero.Ok := by
  constructor <;> simp [Blk.zero, i64, u32, u64, u16]
/-- Where a field lies, and how many bytes it has. -/
def whF (t f : Int) : Int × Int :=
  if t < 0 ∨ 2 < t ∨ f < 0 ∨ 11 < f then (0, 0) else if f < 4 then (f, 1) else if f = 4 then (4, 4)
  else if t = 1 ∧ f = 5 then (8, 4) else if t = 1 ∧ f = 6 then (12, 4) else if t = 1 ∧ f = 7 then (16, 8) else if t = 1 ∧ f = 8 then (24, 2) else if t = 1 ∧ f = 9 then (26, 2) else if t = 1 ∧ f = 10 then (28, 4)
  else if t = 2 ∧ f = 11 then (8, 4) else if t = 2 ∧ f = 10 then (12, 4) else (0, 0)
def szF (t : Int) : Int := if t = 0 then 8 else if t = 1 then 32 else if t = 2 then 16 else 0
/-- A field's number. -/
def numF (b : Blk) (f : Nat) : Int :=
  match f with
  | 0 => IntKind.u64.wrap b.tag
  | 1 => IntKind.u64.wrap b.cls
  | 2 => if b.used then 1 else 0
  | 3 => IntKind.u64.wrap b.lab
  | 4 => b.name
  | 5 => b.next
  | 6 => b.prev
  | 7 => b.exp
  | 8 => b.typ
  | 9 => IntKind.u64.wrap b.size
  | 10 => b.hash
  | _ => b.refs
theorem u64_bd (n : Int) : 0 ≤ IntKind.u64.wrap n ∧ IntKind.u64.wrap n < 18446744073709551616 := by
  simp [IntKind.wrap, IntKind.bits, IntKind.signed]
  omega
theorem u64_id {n : Int} (h0 : 0 ≤ n) (h1 : n < 18446744073709551616) : IntKind.u64.wrap n = n := by
  simp [IntKind.wrap, IntKind.bits, IntKind.signed]
  omega
theorem numF_bd {b : Blk} (h : b.Ok) (f : Nat) : 0 ≤ numF b f ∧ numF b f < 18446744073709551616 := by
  obtain ⟨h1, h2, h3, h4, h5, h6, h7, h8, h9, h10, h11⟩ := h
  simp only [i64, u32, u64, u16] at *
  unfold numF
  split
  · exact u64_bd _
  · exact u64_bd _
  · split <;> omega
  · exact u64_bd _
  · omega
  · omega
  · omega
  · omega
  · omega
  · exact u64_bd _
  · omega
  · omega
/-- Which heads may be. -/
def RightP (b : Blk) : Prop :=
  (b.tag = 0 ∧ b.cls = 0 ∧ b.used = false ∧ b.lab = 0 ∧ b.next = 0 ∧ b.prev = 0 ∧ b.exp = 0 ∧ b.typ = 0 ∧ b.size = 0 ∧ b.hash = 0 ∧ b.refs = 0) ∨
  (b.tag = 1 ∧ 1 ≤ b.cls ∧ b.cls ≤ 9 ∧ b.lab = 0 ∧ 0 ≤ b.size ∧ b.size ≤ 480 ∧ b.refs = 0) ∨
  (b.tag = 2 ∧ 1 ≤ b.cls ∧ b.cls ≤ 9 ∧ b.used = false ∧ 1 ≤ b.lab ∧ b.lab ≤ 63 ∧ b.next = 0 ∧ b.prev = 0 ∧ b.exp = 0 ∧ b.typ = 0 ∧ b.size = 0)
instance (b : Blk) : Decidable (RightP b) := by unfold RightP; infer_instance
def rightF (b : Blk) : Bool := decide (RightP b)
def p2 (v : Int) : List Int := [v % 256, v / 256]
def p4 (v : Int) : List Int := [v % 256, v / 256 % 256, v / 65536 % 256, v / 16777216]
def p8 (v : Int) : List Int := [v % 256, v / 256 % 256, v / 65536 % 256, v / 16777216 % 256, v / 4294967296 % 256, v / 1099511627776 % 256, v / 281474976710656 % 256, v / 72057594037927936]
def p1 (b : Blk) : List Int := [b.tag, b.cls, if b.used then 1 else 0, b.lab]
def encL (b : Blk) : List Int :=
  p1 b ++ (p4 b.name ++ (if b.tag = 1 then p4 b.next ++ (p4 b.prev ++ (p8 b.exp ++ (p2 b.typ ++ (p2 b.size ++ p4 b.hash)))) else if b.tag = 2 then p4 b.refs ++ p4 b.hash else []))
def encF (b : Blk) : List Int × Int := if rightF b then (encL b, 0) else ([], 2)
def rdF (l : List Int) (a n : Nat) : Int := le ((l.drop a).take n)
/-- What bytes say of a head. -/
def decB (l : List Int) : Blk :=
  ⟨l.getD 0 0, l.getD 1 0, l.getD 2 0 == 1, l.getD 3 0, rdF l 4 4, if l.getD 0 0 = 1 then rdF l 8 4 else 0, if l.getD 0 0 = 1 then rdF l 12 4 else 0, if l.getD 0 0 = 2 then rdF l 8 4 else 0, if l.getD 0 0 = 1 then rdF l 16 8 else 0,
    if l.getD 0 0 = 1 then rdF l 24 2 else 0, if l.getD 0 0 = 1 then rdF l 26 2 else 0, if l.getD 0 0 = 1 then rdF l 28 4 else if l.getD 0 0 = 2 then rdF l 12 4 else 0⟩
def decF (l : List Int) : Blk × Int :=
  if l = [] then (Blk.zero, 3) else if 2 < l.getD 0 0 then (Blk.zero, 4) else if (l.length : Int) < szF (l.getD 0 0) then (Blk.zero, 3)
  else if 1 < l.getD 2 0 ∨ rightF (decB l) = false then (Blk.zero, 4) else (decB l, 0)
end Go.Proofs.YtkknegnipodcnaaDoor.Hea

namespace Go.Proofs.YtkknegnipodcnaaDoor.Hea
open Go.RowKit Num
set_option linter.unusedVariables false

theorem wrap_id {n : Int} (h1 : -9223372036854775808 ≤ n) (h2 : n ≤ 9223372036854775807) : IntKind.i64.wrap n = n := by simp [IntKind.wrap, IntKind.bits, IntKind.signed]; omega

theorem below2 (w : World) (a b : Obj) : Below w.heap.size w ((w.alloc a).alloc b) := ((Below.refl _ w).alloc (Nat.le_refl _) a).alloc (le_alloc _ (Nat.le_refl _)) b

set_option maxRecDepth 100000 in
set_option maxHeartbeats 4000000 in
theorem refWhere_any (t f : Int) (w : World) : Calls Tryd.prog 16 #[.int .i64 t, .int .i64 f] w fun e w' => e = .returned (.tuple #[.int .i64 (whF t f).1, .int .i64 (whF t f).2]) ∧ Below w.heap.size w w' := by
  by_cases t0 : t < 0
  · rw [show whF t f = (0, 0) by rw [whF, if_pos (.inl t0)]]
    go_enter Tryd.func16, Tryd.ntmps16
    go_wp2
    go_ret2
    exact ⟨rfl, Below.refl _ _⟩
  have t0' : decide (t < 0) = false := by simpa using t0
  by_cases t2 : 2 < t
  · rw [show whF t f = (0, 0) by rw [whF, if_pos (.inr (.inl t2))]]
    go_enter Tryd.func16, Tryd.ntmps16
    go_wp2
    go_ret2
    exact ⟨rfl, Below.refl _ _⟩
  have t2' : decide (2 < t) = false := by simpa using t2
  by_cases f0 : f < 0
  · rw [show whF t f = (0, 0) by rw [whF, if_pos (.inr (.inr (.inl f0)))]]
    go_enter Tryd.func16, Tryd.ntmps16
    go_wp2
    go_ret2
    exact ⟨rfl, Below.refl _ _⟩
  have f0' : decide (f < 0) = false := by simpa using f0
  by_cases f11 : 11 < f
  · rw [show whF t f = (0, 0) by rw [whF, if_pos (.inr (.inr (.inr f11)))]]
    go_enter Tryd.func16, Tryd.ntmps16
    go_wp2
    go_ret2
    exact ⟨rfl, Below.refl _ _⟩
  have f11' : decide (11 < f) = false := by simpa using f11
  have hn : ¬ (t < 0 ∨ 2 < t ∨ f < 0 ∨ 11 < f) := by omega
  by_cases f4 : f < 4
  · rw [show whF t f = (f, 1) by rw [whF, if_neg hn, if_pos f4]]
    go_enter Tryd.func16, Tryd.ntmps16
    go_wp2
    go_ret2
    exact ⟨rfl, Below.refl _ _⟩
  obtain ⟨k, rfl⟩ : ∃ k : Nat, f = k := ⟨f.toNat, by omega⟩
  obtain ⟨j, rfl⟩ : ∃ j : Nat, t = j := ⟨t.toNat, by omega⟩
  have hk : k = 4 ∨ k = 5 ∨ k = 6 ∨ k = 7 ∨ k = 8 ∨ k = 9 ∨ k = 10 ∨ k = 11 := by omega
  have hj : j = 0 ∨ j = 1 ∨ j = 2 := by omega
  clear t0 t2 f0 f11 hn f4 t0' t2' f0' f11'
  rcases hj with rfl | rfl | rfl <;> rcases hk with rfl | rfl | rfl | rfl | rfl | rfl | rfl | rfl
  all_goals
    go_enter Tryd.func16, Tryd.ntmps16
    first
      | (go_wp2; go_ret2; exact ⟨rfl, Below.refl _ _⟩)
      | (go_wp2; go_region; all_goals go_wp2; all_goals go_ret2; all_goals first | exact ⟨rfl, below2 _ _ _⟩ | exact ⟨rfl, (below2 _ _ _).drew⟩ | exact ⟨rfl, below_drewN (below2 _ _ _) _⟩)

theorem refSize_any (t : Int) (w : World) : Calls Tryd.prog 18 #[.int .i64 t] w fun e w' => e = .returned (.int .i64 (szF t)) ∧ Below w.heap.size w w' := by
  by_cases t0 : t < 0
  · rw [show szF t = 0 by unfold szF; rw [if_neg (by omega), if_neg (by omega), if_neg (by omega)]]
    go_enter Tryd.func18, Tryd.ntmps18
    go_wp2
    go_ret
    exact ⟨rfl, Below.refl _ _⟩
  have t0' : decide (t < 0) = false := by simpa using t0
  by_cases t2 : 2 < t
  · rw [show szF t = 0 by unfold szF; rw [if_neg (by omega), if_neg (by omega), if_neg (by omega)]]
    go_enter Tryd.func18, Tryd.ntmps18
    go_wp2
    go_ret
    exact ⟨rfl, Below.refl _ _⟩
  have hj : t = 0 ∨ t = 1 ∨ t = 2 := by omega
  clear t0 t2 t0'
  rcases hj with rfl | rfl | rfl
  all_goals
    go_enter Tryd.func18, Tryd.ntmps18
    go_wp2
    go_ret
    exact ⟨rfl, below_made _ _⟩
end Go.Proofs.YtkknegnipodcnaaDoor.Hea

namespace Go.Proofs.YtkknegnipodcnaaDoor.Hea
open Go.RowKit Num
set_option linter.unusedVariables false

def BW (w : World) (b : Blk) : World := w.alloc (.cells #[.int .i64 b.tag, .int .i64 b.cls, .bool b.used, .int .i64 b.lab, .int .u32 b.name, .int .u32 b.next, .int .u32 b.prev, .int .u32 b.refs, .int .u64 b.exp, .int .u16 b.typ, .int .i64 b.size, .int .u32 b.hash] 26)
/-- A block that is a parameter lies in a box. -/
structure BX (w W : World) (b : Blk) : Prop where
  c0 : W.cell? ⟨w.heap.size, 0, none⟩ = some (.int .i64 b.tag)
  c1 : W.cell? ⟨w.heap.size, 1, none⟩ = some (.int .i64 b.cls)
  c2 : W.cell? ⟨w.heap.size, 2, none⟩ = some (.bool b.used)
  c3 : W.cell? ⟨w.heap.size, 3, none⟩ = some (.int .i64 b.lab)
  c4 : W.cell? ⟨w.heap.size, 4, none⟩ = some (.int .u32 b.name)
  c5 : W.cell? ⟨w.heap.size, 5, none⟩ = some (.int .u32 b.next)
  c6 : W.cell? ⟨w.heap.size, 6, none⟩ = some (.int .u32 b.prev)
  c7 : W.cell? ⟨w.heap.size, 7, none⟩ = some (.int .u32 b.refs)
  c8 : W.cell? ⟨w.heap.size, 8, none⟩ = some (.int .u64 b.exp)
  c9 : W.cell? ⟨w.heap.size, 9, none⟩ = some (.int .u16 b.typ)
  c10 : W.cell? ⟨w.heap.size, 10, none⟩ = some (.int .i64 b.size)
  c11 : W.cell? ⟨w.heap.size, 11, none⟩ = some (.int .u32 b.hash)
  lt : w.heap.size < W.heap.size
  bel : Below w.heap.size w W
theorem BX.first (w : World) (b : Blk) : BX w (BW w b) b := by
  have h := heap_alloc_new w (.cells #[.int .i64 b.tag, .int .i64 b.cls, .bool b.used, .int .i64 b.lab, .int .u32 b.name, .int .u32 b.next, .int .u32 b.prev, .int .u32 b.refs, .int .u64 b.exp, .int .u16 b.typ, .int .i64 b.size, .int .u32 b.hash] 26)
  exact ⟨(cell_block h 0).trans rfl, (cell_block h 1).trans rfl, (cell_block h 2).trans rfl, (cell_block h 3).trans rfl, (cell_block h 4).trans rfl, (cell_block h 5).trans rfl, (cell_block h 6).trans rfl, (cell_block h 7).trans rfl, (cell_block h 8).trans rfl, (cell_block h 9).trans rfl, (cell_block h 10).trans rfl, (cell_block h 11).trans rfl,
    by unfold BW; exact (by simp : w.heap.size < (w.alloc _).heap.size), below_made _ _⟩
theorem BX.below {w W V : World} {b : Blk} (h : BX w W b) (hb : Below W.heap.size W V) : BX w V b := by
  have hc : ∀ o u, W.cell? ⟨w.heap.size, o, none⟩ = some u → V.cell? ⟨w.heap.size, o, none⟩ = some u := fun o u e => (hb.cell (p := ⟨w.heap.size, o, none⟩) h.lt).trans e
  exact ⟨hc _ _ h.c0, hc _ _ h.c1, hc _ _ h.c2, hc _ _ h.c3, hc _ _ h.c4, hc _ _ h.c5, hc _ _ h.c6, hc _ _ h.c7, hc _ _ h.c8, hc _ _ h.c9, hc _ _ h.c10, hc _ _ h.c11, Nat.lt_of_lt_of_le h.lt hb.size, h.bel.trans (hb.mono h.bel.size)⟩

set_option maxRecDepth 100000 in
set_option maxHeartbeats 4000000 in
theorem refNumber_any (b : Blk) (hb : b.Ok) (f : Nat) (hf : f < 12) (w : World) : Calls Tryd.prog 29 #[b.agg, .int .i64 (f : Int)] w fun e w' => e = .returned (.int .u64 (numF b f)) ∧ Below w.heap.size w w' := by
  obtain ⟨c0, c1, c2, c3, c4, c5, c6, c7, c8, c9, c10, c11, -, hbel⟩ := BX.first w b
  unfold BW at c0 c1 c2 c3 c4 c5 c6 c7 c8 c9 c10 c11 hbel
  obtain ⟨h1, h2, h3, h4, h5, h6, h7, h8, h9, h10, h11⟩ := hb
  simp only [u32, u64, u16] at h4 h5 h6 h7 h8 h9 h11
  have e4 : IntKind.u64.wrap b.name = b.name := u64_id (by omega) (by omega)
  have e5 : IntKind.u64.wrap b.next = b.next := u64_id (by omega) (by omega)
  have e6 : IntKind.u64.wrap b.prev = b.prev := u64_id (by omega) (by omega)
  have e7 : IntKind.u64.wrap b.refs = b.refs := u64_id (by omega) (by omega)
  have e8 : IntKind.u64.wrap b.typ = b.typ := u64_id (by omega) (by omega)
  have e9 : IntKind.u64.wrap b.hash = b.hash := u64_id (by omega) (by omega)
  have HB := Lib.hid hbel
  obtain ⟨tag, cls, used, lab, name, next, prev, refs, exp, typ, size, hash⟩ := b
  simp only [] at c0 c1 c2 c3 c4 c5 c6 c7 c8 c9 c10 c11 e4 e5 e6 e7 e8 e9 HB
  clear h1 h2 h3 h4 h5 h6 h7 h8 h9 h10 h11 hbel
  unfold Blk.agg
  have hk : f = 0 ∨ f = 1 ∨ f = 2 ∨ f = 3 ∨ f = 4 ∨ f = 5 ∨ f = 6 ∨ f = 7 ∨ f = 8 ∨ f = 9 ∨ f = 10 ∨ f = 11 := by omega
  clear hf
  rcases hk with rfl | rfl | rfl | rfl | rfl | rfl | rfl | rfl | rfl | rfl | rfl | rfl
  case inr.inr.inl =>
    cases used
    all_goals
      go_enter Tryd.func29, Tryd.ntmps29
      go_wp2
      go_ret
      exact ⟨rfl, HB.out⟩
  all_goals
    go_enter Tryd.func29, Tryd.ntmps29
    go_wp2
    go_ret
    exact ⟨rfl, HB.out⟩
end Go.Proofs.YtkknegnipodcnaaDoor.Hea

namespace Go.Proofs.YtkknegnipodcnaaDoor.Hea
open Go.RowKit Num
set_option linter.unusedVariables false

/-- All fields that a block with that tag has not are 0. -/
def noneF (b : Blk) (k : Nat) : Prop := ∀ j : Nat, j < k → (whF b.tag j).2 = 0 → numF b j = 0
theorem u64_zero {n : Int} (h0 : 0 ≤ n) (h1 : n ≤ 480) (h : IntKind.u64.wrap n = 0) : n = 0 := by
  rw [u64_id h0 (by omega)] at h
  exact h
theorem none_zero {b : Blk} (ht : b.tag = 0) (hs : 0 ≤ b.size ∧ b.size ≤ 480) (h : noneF b 12) : b.next = 0 ∧ b.prev = 0 ∧ b.exp = 0 ∧ b.typ = 0 ∧ b.size = 0 ∧ b.hash = 0 ∧ b.refs = 0 := by
  unfold noneF at h
  rw [ht] at h
  exact ⟨h 5 (by decide) (by decide), h 6 (by decide) (by decide), h 7 (by decide) (by decide), h 8 (by decide) (by decide), u64_zero hs.1 hs.2 (h 9 (by decide) (by decide)), h 10 (by decide) (by decide), h 11 (by decide) (by decide)⟩
theorem none_one {b : Blk} (ht : b.tag = 1) (h : noneF b 12) : b.refs = 0 := by
  unfold noneF at h
  rw [ht] at h
  exact h 11 (by decide) (by decide)
theorem none_two {b : Blk} (ht : b.tag = 2) (hs : 0 ≤ b.size ∧ b.size ≤ 480) (h : noneF b 12) : b.next = 0 ∧ b.prev = 0 ∧ b.exp = 0 ∧ b.typ = 0 ∧ b.size = 0 := by
  unfold noneF at h
  rw [ht] at h
  exact ⟨h 5 (by decide) (by decide), h 6 (by decide) (by decide), h 7 (by decide) (by decide), h 8 (by decide) (by decide), u64_zero hs.1 hs.2 (h 9 (by decide) (by decide))⟩
theorem right_none {b : Blk} (h : RightP b) : noneF b 12 := by
  intro j hj hw
  have hk : j = 0 ∨ j = 1 ∨ j = 2 ∨ j = 3 ∨ j = 4 ∨ j = 5 ∨ j = 6 ∨ j = 7 ∨ j = 8 ∨ j = 9 ∨ j = 10 ∨ j = 11 := by omega
  rcases h with ⟨h0, h1, h2, h3, h4, h5, h6, h7, h8, h9, h10⟩ | ⟨h0, h1, h2, h3, h4, h5, h6⟩ | ⟨h0, h1, h2, h3, h4, h5, h6, h7, h8, h9, h10⟩
  · rcases hk with rfl | rfl | rfl | rfl | rfl | rfl | rfl | rfl | rfl | rfl | rfl | rfl <;> simp [whF, h0, numF, h4, h5, h6, h7, h8, h9, h10] at hw ⊢
    exact u64_id (by omega) (by omega)
  · rcases hk with rfl | rfl | rfl | rfl | rfl | rfl | rfl | rfl | rfl | rfl | rfl | rfl <;> simp [whF, h0, numF, h6] at hw ⊢
  · rcases hk with rfl | rfl | rfl | rfl | rfl | rfl | rfl | rfl | rfl | rfl | rfl | rfl <;> simp [whF, h0, numF, h6, h7, h8, h9, h10] at hw ⊢
    exact u64_id (by omega) (by omega)
theorem right_zero {b : Blk} (ht : b.tag = 0) (hs : 0 ≤ b.size ∧ b.size ≤ 480) (h : noneF b 12) : rightF b = (decide (b.cls = 0) && (!b.used && decide (b.lab = 0))) := by
  obtain ⟨h1, h2, h3, h4, h5, h6, h7⟩ := none_zero ht hs h
  unfold rightF RightP
  rw [Bool.eq_iff_iff]
  simp [ht, h1, h2, h3, h4, h5, h6, h7]
theorem right_one {b : Blk} (ht : b.tag = 1) (hs : 0 ≤ b.size ∧ b.size ≤ 480) (h : noneF b 12) : rightF b = (decide (1 ≤ b.cls) && (decide (b.cls ≤ 9) && decide (b.lab = 0))) := by
  have h1 := none_one ht h
  unfold rightF RightP
  rw [Bool.eq_iff_iff]
  simp [ht, h1, hs]
theorem right_two {b : Blk} (ht : b.tag = 2) (hs : 0 ≤ b.size ∧ b.size ≤ 480) (h : noneF b 12) : rightF b = (decide (1 ≤ b.cls) && (decide (b.cls ≤ 9) && (!b.used && (decide (1 ≤ b.lab) && decide (b.lab ≤ 63))))) := by
  obtain ⟨h1, h2, h3, h4, h5⟩ := none_two ht hs h
  unfold rightF RightP
  rw [Bool.eq_iff_iff]
  simp [ht, h1, h2, h3, h4, h5]
theorem right_bad {b : Blk} (h : b.tag < 0 ∨ 2 < b.tag ∨ b.size < 0 ∨ 480 < b.size) : rightF b = false := by
  unfold rightF
  rw [decide_eq_false_iff_not]
  unfold RightP
  omega

set_option maxRecDepth 100000 in
set_option maxHeartbeats 4000000 in
theorem refRight_any (b : Blk) (hb : b.Ok) (w : World) : Calls Tryd.prog 14 #[b.agg] w fun e w' => e = .returned (.bool (rightF b)) ∧ Below w.heap.size w w' := by
  have hx := BX.first w b
  have HN := Lib.hid (fun k hk W => refNumber_any b hb k hk W)
  have HBd := Lib.hid (numF_bd hb)
  clear hb
  by_cases hbad : b.tag < 0 ∨ 2 < b.tag ∨ b.size < 0 ∨ 480 < b.size
  · rw [right_bad hbad]
    obtain ⟨c0, -, -, -, -, -, -, -, -, -, c10, -, -, hbel⟩ := hx
    unfold BW at c0 c10 hbel
    unfold Blk.agg
    obtain ⟨tag, cls, used, lab, name, next, prev, refs, exp, typ, size, hash⟩ := b
    simp only [] at c0 c10 hbel hbad
    have HB := Lib.hid hbel
    clear hbel HN HBd
    rcases (show tag < 0 ∨ (0 ≤ tag ∧ 2 < tag) ∨ (0 ≤ tag ∧ tag ≤ 2 ∧ size < 0) ∨ (0 ≤ tag ∧ tag ≤ 2 ∧ 0 ≤ size ∧ 480 < size) by omega) with g | ⟨g1, g2⟩ | ⟨g1, g2, g3⟩ | ⟨g1, g2, g3, g4⟩
    all_goals
      clear hbad
      go_enter Tryd.func14, Tryd.ntmps14
      go_wp2
      go_ret
      exact ⟨rfl, HB.out⟩
  · have hs : 0 ≤ b.size ∧ b.size ≤ 480 := by omega
    have ht : 0 ≤ b.tag ∧ b.tag ≤ 2 := by omega
    have HRN : Hid (¬ noneF b 12 → rightF b = false) := fun h => by
      unfold rightF
      rw [decide_eq_false_iff_not]
      exact fun h1 => h (right_none h1)
    have HR0 : Hid (b.tag = 0 → noneF b 12 → rightF b = (decide (b.cls = 0) && (!b.used && decide (b.lab = 0)))) := fun h0 h => right_zero h0 hs h
    have HR1 : Hid (b.tag = 1 → noneF b 12 → rightF b = (decide (1 ≤ b.cls) && (decide (b.cls ≤ 9) && decide (b.lab = 0)))) := fun h0 h => right_one h0 hs h
    have HR2 : Hid (b.tag = 2 → noneF b 12 → rightF b = (decide (1 ≤ b.cls) && (decide (b.cls ≤ 9) && (!b.used && (decide (1 ≤ b.lab) && decide (b.lab ≤ 63)))))) := fun h0 h => right_two h0 hs h
    have HNo : Hid (∀ k, noneF b (k + 1) ↔ noneF b k ∧ ((whF b.tag k).2 = 0 → numF b k = 0)) := fun k => by
      unfold noneF
      constructor
      · exact fun h => ⟨fun j hj => h j (by omega), h k (by omega)⟩
      · rintro ⟨h1, h2⟩ j hj
        by_cases e : j < k
        · exact h1 j e
        · obtain rfl : j = k := by omega
          exact h2
    have HUp : Hid (∀ k, k ≤ 12 → noneF b 12 → noneF b k) := fun k hk h j hj => h j (by omega)
    have HZero : Hid (noneF b 0) := fun j hj => by omega
    have HW := Lib.hid (fun (k : Int) W => refWhere_any b.tag k W)
    obtain ⟨BB, hBB⟩ : ∃ BB : World → Prop, BB = fun W => BX w W b := ⟨_, rfl⟩
    have HBB : Hid (∀ W V, BB W → Below W.heap.size W V → BB V) := fun W V h hb => by rw [hBB] at h ⊢; exact h.below hb
    have HBel : Hid (∀ W, BB W → Below w.heap.size w W) := fun W h => by rw [hBB] at h; exact h.bel
    have HCell : Hid (∀ W, BB W → W.cell? ⟨w.heap.size, 0, none⟩ = some (.int .i64 b.tag) ∧ W.cell? ⟨w.heap.size, 1, none⟩ = some (.int .i64 b.cls) ∧ W.cell? ⟨w.heap.size, 2, none⟩ = some (.bool b.used) ∧ W.cell? ⟨w.heap.size, 3, none⟩ = some (.int .i64 b.lab) ∧ W.cell? ⟨w.heap.size, 4, none⟩ = some (.int .u32 b.name) ∧ W.cell? ⟨w.heap.size, 5, none⟩ = some (.int .u32 b.next) ∧ W.cell? ⟨w.heap.size, 6, none⟩ = some (.int .u32 b.prev) ∧ W.cell? ⟨w.heap.size, 7, none⟩ = some (.int .u32 b.refs) ∧ W.cell? ⟨w.heap.size, 8, none⟩ = some (.int .u64 b.exp) ∧ W.cell? ⟨w.heap.size, 9, none⟩ = some (.int .u16 b.typ) ∧ W.cell? ⟨w.heap.size, 10, none⟩ = some (.int .i64 b.size) ∧ W.cell? ⟨w.heap.size, 11, none⟩ = some (.int .u32 b.hash)) := fun W h => by
      rw [hBB] at h
      exact ⟨h.c0, h.c1, h.c2, h.c3, h.c4, h.c5, h.c6, h.c7, h.c8, h.c9, h.c10, h.c11⟩
    have HX : Hid (BB (BW w b)) := by unfold Hid; rw [hBB]; exact hx
    obtain ⟨NF, hNF⟩ : ∃ NF : Nat → Prop, NF = noneF b := ⟨_, rfl⟩
    obtain ⟨R, hR⟩ : ∃ R, R = rightF b := ⟨_, rfl⟩
    obtain ⟨num, hnum⟩ : ∃ num : Nat → Int, num = numF b := ⟨_, rfl⟩
    rw [← hNF] at HRN HR0 HR1 HR2 HNo HUp HZero
    rw [← hR] at HRN HR0 HR1 HR2 ⊢
    rw [← hnum] at HNo HN HBd
    clear hbad hBB hNF hR hnum hx
    unfold BW at HX
    unfold Blk.agg at HN ⊢
    obtain ⟨tag, cls, used, lab, name, next, prev, refs, exp, typ, size, hash⟩ := b
    simp only [] at HR0 HR1 HR2 HNo HW HCell HX HN hs ht
    obtain ⟨c0, -, -, -, -, -, -, -, -, -, c10, -⟩ := HCell.out _ HX.out
    obtain ⟨t1, t2⟩ := ht
    obtain ⟨s1, s2⟩ := hs
    have t1' : decide (tag < 0) = false := by rw [decide_eq_false_iff_not]; omega
    have t2' : decide (2 < tag) = false := by rw [decide_eq_false_iff_not]; omega
    have s1' : decide (size < 0) = false := by rw [decide_eq_false_iff_not]; omega
    have s2' : decide (480 < size) = false := by rw [decide_eq_false_iff_not]; omega
    go_enter Tryd.func14, Tryd.ntmps14
    go_wp2
    clear c0 c10
    go_loopw [3] (fun i wr => ∃ k : Nat, k ≤ 12 ∧ i = .int .i64 k ∧ Hid (BB wr) ∧ Hid (NF k)) (fun i _ => 12 - (intOf i).toNat)
    case atStart => exact ⟨0, Nat.zero_le _, rfl, HX, HZero⟩
    case round =>
      obtain ⟨k, hk, rfl, HV, HF⟩ := hrel
      by_cases hlt : k < 12
      · have hlt1 : (k : Int) < 12 := by omega
        have hno := HNo.out k
        obtain ⟨c0, -⟩ := HCell.out _ HV.out
        have HWk := Lib.hid (HW.out k wr)
        obtain ⟨a, ha⟩ : ∃ a, a = (whF tag k).1 := ⟨_, rfl⟩
        obtain ⟨n, hn⟩ : ∃ n, n = (whF tag k).2 := ⟨_, rfl⟩
        rw [← ha, ← hn] at HWk
        rw [← hn] at hno
        have HNoK := Lib.hid hno
        clear ha hn hno
        by_cases hz : n = 0
        · subst hz
          have HNk := Lib.hid (HN.out k hlt)
          obtain ⟨y, hy⟩ : ∃ y, y = num k := ⟨_, rfl⟩
          rw [← hy] at HNk HNoK
          clear hy
          by_cases hy0 : y = 0
          · subst hy0
            have HF2 : Hid (NF (k + 1)) := HNoK.out.2 ⟨HF.out, fun _ => rfl⟩
            go_wp2_with fail
            refine HWk.out.mono ?_
            rintro e w1 ⟨rfl, hb1⟩
            have HV1 := Lib.hid (HBB.out _ _ HV.out hb1)
            obtain ⟨d0, d1, d2, d3, d4, d5, d6, d7, d8, d9, d10, d11⟩ := HCell.out _ HV1.out
            clear hb1 c0
            go_wp2_with fail
            refine (HNk.out w1).mono ?_
            rintro e w2 ⟨rfl, hb2⟩
            have HV2 := Lib.hid (HBB.out _ _ HV1.out hb2)
            clear hb2 d0 d1 d2 d3 d4 d5 d6 d7 d8 d9 d10 d11
            go_wp2
            go_roundw
            case rel => exact ⟨k + 1, by omega, by go_num, HV2, HF2⟩
            case measure => simp [intOf]; omega
          · have hyn : (y != 0) = true := by simpa using hy0
            have HF2 : Hid (R = false) := HRN.out (fun h => hy0 ((HNoK.out.1 (HUp.out (k + 1) (by omega) h)).2 rfl))
            go_wp2_with fail
            refine HWk.out.mono ?_
            rintro e w1 ⟨rfl, hb1⟩
            have HV1 := Lib.hid (HBB.out _ _ HV.out hb1)
            obtain ⟨d0, d1, d2, d3, d4, d5, d6, d7, d8, d9, d10, d11⟩ := HCell.out _ HV1.out
            clear hb1 c0
            go_wp2_with fail
            refine (HNk.out w1).mono ?_
            rintro e w2 ⟨rfl, hb2⟩
            have HV2 := Lib.hid (HBB.out _ _ HV1.out hb2)
            clear hb2 d0 d1 d2 d3 d4 d5 d6 d7 d8 d9 d10 d11
            go_wp2
            go_ret
            exact ⟨ret_bool HF2.out.symm, HBel.out _ HV2.out⟩
        · have hzn : (n == 0) = false := by simpa using hz
          have HF2 : Hid (NF (k + 1)) := HNoK.out.2 ⟨HF.out, fun h => absurd h hz⟩
          go_wp2_with fail
          refine HWk.out.mono ?_
          rintro e w1 ⟨rfl, hb1⟩
          have HV1 := Lib.hid (HBB.out _ _ HV.out hb1)
          clear hb1 c0
          go_wp2
          go_roundw
          case rel => exact ⟨k + 1, by omega, by go_num, HV1, HF2⟩
          case measure => simp [intOf]; omega
      · obtain rfl : k = 12 := by omega
        obtain ⟨c0, c1, c2, c3, -⟩ := HCell.out _ HV.out
        have HBe := Lib.hid (HBel.out _ HV.out)
        rcases (show tag = 0 ∨ tag = 1 ∨ tag = 2 by omega) with rfl | rfl | rfl
        · have HR := Lib.hid (HR0.out rfl HF.out)
          by_cases h1 : cls = 0
          · subst h1
            cases used
            all_goals
              go_wp2
              go_ret
              exact ⟨ret_bool (by rw [HR.out]; simp [Bool.beq_eq_decide_eq]), HBe.out⟩
          · have h1' : (cls == 0) = false := by simpa using h1
            go_wp2
            go_ret
            exact ⟨ret_bool (by rw [HR.out]; simp [h1]), HBe.out⟩
        · have HR := Lib.hid (HR1.out rfl HF.out)
          by_cases h1 : cls < 1
          · go_wp2
            go_ret
            exact ⟨ret_bool (by rw [HR.out]; simp; omega), HBe.out⟩
          · by_cases h2 : 9 < cls
            · go_wp2
              go_ret
              exact ⟨ret_bool (by rw [HR.out]; simp; omega), HBe.out⟩
            · have h1' : decide (cls < 1) = false := by simpa using h1
              have h2' : decide (9 < cls) = false := by simpa using h2
              have h3 : 1 ≤ cls := by omega
              have h4 : cls ≤ 9 := by omega
              cases used
              all_goals
                go_wp2
                go_ret
                exact ⟨ret_bool (by rw [HR.out]; simp [h3, h4, Bool.beq_eq_decide_eq]), HBe.out⟩
        · have HR := Lib.hid (HR2.out rfl HF.out)
          by_cases h1 : cls < 1
          · go_wp2
            go_ret
            exact ⟨ret_bool (by rw [HR.out]; simp; omega), HBe.out⟩
          · by_cases h2 : 9 < cls
            · go_wp2
              go_ret
              exact ⟨ret_bool (by rw [HR.out]; simp; omega), HBe.out⟩
            · have h1' : decide (cls < 1) = false := by simpa using h1
              have h2' : decide (9 < cls) = false := by simpa using h2
              have h3 : 1 ≤ cls := by omega
              have h4 : cls ≤ 9 := by omega
              cases used
              · by_cases h5 : 1 ≤ lab
                · by_cases h6 : lab ≤ 63
                  · have h5' : decide (1 ≤ lab) = true := by simpa using h5
                    have h6' : decide (lab ≤ 63) = true := by simpa using h6
                    go_wp2
                    go_ret
                    exact ⟨ret_bool (by rw [HR.out]; simp [h3, h4, h5, h6]), HBe.out⟩
                  · have h5' : decide (1 ≤ lab) = true := by simpa using h5
                    have h6' : decide (lab ≤ 63) = false := by simpa using h6
                    go_wp2
                    go_ret
                    exact ⟨ret_bool (by rw [HR.out]; simp [h3, h4, h5, h6]), HBe.out⟩
                · have h5' : decide (1 ≤ lab) = false := by simpa using h5
                  go_wp2
                  go_ret
                  exact ⟨ret_bool (by rw [HR.out]; simp [h3, h4]; omega), HBe.out⟩
              · go_wp2
                go_ret
                exact ⟨ret_bool (by rw [HR.out]; simp), HBe.out⟩
end Go.Proofs.YtkknegnipodcnaaDoor.Hea

namespace Go.Proofs.YtkknegnipodcnaaDoor.Hea
open Go.RowKit Num
set_option linter.unusedVariables false

/-- A head's bytes behind k fields. -/
def foldE (b : Blk) : Nat → List Int
  | 0 => List.replicate (szF b.tag).toNat 0
  | k + 1 => stl (foldE b k) (whF b.tag k).1.toNat (whF b.tag k).2.toNat (numF b k)
theorem wh_fit {t : Int} (ht : 0 ≤ t ∧ t ≤ 2) (k : Nat) (hk : k < 12) : 0 ≤ (whF t k).1 ∧ 0 ≤ (whF t k).2 ∧ (whF t k).2 ≤ 8 ∧ (whF t k).1 + (whF t k).2 ≤ szF t := by
  have h1 : t = 0 ∨ t = 1 ∨ t = 2 := by omega
  have h2 : k = 0 ∨ k = 1 ∨ k = 2 ∨ k = 3 ∨ k = 4 ∨ k = 5 ∨ k = 6 ∨ k = 7 ∨ k = 8 ∨ k = 9 ∨ k = 10 ∨ k = 11 := by omega
  rcases h1 with rfl | rfl | rfl <;> rcases h2 with rfl | rfl | rfl | rfl | rfl | rfl | rfl | rfl | rfl | rfl | rfl | rfl <;> decide
theorem stl_none (l : List Int) (a : Nat) (v : Int) : stl l a 0 v = l := by
  unfold stl
  rw [List.take_zero, List.nil_append, Nat.add_zero, List.take_append_drop]
theorem sz_bd {t : Int} (ht : 0 ≤ t ∧ t ≤ 2) : 8 ≤ szF t ∧ szF t ≤ 32 := by
  have h1 : t = 0 ∨ t = 1 ∨ t = 2 := by omega
  rcases h1 with rfl | rfl | rfl <;> decide
theorem foldE_length {b : Blk} (ht : 0 ≤ b.tag ∧ b.tag ≤ 2) : ∀ k, k ≤ 12 → (foldE b k).length = (szF b.tag).toNat := by
  intro k
  induction k with
  | zero => intro _; simp [foldE]
  | succ k ih =>
    intro hk
    have h := wh_fit ht k (by omega)
    rw [foldE, stl_length _ _ _ _ (by rw [ih (by omega)]; omega) (by omega), ih (by omega)]
theorem foldE_bytes {b : Blk} (hb : b.Ok) : ∀ k, ∀ i, 0 ≤ (foldE b k).getD i 0 ∧ (foldE b k).getD i 0 < 256 := by
  intro k
  induction k with
  | zero =>
    intro i
    have : ∀ x ∈ List.replicate (szF b.tag).toNat (0 : Int), x = 0 := fun x hx => List.eq_of_mem_replicate hx
    by_cases hi : i < (szF b.tag).toNat
    · simp [foldE, List.getD, hi]
    · simp [foldE, List.getD, hi]
  | succ k ih =>
    have h := numF_bd hb k
    exact stl_bd _ _ _ _ h.1 h.2 ih
theorem list_of_getD {a b : List Int} (hl : a.length = b.length) (h : ∀ i, i < a.length → a.getD i 0 = b.getD i 0) : a = b := by
  refine List.ext_getElem hl fun i h1 h2 => ?_
  have := h i h1
  simpa [List.getD, h1, h2] using this
theorem stl_at (l : List Int) (a n : Nat) (v : Int) (i : Nat) (h : a + n ≤ l.length) (hn : n ≤ 8) : (stl l a n v).getD i 0 = if a ≤ i ∧ i < a + n then (parts v).getD (i - a) 0 else l.getD i 0 := by
  unfold stl List.getD
  rw [List.getElem?_append, List.length_take, Nat.min_eq_left (by omega), List.getElem?_append, List.length_take, parts_length, Nat.min_eq_left hn]
  split
  · rw [if_neg (by omega), List.getElem?_take_of_lt (by omega)]
  · split
    · rw [if_pos (by omega), List.getElem?_take_of_lt (by omega)]
    · rw [if_neg (by omega), List.getElem?_drop, show a + n + (i - a - n) = i by omega]
theorem stl_step (l : List Int) (a n : Nat) (v : Int) (h : a + n < l.length) (hn : n < 8) : (stl l a n v).set (a + n) ((parts v).getD n 0) = stl l a (n + 1) v := by
  have h1 := stl_length l a n v (by omega) (by omega)
  have h2 := stl_length l a (n + 1) v (by omega) (by omega)
  refine list_of_getD (by rw [List.length_set, h1, h2]) fun i hi => ?_
  rw [List.length_set, h1] at hi
  rw [stl_at _ _ _ _ _ (by omega) (by omega)]
  have e : ((stl l a n v).set (a + n) ((parts v).getD n 0)).getD i 0 = if a + n = i then (parts v).getD n 0 else (stl l a n v).getD i 0 := by
    unfold List.getD
    rw [List.getElem?_set]
    split
    · rename_i h3
      rw [if_pos (by omega)]
      rfl
    · rfl
  rw [e]
  split
  · rename_i h3
    subst h3
    rw [if_pos (by omega), show a + n - a = n by omega]
  · rw [stl_at _ _ _ _ _ (by omega) (by omega)]
    by_cases h4 : a ≤ i ∧ i < a + n
    · rw [if_pos h4, if_pos (by omega)]
    · rw [if_neg h4, if_neg (by omega)]
theorem parts_pow (v : Int) (j : Nat) (hj : j < 8) (h0 : 0 ≤ v) (h1 : v < 18446744073709551616) : (parts v).getD j 0 = v / 256 ^ j % 256 := by
  match j, hj with
  | 0, _ => simp [parts]
  | 1, _ => simp [parts]
  | 2, _ => simp [parts]
  | 3, _ => simp [parts]
  | 4, _ => simp [parts]
  | 5, _ => simp [parts]
  | 6, _ => simp [parts]
  | 7, _ => simp [parts]; omega

theorem foldE_end {b : Blk} (hb : b.Ok) (hr : RightP b) : foldE b 12 = encL b := by
  obtain ⟨k1, k2, k3, k4, k5, k6, k7, k8, k9, k10, k11⟩ := hb
  simp only [i64, u32, u64, u16] at *
  obtain ⟨tag, cls, used, lab, name, next, prev, refs, exp, typ, size, hash⟩ := b
  simp only [] at *
  rcases hr with ⟨h0, h1, h2, h3, h4, h5, h6, h7, h8, h9, h10⟩ | ⟨h0, h1, h2, h3, h4, h5, h6⟩ | ⟨h0, h1, h2, h3, h4, h5, h6, h7, h8, h9, h10⟩
  · simp only [] at h0 h1 h2 h3 h4 h5 h6 h7 h8 h9 h10
    subst h0 h1 h2 h3
    simp [foldE, szF, whF, stl, parts, encL, p1, p4, numF, u64_id, List.replicate]
    omega
  · simp only [] at h0 h1 h2 h3 h4 h5 h6
    subst h0 h3
    have e1 : IntKind.u64.wrap cls = cls := u64_id (by omega) (by omega)
    have e2 : IntKind.u64.wrap size = size := u64_id (by omega) (by omega)
    cases used <;> simp [foldE, szF, whF, stl, parts, encL, p1, p4, p8, p2, numF, u64_id, List.replicate, e1, e2] <;> omega
  · simp only [] at h0 h1 h2 h3 h4 h5 h6 h7 h8 h9 h10
    subst h0 h3
    have e1 : IntKind.u64.wrap cls = cls := u64_id (by omega) (by omega)
    have e2 : IntKind.u64.wrap lab = lab := u64_id (by omega) (by omega)
    simp [foldE, szF, whF, stl, parts, encL, p1, p4, numF, u64_id, List.replicate, e1, e2]
    omega
theorem encF_yes {b : Blk} (h : rightF b = true) : encF b = (encL b, 0) := by rw [encF, if_pos h]
theorem encF_no {b : Blk} (h : rightF b = false) : encF b = ([], 2) := by rw [encF, if_neg (by rw [h]; decide)]
theorem right_tag {b : Blk} (h : RightP b) : 0 ≤ b.tag ∧ b.tag ≤ 2 := by
  rcases h with h | h | h <;> omega

theorem madeCells_one (z : Value) (n : Nat) : madeCells #[z] n = (List.replicate n z).toArray := by
  apply Array.ext
  · simp [madeCells]
  · intro i h1 h2
    simp [madeCells, Nat.mod_one]
theorem zeros_cells (n : Nat) : madeCells #[Value.int .u8 0] n = (vals (List.replicate n 0)).toArray := by
  rw [madeCells_one]; simp [vals]
theorem frozen_block {w : World} {g : Nat} {c : Array Value} {e : TypeId} (h : w.heap[g]? = some (.cells c e (0, 0))) (i : Nat) : w.frozen? ⟨g, i, none⟩ = false := by simp [World.frozen?, h]
theorem vals_set (l : List Int) (i : Nat) (y : Int) : (vals l).toArray.setIfInBounds i (.int .u8 y) = (vals (l.set i y)).toArray := by
  simp [vals, List.map_set]
theorem heap_setCell_own {w : World} {g o : Nat} {c : Array Value} {t : TypeId} {fr : Nat × Nat} (hg : w.heap[g]? = some (.cells c t fr)) (u : Value) : (w.setCell ⟨g, o, none⟩ u).heap[g]? = some (.cells (c.setIfInBounds o u) t fr) := by
  have hlt : g < w.heap.size := (Array.getElem?_eq_some_iff.1 hg).1
  have hv : w.heap[g] = .cells c t fr := (Array.getElem?_eq_some_iff.1 hg).2
  unfold World.setCell
  rw [Array.getElem?_eq_getElem (by simpa using hlt), Array.getElem_modify]
  simp [hv]
theorem lt_block {w : World} {g : Nat} {o : Obj} (h : w.heap[g]? = some o) : g < w.heap.size := (Array.getElem?_eq_some_iff.1 h).1

set_option maxRecDepth 100000 in
set_option maxHeartbeats 4000000 in
theorem refEncode_any (b : Blk) (hb : b.Ok) (w : World) : Calls Tryd.prog 10 #[b.agg] w fun e w' => ∃ u, e = .returned (.tuple #[u, .int .i64 (encF b).2]) ∧ Below w.heap.size w w' ∧ Row .u8 w' u (encF b).1 := by
  have hx := BX.first w b
  have HRi := Lib.hid (fun W => refRight_any b hb W)
  by_cases hr : rightF b = true
  · have hp : RightP b := by simpa [rightF] using hr
    rw [encF_yes hr]
    rw [hr] at HRi
    rw [← foldE_end hb hp]
    have HN := Lib.hid (fun k hk W => refNumber_any b hb k hk W)
    have HBd := Lib.hid (numF_bd hb)
    have ht := right_tag hp
    have HFit := Lib.hid (wh_fit ht)
    have HLen := Lib.hid (foldE_length ht)
    have HByt := Lib.hid (foldE_bytes hb)
    have hsz := sz_bd ht
    have HSz := Lib.hid (fun W => refSize_any b.tag W)
    have HW := Lib.hid (fun (k : Int) W => refWhere_any b.tag k W)
    have HStep : Hid (∀ k, foldE b (k + 1) = stl (foldE b k) (whF b.tag k).1.toNat (whF b.tag k).2.toNat (numF b k)) := fun k => rfl
    have HZ : Hid (foldE b 0 = List.replicate (szF b.tag).toNat 0) := rfl
    obtain ⟨BB, hBB⟩ : ∃ BB : World → Prop, BB = fun W => BX w W b := ⟨_, rfl⟩
    have HBB : Hid (∀ W V, BB W → Below W.heap.size W V → BB V) := fun W V h hb => by rw [hBB] at h ⊢; exact h.below hb
    have HBel : Hid (∀ W, BB W → Below w.heap.size w W ∧ w.heap.size < W.heap.size) := fun W h => by rw [hBB] at h; exact ⟨h.bel, h.lt⟩
    have HBS : Hid (∀ W g o u, BB W → w.heap.size < g → BB (W.setCell ⟨g, o, none⟩ u)) := fun W g o u h hg => by
      rw [hBB] at h ⊢
      have hs : (W.setCell ⟨g, o, none⟩ u).heap.size = W.heap.size := by simp
      have hc : ∀ j x, W.cell? ⟨w.heap.size, j, none⟩ = some x → (W.setCell ⟨g, o, none⟩ u).cell? ⟨w.heap.size, j, none⟩ = some x := fun j x e => (World.cell?_setCell_other _ _ _ _ (fun h4 => by injection h4 with h5; omega)).trans e
      exact ⟨hc _ _ h.c0, hc _ _ h.c1, hc _ _ h.c2, hc _ _ h.c3, hc _ _ h.c4, hc _ _ h.c5, hc _ _ h.c6, hc _ _ h.c7, hc _ _ h.c8, hc _ _ h.c9, hc _ _ h.c10, hc _ _ h.c11, by rw [hs]; exact h.lt, h.bel.setCell (p := ⟨g, o, none⟩) (by show w.heap.size ≤ g; omega) _⟩
    have HCell : Hid (∀ W, BB W → W.cell? ⟨w.heap.size, 0, none⟩ = some (.int .i64 b.tag) ∧ W.cell? ⟨w.heap.size, 1, none⟩ = some (.int .i64 b.cls) ∧ W.cell? ⟨w.heap.size, 2, none⟩ = some (.bool b.used) ∧ W.cell? ⟨w.heap.size, 3, none⟩ = some (.int .i64 b.lab) ∧ W.cell? ⟨w.heap.size, 4, none⟩ = some (.int .u32 b.name) ∧ W.cell? ⟨w.heap.size, 5, none⟩ = some (.int .u32 b.next) ∧ W.cell? ⟨w.heap.size, 6, none⟩ = some (.int .u32 b.prev) ∧ W.cell? ⟨w.heap.size, 7, none⟩ = some (.int .u32 b.refs) ∧ W.cell? ⟨w.heap.size, 8, none⟩ = some (.int .u64 b.exp) ∧ W.cell? ⟨w.heap.size, 9, none⟩ = some (.int .u16 b.typ) ∧ W.cell? ⟨w.heap.size, 10, none⟩ = some (.int .i64 b.size) ∧ W.cell? ⟨w.heap.size, 11, none⟩ = some (.int .u32 b.hash)) := fun W h => by
      rw [hBB] at h
      exact ⟨h.c0, h.c1, h.c2, h.c3, h.c4, h.c5, h.c6, h.c7, h.c8, h.c9, h.c10, h.c11⟩
    have HX : Hid (BB (BW w b)) := by unfold Hid; rw [hBB]; exact hx
    obtain ⟨FE, hFE⟩ : ∃ FE : Nat → List Int, FE = foldE b := ⟨_, rfl⟩
    obtain ⟨num, hnum⟩ : ∃ num : Nat → Int, num = numF b := ⟨_, rfl⟩
    rw [← hFE] at HLen HByt HStep HZ ⊢
    rw [← hnum] at HStep HN HBd
    clear hBB hFE hnum hx hp hr hb ht
    unfold BW at HX
    unfold Blk.agg at HN HRi ⊢
    obtain ⟨tag, cls, used, lab, name, next, prev, refs, exp, typ, size, hash⟩ := b
    simp only [] at HLen HByt HStep HZ HW HFit HSz hsz HCell HX HN HRi
    obtain ⟨z, hz⟩ : ∃ z : Nat, szF tag = z := ⟨(szF tag).toNat, by omega⟩
    rw [hz] at HLen HZ HFit HSz hsz
    rw [Int.toNat_natCast] at HLen HZ
    obtain ⟨i0, hi, hz0, hz1, hz2⟩ := info_parts infoU8
    obtain ⟨c0, c1, c2, c3, c4, c5, c6, c7, c8, c9, c10, c11⟩ := HCell.out _ HX.out
    clear hz
    go_enter Tryd.func10, Tryd.ntmps10
    go_wp2_with fail
    refine (HRi.out _).mono ?_
    rintro e w1 ⟨rfl, hb1⟩
    have HV1 := Lib.hid (HBB.out _ _ HX.out hb1)
    clear hb1 c0 c1 c2 c3 c4 c5 c6 c7 c8 c9 c10 c11
    obtain ⟨c0, -⟩ := HCell.out _ HV1.out
    go_wp2_with fail
    refine (HSz.out _).mono ?_
    rintro e w2 ⟨rfl, hb2⟩
    have HV2 := Lib.hid (HBB.out _ _ HV1.out hb2)
    clear hb2 c0 HX HV1
    go_wp2_with (refine wpList_make_row rfl (.tmp 15) (.tmp 15) 27 rfl 5 i0 (.int .u8 0) 1 Tryd.underlying27 hi hz0 hz1 hz2 .i64 .i64 z rfl rfl (by omega) (by omega) ?_)
    have hblk := heap_alloc_new w2 (.cells (madeCells #[.int .u8 0] z) 5)
    have hbm := below_made w2 (.cells (madeCells #[.int .u8 0] z) 5)
    obtain ⟨g, hg⟩ : ∃ g, g = w2.heap.size := ⟨_, rfl⟩
    rw [← hg] at hblk ⊢
    have HG : Hid (w.heap.size < g) := by unfold Hid; rw [hg]; exact (HBel.out _ HV2.out).2
    rw [zeros_cells] at hblk
    have HS0 : Hid (BB (w2.alloc (.cells (madeCells #[.int .u8 0] z) 5)) ∧ (w2.alloc (.cells (madeCells #[.int .u8 0] z) 5)).heap[g]? = some (.cells (vals (FE 0)).toArray 5 (0, 0))) := ⟨HBB.out _ _ HV2.out hbm, by rw [HZ.out, zeros_cells]; exact hblk⟩
    clear hblk hbm HV2 hg
    generalize w2.alloc (.cells (madeCells #[.int .u8 0] z) 5) = w3 at HS0 ⊢
    go_loopw [5] (fun i wr => ∃ k : Nat, k ≤ 12 ∧ i = .int .i64 k ∧ Hid (BB wr ∧ wr.heap[g]? = some (.cells (vals (FE k)).toArray 5 (0, 0)))) (fun i _ => 12 - (intOf i).toNat)
    case atStart => exact ⟨0, Nat.zero_le _, rfl, HS0.out⟩
    case round =>
      obtain ⟨k, hk, rfl, HV⟩ := hrel
      by_cases hlt : k < 12
      · have hlt1 : (k : Int) < 12 := by omega
        obtain ⟨c0, -⟩ := HCell.out _ HV.out.1
        have hfit := HFit.out k hlt
        have hlen := HLen.out k hk
        have HWk := Lib.hid (HW.out k wr)
        obtain ⟨a, ha⟩ : ∃ a : Nat, (whF tag k).1 = a := ⟨(whF tag k).1.toNat, by omega⟩
        obtain ⟨n, hn⟩ : ∃ n : Nat, (whF tag k).2 = n := ⟨(whF tag k).2.toNat, by omega⟩
        have hstep := HStep.out k
        rw [ha, hn] at HWk hfit hstep
        rw [Int.toNat_natCast, Int.toNat_natCast] at hstep
        have hY := HBd.out k
        have HNk := Lib.hid (HN.out k hlt)
        obtain ⟨Y, hYe⟩ : ∃ Y, Y = num k := ⟨_, rfl⟩
        rw [← hYe] at HNk hY hstep
        obtain ⟨L, hL⟩ : ∃ L, L = FE k := ⟨_, rfl⟩
        rw [← hL] at hlen HV hstep
        have hby := HByt.out k
        rw [← hL] at hby
        have HSt := Lib.hid hstep
        have HBy := Lib.hid hby
        have hfit2 : a + n ≤ z := by omega
        have hn8 : n ≤ 8 := by omega
        clear ha hn hstep hYe hL hby hfit
        go_wp2_with fail
        refine HWk.out.mono ?_
        rintro e w4 ⟨rfl, hb4⟩
        have HV4 : Hid (BB w4 ∧ w4.heap[g]? = some (.cells (vals L).toArray 5 (0, 0))) := ⟨HBB.out _ _ HV.out.1 hb4, (hb4.block _ (lt_block HV.out.2)).trans HV.out.2⟩
        clear hb4 c0 HV
        obtain ⟨c0, c1, c2, c3, c4, c5, c6, c7, c8, c9, c10, c11⟩ := HCell.out _ HV4.out.1
        go_wp2_with fail
        refine (HNk.out w4).mono ?_
        rintro e w5 ⟨rfl, hb5⟩
        have HV5 : Hid (BB w5 ∧ w5.heap[g]? = some (.cells (vals (stl L a 0 Y)).toArray 5 (0, 0))) := ⟨HBB.out _ _ HV4.out.1 hb5, by rw [stl_none]; exact (hb5.block _ (lt_block HV4.out.2)).trans HV4.out.2⟩
        clear hb5 c0 c1 c2 c3 c4 c5 c6 c7 c8 c9 c10 c11 HV4
        go_wp2
        go_loopw [8, 9] (fun nn i wi => ∃ j : Nat, j ≤ n ∧ i = .int .i64 j ∧ nn = .int .u64 (Y / 256 ^ j) ∧ Hid (BB wi ∧ wi.heap[g]? = some (.cells (vals (stl L a j Y)).toArray 5 (0, 0)))) (fun _ i _ => n - (intOf i).toNat)
        case atStart => exact ⟨0, Nat.zero_le _, rfl, by simp, HV5.out⟩
        case round =>
          obtain ⟨j, hj, rfl, rfl, HI⟩ := hrel
          by_cases hjn : j < n
          · have hjn1 : (j : Int) < (n : Int) := by omega
            obtain ⟨s, hs⟩ : ∃ s : Nat, s = a + j := ⟨_, rfl⟩
            have hst := stl_step L a j Y (by omega) (by omega)
            have hpw := parts_pow Y j (by omega) hY.1 hY.2
            have hll := stl_length L a j Y (by omega) (by omega)
            have g0 : 0 ≤ Y / 256 ^ j := Int.ediv_nonneg hY.1 (Int.pow_nonneg (by omega))
            have g1 : Y / 256 ^ j ≤ Y := Int.ediv_le_self _ hY.1
            have he2 := Lib.hid (show Y / 256 ^ (j + 1) = Y / 256 ^ j / 256 by rw [Int.pow_succ, Int.ediv_ediv_of_nonneg (Int.pow_nonneg (by omega))])
            obtain ⟨V, hV⟩ : ∃ V, V = Y / 256 ^ j := ⟨_, rfl⟩
            rw [← hV] at g0 g1 he2 hpw ⊢
            rw [← hs, hpw] at hst
            have q0 : wr.cell? ⟨g, s, none⟩ = some (.int .u8 ((stl L a j Y).getD s 0)) := by
              rw [cell_block HI.out.2, List.getElem?_toArray, vals_get _ _ (by omega)]
            have q1 := frozen_block HI.out.2 s
            have HNx : Hid (BB (wr.setCell ⟨g, s, none⟩ (.int .u8 (V % 256))) ∧ (wr.setCell ⟨g, s, none⟩ (.int .u8 (V % 256))).heap[g]? = some (.cells (vals (stl L a (j + 1) Y)).toArray 5 (0, 0))) := by
              refine ⟨HBS.out _ _ _ _ HI.out.1 HG.out, ?_⟩
              have h1 := heap_setCell_own (o := s) HI.out.2 (.int .u8 (V % 256))
              rw [vals_set, hst] at h1
              exact h1
            have hsz2 : s < z := by omega
            have hs1 : (s : Int) < (z : Int) := by omega
            have hs0 : (0 : Int) ≤ (s : Int) := by omega
            have u8w : IntKind.u8.wrap (V % 256) = V % 256 := by simp [IntKind.wrap, IntKind.bits, IntKind.signed]
            obtain ⟨hw1, hw2⟩ : IntKind.i64.wrap ((a : Int) + (j : Int)) = (s : Int) ∧ wrap64 ((a : Int) + (j : Int)) = (s : Int) := ⟨(wrap_id (by omega) (by omega)).trans (by omega), (IntWalk.wrap64_in _ (by omega)).trans (by omega)⟩
            clear hV hs hst hpw hll HI
            go_wp2
            go_roundw
            case rel => exact ⟨j + 1, by omega, by go_num, by rw [he2.out], HNx.out⟩
            case measure => simp [intOf]; omega
          · obtain rfl : j = n := by omega
            have HNx : Hid (BB wr ∧ wr.heap[g]? = some (.cells (vals (FE (k + 1))).toArray 5 (0, 0))) := by
              refine ⟨HI.out.1, ?_⟩
              rw [HSt.out]
              exact HI.out.2
            clear HI
            go_wp2
            go_roundw
            case rel => exact ⟨k + 1, by omega, by go_num, HNx.out⟩
            case measure => simp [intOf]; omega
      · obtain rfl : k = 12 := by omega
        have HE : Hid (Below w.heap.size w wr ∧ Row .u8 wr (.slice (some ⟨g, 0, none⟩) z z) (FE 12)) := by
          refine ⟨(HBel.out _ HV.out.1).1, ?_⟩
          have h1 := row_of_block HV.out.2 (HByt.out 12) (by rw [HLen.out 12 (by omega)]; omega)
          rw [HLen.out 12 (by omega)] at h1
          exact h1
        clear HV
        go_wp2
        go_ret2
        exact ⟨_, rfl, HE.out⟩
  · have hr' : rightF b = false := by simpa using hr
    rw [encF_no hr']
    rw [hr'] at HRi
    have HBel : Hid (∀ W, Below (BW w b).heap.size (BW w b) W → Below w.heap.size w W) := fun W h => (hx.below h).bel
    unfold BW at HBel hx
    obtain ⟨c0, c1, c2, c3, c4, c5, c6, c7, c8, c9, c10, c11, -, -⟩ := hx
    unfold Blk.agg at HRi ⊢
    obtain ⟨tag, cls, used, lab, name, next, prev, refs, exp, typ, size, hash⟩ := b
    simp only [] at HRi HBel c0 c1 c2 c3 c4 c5 c6 c7 c8 c9 c10 c11
    clear hr hr' hb
    go_enter Tryd.func10, Tryd.ntmps10
    go_wp2_with fail
    refine (HRi.out _).mono ?_
    rintro e w1 ⟨rfl, hb1⟩
    have HB1 := Lib.hid (HBel.out _ hb1)
    clear hb1
    go_wp2
    go_ret2
    exact ⟨_, rfl, HB1.out, Row.nil _ _⟩
end Go.Proofs.YtkknegnipodcnaaDoor.Hea

namespace Go.Proofs.YtkknegnipodcnaaDoor.Hea
open Go.RowKit Num
set_option linter.unusedVariables false

set_option maxRecDepth 100000 in
theorem refTaken_any (v : Value) (l : List Int) (m n : Nat) (w : World) (hr : Row .u8 w v l) (h : m + n ≤ l.length) (hn1 : 1 ≤ n) (hn8 : n ≤ 8) (hl : l.length ≤ 1000000000) :
    Calls Tryd.prog 34 #[v, .int .i64 (m : Int), .int .i64 (n : Int)] w fun e w' => e = .returned (.int .u64 (rdF l m n)) ∧ w = w' := by
  have hby := hr.bytes
  obtain ⟨ad, cap, rfl, h2, h3, h4, h5⟩ := hr
  obtain ⟨b, off, rfl, hlt, hc⟩ := h5 (by rintro rfl; simp at h; omega)
  have HC := Lib.hid hc
  have HB := Lib.hid hby
  have hR : Hid (rdF l m n = le ((l.drop (m + 0)).take (n - 0))) := rfl
  clear hc hby h5 h4
  go_enter Tryd.func34, Tryd.ntmps34
  go_wp2
  go_loop [7, 8] (fun acc i => ∃ k : Nat, k ≤ n ∧ i = .int .i64 ((k : Int) - 1) ∧ acc = .int .u64 (le ((l.drop (m + k)).take (n - k)))) (fun _ i => (intOf i + 1).toNat)
  case atStart => exact ⟨n, by omega, rfl, by simp [le]⟩
  case round =>
    obtain ⟨k, hk, rfl, rfl⟩ := hrel
    match k, hk with
    | 0, _ =>
      rw [show ((0 : Nat) : Int) - 1 = -1 from rfl]
      go_wp2
      go_ret
      exact ⟨by rw [hR.out, Nat.sub_zero, Nat.add_zero]; rfl, rfl⟩
    | j + 1, hk =>
      rw [show ((j + 1 : Nat) : Int) - 1 = (j : Int) from by omega]
      have hcell := HC.out (m + j) (by omega)
      have hbj := HB.out (m + j)
      obtain ⟨hb1, hb2⟩ := hbj
      have hacc := le_bd ((l.drop (m + (j + 1))).take (n - (j + 1))) (fun i => by
        by_cases hi : i < n - (j + 1)
        · rw [take_getD _ _ _ hi, drop_getD]; exact HB.out _
        · simp [List.getD, List.getElem?_take, hi])
      have hlen : (256 : Int) ^ ((l.drop (m + (j + 1))).take (n - (j + 1))).length ≤ 256 ^ 7 := by
        have := List.length_take_le (n - (j + 1)) (l.drop (m + (j + 1)))
        exact_mod_cast Nat.pow_le_pow_right (by omega) (by omega)
      have hstep : Hid (le ((l.drop (m + j)).take (n - j)) = l.getD (m + j) 0 + 256 * le ((l.drop (m + (j + 1))).take (n - (j + 1)))) := by
        unfold Hid
        rw [show n - j = (n - (j + 1)) + 1 from by omega, take_drop_cons l (m + j) _ (by omega), le_cons]
        rfl
      obtain ⟨acc, hacce⟩ : ∃ acc, acc = le ((l.drop (m + (j + 1))).take (n - (j + 1))) := ⟨_, rfl⟩
      obtain ⟨bj, hbje⟩ : ∃ bj, bj = l.getD (m + j) 0 := ⟨_, rfl⟩
      rw [← hacce] at hacc hstep ⊢
      rw [← hbje] at hstep hcell hb1 hb2
      obtain ⟨ha1, ha2⟩ := hacc
      have ha3 : acc < 72057594037927936 := by
        have : (256 : Int) ^ 7 = 72057594037927936 := by decide
        omega
      clear hacce hbje ha2 hlen
      have hmj : (m : Int) + (j : Int) < (l.length : Int) := by omega
      go_wp2
      go_round
      case rel => exact ⟨j, by omega, rfl, by rw [hstep.out]; go_num⟩
      case measure => simp [intOf]

/-- A block with a field of another number. -/
def withB (b : Blk) (k : Nat) (v : Int) : Blk :=
  match k with
  | 0 => { b with tag := wrap64 v }
  | 1 => { b with cls := wrap64 v }
  | 2 => { b with used := v == 1 }
  | 3 => { b with lab := wrap64 v }
  | 4 => { b with name := v % 4294967296 }
  | 5 => { b with next := v % 4294967296 }
  | 6 => { b with prev := v % 4294967296 }
  | 7 => { b with exp := v }
  | 8 => { b with typ := v % 65536 }
  | 9 => { b with size := wrap64 v }
  | 10 => { b with hash := v % 4294967296 }
  | _ => { b with refs := v % 4294967296 }

theorem u16_mod (v : Int) : IntKind.u16.wrap v = v % 65536 := by simp [IntKind.wrap, IntKind.bits, IntKind.signed]
theorem new_cell (w : World) (a : Obj) (c : Array Value) (T : TypeId) (i : Nat) : ((w.alloc a).alloc (.cells c T)).cell? ⟨w.heap.size + 1, i, none⟩ = c[i]? := by
  have h1 := heap_alloc_new (w.alloc a) (.cells c T)
  have h2 : (w.alloc a).heap.size = w.heap.size + 1 := by simp
  rw [h2] at h1
  exact cell_block h1 i

set_option maxRecDepth 100000 in
set_option maxHeartbeats 4000000 in
theorem refWith_any (b : Blk) (k : Nat) (v : Int) (w : World) (hk : k < 12) (h0 : 0 ≤ v) (h1 : v < 18446744073709551616) : Calls Tryd.prog 33 #[b.agg, .int .i64 (k : Int), .int .u64 v] w fun e w' => e = .returned (withB b k v).agg ∧ Below w.heap.size w w' := by
  obtain ⟨R, hR⟩ : ∃ R, R = (withB b k v).agg := ⟨_, rfl⟩
  rw [← hR]
  have HR := Lib.hid hR
  clear hR
  unfold Blk.agg
  obtain ⟨tag, cls, used, lab, name, next, prev, refs, exp, typ, size, hash⟩ := b
  have hk : k = 0 ∨ k = 1 ∨ k = 2 ∨ k = 3 ∨ k = 4 ∨ k = 5 ∨ k = 6 ∨ k = 7 ∨ k = 8 ∨ k = 9 ∨ k = 10 ∨ k = 11 := by omega
  rcases hk with rfl | rfl | rfl | rfl | rfl | rfl | rfl | rfl | rfl | rfl | rfl | rfl
  all_goals
    go_enter Tryd.func33, Tryd.ntmps33
    go_wp2
    refine bodyPost_ret (v := R) (by rw [HR.out]; simp [results, Tryd.results33, go_sem, withB, Blk.agg, u16_mod]) rfl ⟨rfl, below2 _ _ _⟩
end Go.Proofs.YtkknegnipodcnaaDoor.Hea

namespace Go.Proofs.YtkknegnipodcnaaDoor.Hea
open Go.RowKit Num
set_option linter.unusedVariables false

/-- A head of bytes behind k fields. -/
def foldD (l : List Int) (t : Int) : Nat → Blk
  | 0 => Blk.zero
  | k + 1 => if 0 < (whF t k).2 then withB (foldD l t k) k (rdF l (whF t k).1.toNat (whF t k).2.toNat) else foldD l t k
theorem rdF_bd {l : List Int} (hl : ∀ i, 0 ≤ l.getD i 0 ∧ l.getD i 0 < 256) (a n : Nat) : 0 ≤ rdF l a n ∧ rdF l a n < 256 ^ n := by
  have hb : ∀ i, 0 ≤ ((l.drop a).take n).getD i 0 ∧ ((l.drop a).take n).getD i 0 < 256 := fun i => by
    by_cases hi : i < n
    · rw [take_getD _ _ _ hi, drop_getD]; exact hl _
    · simp [List.getD, List.getElem?_take, hi]
  have h := le_bd ((l.drop a).take n) hb
  refine ⟨h.1, Int.lt_of_lt_of_le h.2 ?_⟩
  have h1 : ((l.drop a).take n).length ≤ n := by rw [List.length_take]; omega
  have e : ∀ k : Nat, (256 : Int) ^ k = ((256 ^ k : Nat) : Int) := fun k => by rw [Int.natCast_pow]; rfl
  rw [e, e]
  exact Int.ofNat_le.2 (Nat.pow_le_pow_right (by decide) h1)
theorem rdF_one {l : List Int} (a : Nat) (h : a < l.length) : rdF l a 1 = l.getD a 0 := by
  unfold rdF
  rw [List.drop_eq_getElem_cons h, List.take_succ_cons, List.take_zero]
  simp [le, List.getD, h]
theorem rdF_1 {l : List Int} (hl : ∀ i, 0 ≤ l.getD i 0 ∧ l.getD i 0 < 256) (a : Nat) : 0 ≤ rdF l a 1 ∧ rdF l a 1 < 256 := rdF_bd hl a 1
theorem rdF_2 {l : List Int} (hl : ∀ i, 0 ≤ l.getD i 0 ∧ l.getD i 0 < 256) (a : Nat) : 0 ≤ rdF l a 2 ∧ rdF l a 2 < 65536 := rdF_bd hl a 2
theorem rdF_4 {l : List Int} (hl : ∀ i, 0 ≤ l.getD i 0 ∧ l.getD i 0 < 256) (a : Nat) : 0 ≤ rdF l a 4 ∧ rdF l a 4 < 4294967296 := rdF_bd hl a 4
theorem rdF_8 {l : List Int} (hl : ∀ i, 0 ≤ l.getD i 0 ∧ l.getD i 0 < 256) (a : Nat) : 0 ≤ rdF l a 8 ∧ rdF l a 8 < 18446744073709551616 := rdF_bd hl a 8
theorem w64 {v : Int} (h0 : 0 ≤ v) (h1 : v < 4294967296) : wrap64 v = v := IntWalk.wrap64_in _ (by omega)
theorem foldD_end {l : List Int} (hl : ∀ i, 0 ≤ l.getD i 0 ∧ l.getD i 0 < 256) (ht : l.getD 0 0 ≤ 2) (hs : szF (l.getD 0 0) ≤ (l.length : Int)) : foldD l (l.getD 0 0) 12 = decB l := by
  obtain ⟨t, he⟩ : ∃ t, t = l.getD 0 0 := ⟨_, rfl⟩
  have h0 := hl 0
  rw [← he] at ht hs h0 ⊢
  have h8 := (sz_bd (t := t) ⟨h0.1, ht⟩).1
  have e0 : rdF l 0 1 = t := by rw [rdF_one _ (by omega), he]
  have e1 : rdF l 1 1 = l.getD 1 0 := rdF_one _ (by omega)
  have e2 : rdF l 2 1 = l.getD 2 0 := rdF_one _ (by omega)
  have e3 : rdF l 3 1 = l.getD 3 0 := rdF_one _ (by omega)
  have b1 := hl 1
  have b2 := hl 2
  have b3 := hl 3
  have c4 := rdF_4 hl 4
  have c8 := rdF_4 hl 8
  have c12 := rdF_4 hl 12
  have c16 := rdF_8 hl 16
  have c24 := rdF_2 hl 24
  have c26 := rdF_2 hl 26
  have c28 := rdF_4 hl 28
  have m4 : rdF l 4 4 % 4294967296 = rdF l 4 4 := Int.emod_eq_of_lt c4.1 c4.2
  have m8 : rdF l 8 4 % 4294967296 = rdF l 8 4 := Int.emod_eq_of_lt c8.1 c8.2
  have m12 : rdF l 12 4 % 4294967296 = rdF l 12 4 := Int.emod_eq_of_lt c12.1 c12.2
  have m24 : rdF l 24 2 % 65536 = rdF l 24 2 := Int.emod_eq_of_lt c24.1 c24.2
  have m26 : wrap64 (rdF l 26 2) = rdF l 26 2 := w64 c26.1 (by omega)
  have m28 : rdF l 28 4 % 4294967296 = rdF l 28 4 := Int.emod_eq_of_lt c28.1 c28.2
  have n1 : wrap64 (l.getD 1 0) = l.getD 1 0 := w64 b1.1 (by omega)
  have n3 : wrap64 (l.getD 3 0) = l.getD 3 0 := w64 b3.1 (by omega)
  have n0 : wrap64 t = t := w64 h0.1 (by omega)
  unfold decB
  rw [← he]
  have htt : t = 0 ∨ t = 1 ∨ t = 2 := by omega
  clear hs ht h0 h8
  rcases htt with rfl | rfl | rfl
  · simp only [foldD, show whF 0 ((0 : Nat) : Int) = (0, 1) from by decide, show whF 0 ((1 : Nat) : Int) = (1, 1) from by decide, show whF 0 ((2 : Nat) : Int) = (2, 1) from by decide, show whF 0 ((3 : Nat) : Int) = (3, 1) from by decide, show whF 0 ((4 : Nat) : Int) = (4, 4) from by decide, show whF 0 ((5 : Nat) : Int) = (0, 0) from by decide, show whF 0 ((6 : Nat) : Int) = (0, 0) from by decide, show whF 0 ((7 : Nat) : Int) = (0, 0) from by decide, show whF 0 ((8 : Nat) : Int) = (0, 0) from by decide, show whF 0 ((9 : Nat) : Int) = (0, 0) from by decide, show whF 0 ((10 : Nat) : Int) = (0, 0) from by decide, show whF 0 ((11 : Nat) : Int) = (0, 0) from by decide]
    simp only [Int.toNat_zero, Int.reduceToNat, Int.reduceLT, if_true, if_false, Blk.zero, withB, e0, e1, e2, e3, m4, n0, n1, n3, Int.reduceEq]
  · simp only [foldD, show whF 1 ((0 : Nat) : Int) = (0, 1) from by decide, show whF 1 ((1 : Nat) : Int) = (1, 1) from by decide, show whF 1 ((2 : Nat) : Int) = (2, 1) from by decide, show whF 1 ((3 : Nat) : Int) = (3, 1) from by decide, show whF 1 ((4 : Nat) : Int) = (4, 4) from by decide, show whF 1 ((5 : Nat) : Int) = (8, 4) from by decide, show whF 1 ((6 : Nat) : Int) = (12, 4) from by decide, show whF 1 ((7 : Nat) : Int) = (16, 8) from by decide, show whF 1 ((8 : Nat) : Int) = (24, 2) from by decide, show whF 1 ((9 : Nat) : Int) = (26, 2) from by decide, show whF 1 ((10 : Nat) : Int) = (28, 4) from by decide, show whF 1 ((11 : Nat) : Int) = (0, 0) from by decide]
    simp only [Int.toNat_zero, Int.reduceToNat, Int.reduceLT, if_true, if_false, Blk.zero, withB, e0, e1, e2, e3, m4, m8, m12, m24, m26, m28, n0, n1, n3, Int.reduceEq]
  · simp only [foldD, show whF 2 ((0 : Nat) : Int) = (0, 1) from by decide, show whF 2 ((1 : Nat) : Int) = (1, 1) from by decide, show whF 2 ((2 : Nat) : Int) = (2, 1) from by decide, show whF 2 ((3 : Nat) : Int) = (3, 1) from by decide, show whF 2 ((4 : Nat) : Int) = (4, 4) from by decide, show whF 2 ((5 : Nat) : Int) = (0, 0) from by decide, show whF 2 ((6 : Nat) : Int) = (0, 0) from by decide, show whF 2 ((7 : Nat) : Int) = (0, 0) from by decide, show whF 2 ((8 : Nat) : Int) = (0, 0) from by decide, show whF 2 ((9 : Nat) : Int) = (0, 0) from by decide, show whF 2 ((10 : Nat) : Int) = (12, 4) from by decide, show whF 2 ((11 : Nat) : Int) = (8, 4) from by decide]
    simp only [Int.toNat_zero, Int.reduceToNat, Int.reduceLT, if_true, if_false, Blk.zero, withB, e0, e1, e2, e3, m4, m8, m12, n0, n1, n3, Int.reduceEq]

def cellsA (b : Blk) : Array Value := #[.int .i64 b.tag, .int .i64 b.cls, .bool b.used, .int .i64 b.lab, .int .u32 b.name, .int .u32 b.next, .int .u32 b.prev, .int .u32 b.refs, .int .u64 b.exp, .int .u16 b.typ, .int .i64 b.size, .int .u32 b.hash]
/-- A block's twelve cells, written one by one. -/
def S12 (w : World) (o : Nat) (b : Blk) : World :=
  (((((((((((w.setCell ⟨o, 0, none⟩ (.int .i64 b.tag)).setCell ⟨o, 1, none⟩ (.int .i64 b.cls)).setCell ⟨o, 2, none⟩ (.bool b.used)).setCell ⟨o, 3, none⟩ (.int .i64 b.lab)).setCell ⟨o, 4, none⟩ (.int .u32 b.name)).setCell ⟨o, 5, none⟩ (.int .u32 b.next)).setCell ⟨o, 6, none⟩ (.int .u32 b.prev)).setCell ⟨o, 7, none⟩ (.int .u32 b.refs)).setCell ⟨o, 8, none⟩ (.int .u64 b.exp)).setCell ⟨o, 9, none⟩ (.int .u16 b.typ)).setCell ⟨o, 10, none⟩ (.int .i64 b.size)).setCell ⟨o, 11, none⟩ (.int .u32 b.hash)
theorem s12_block {w : World} {o : Nat} {b0 : Blk} {T : TypeId} (h : w.heap[o]? = some (.cells (cellsA b0) T (0, 0))) (b : Blk) : (S12 w o b).heap[o]? = some (.cells (cellsA b) T (0, 0)) := by
  unfold S12
  have h1 := heap_setCell_own (o := 0) h (.int .i64 b.tag)
  have h2 := heap_setCell_own (o := 1) h1 (.int .i64 b.cls)
  have h3 := heap_setCell_own (o := 2) h2 (.bool b.used)
  have h4 := heap_setCell_own (o := 3) h3 (.int .i64 b.lab)
  have h5 := heap_setCell_own (o := 4) h4 (.int .u32 b.name)
  have h6 := heap_setCell_own (o := 5) h5 (.int .u32 b.next)
  have h7 := heap_setCell_own (o := 6) h6 (.int .u32 b.prev)
  have h8 := heap_setCell_own (o := 7) h7 (.int .u32 b.refs)
  have h9 := heap_setCell_own (o := 8) h8 (.int .u64 b.exp)
  have h10 := heap_setCell_own (o := 9) h9 (.int .u16 b.typ)
  have h11 := heap_setCell_own (o := 10) h10 (.int .i64 b.size)
  have h12 := heap_setCell_own (o := 11) h11 (.int .u32 b.hash)
  refine h12.trans ?_
  simp [cellsA]
theorem s12_below {w w0 : World} {B o : Nat} (hb : Below B w0 w) (ho : B ≤ o) (b : Blk) : Below B w0 (S12 w o b) := by
  unfold S12
  exact (((((((((((hb.setCell (p := ⟨o, 0, none⟩) ho _).setCell (p := ⟨o, 1, none⟩) ho _).setCell (p := ⟨o, 2, none⟩) ho _).setCell (p := ⟨o, 3, none⟩) ho _).setCell (p := ⟨o, 4, none⟩) ho _).setCell (p := ⟨o, 5, none⟩) ho _).setCell (p := ⟨o, 6, none⟩) ho _).setCell (p := ⟨o, 7, none⟩) ho _).setCell (p := ⟨o, 8, none⟩) ho _).setCell (p := ⟨o, 9, none⟩) ho _).setCell (p := ⟨o, 10, none⟩) ho _).setCell (p := ⟨o, 11, none⟩) ho _
theorem cells_of {w : World} {o : Nat} {b : Blk} {T : TypeId} (h : w.heap[o]? = some (.cells (cellsA b) T (0, 0))) :
    w.cell? ⟨o, 0, none⟩ = some (.int .i64 b.tag) ∧ w.cell? ⟨o, 1, none⟩ = some (.int .i64 b.cls) ∧ w.cell? ⟨o, 2, none⟩ = some (.bool b.used) ∧ w.cell? ⟨o, 3, none⟩ = some (.int .i64 b.lab) ∧ w.cell? ⟨o, 4, none⟩ = some (.int .u32 b.name) ∧ w.cell? ⟨o, 5, none⟩ = some (.int .u32 b.next) ∧ w.cell? ⟨o, 6, none⟩ = some (.int .u32 b.prev) ∧ w.cell? ⟨o, 7, none⟩ = some (.int .u32 b.refs) ∧ w.cell? ⟨o, 8, none⟩ = some (.int .u64 b.exp) ∧ w.cell? ⟨o, 9, none⟩ = some (.int .u16 b.typ) ∧ w.cell? ⟨o, 10, none⟩ = some (.int .i64 b.size) ∧ w.cell? ⟨o, 11, none⟩ = some (.int .u32 b.hash) :=
  ⟨(cell_block h 0).trans rfl, (cell_block h 1).trans rfl, (cell_block h 2).trans rfl, (cell_block h 3).trans rfl, (cell_block h 4).trans rfl, (cell_block h 5).trans rfl, (cell_block h 6).trans rfl, (cell_block h 7).trans rfl, (cell_block h 8).trans rfl, (cell_block h 9).trans rfl, (cell_block h 10).trans rfl, (cell_block h 11).trans rfl⟩
theorem free_of {w : World} {o : Nat} {b : Blk} {T : TypeId} (h : w.heap[o]? = some (.cells (cellsA b) T (0, 0))) (i : Nat) : w.frozen? ⟨o, i, none⟩ = false := frozen_block h i
theorem new0_cell (w : World) (c : Array Value) (T : TypeId) (i : Nat) : (w.alloc (.cells c T)).cell? ⟨w.heap.size, i, none⟩ = c[i]? := cell_block (heap_alloc_new w _) i
theorem decF_nil : decF [] = (Blk.zero, 3) := rfl
theorem decF_big {l : List Int} (hn : l ≠ []) (h : 2 < l.getD 0 0) : decF l = (Blk.zero, 4) := by rw [decF, if_neg hn, if_pos h]
theorem decF_short {l : List Int} (hn : l ≠ []) (h : ¬ 2 < l.getD 0 0) (hs : (l.length : Int) < szF (l.getD 0 0)) : decF l = (Blk.zero, 3) := by rw [decF, if_neg hn, if_neg h, if_pos hs]
theorem decF_rest {l : List Int} (hn : l ≠ []) (h : ¬ 2 < l.getD 0 0) (hs : ¬ (l.length : Int) < szF (l.getD 0 0)) : decF l = if 1 < l.getD 2 0 ∨ rightF (decB l) = false then (Blk.zero, 4) else (decB l, 0) := by rw [decF, if_neg hn, if_neg h, if_neg hs]

theorem decB_ok {l : List Int} (hl : ∀ i, 0 ≤ l.getD i 0 ∧ l.getD i 0 < 256) : (decB l).Ok := by
  have h0 := hl 0
  have h1 := hl 1
  have h3 := hl 3
  have c4 := rdF_4 hl 4
  have c8 := rdF_4 hl 8
  have c12 := rdF_4 hl 12
  have c16 := rdF_8 hl 16
  have c24 := rdF_2 hl 24
  have c26 := rdF_2 hl 26
  have c28 := rdF_4 hl 28
  unfold decB
  constructor <;> simp only [i64, u32, u64, u16] <;> (repeat' split) <;> omega
theorem s12_other (w : World) (o g : Nat) (b : Blk) (h : g ≠ o) : (S12 w o b).heap[g]? = w.heap[g]? := by
  unfold S12
  simp only [Below.heap_setCell _ _ _ _ (show g ≠ (⟨o, 0, none⟩ : Addr).block from h), Below.heap_setCell _ _ _ _ (show g ≠ (⟨o, 1, none⟩ : Addr).block from h), Below.heap_setCell _ _ _ _ (show g ≠ (⟨o, 2, none⟩ : Addr).block from h), Below.heap_setCell _ _ _ _ (show g ≠ (⟨o, 3, none⟩ : Addr).block from h), Below.heap_setCell _ _ _ _ (show g ≠ (⟨o, 4, none⟩ : Addr).block from h), Below.heap_setCell _ _ _ _ (show g ≠ (⟨o, 5, none⟩ : Addr).block from h), Below.heap_setCell _ _ _ _ (show g ≠ (⟨o, 6, none⟩ : Addr).block from h), Below.heap_setCell _ _ _ _ (show g ≠ (⟨o, 7, none⟩ : Addr).block from h), Below.heap_setCell _ _ _ _ (show g ≠ (⟨o, 8, none⟩ : Addr).block from h), Below.heap_setCell _ _ _ _ (show g ≠ (⟨o, 9, none⟩ : Addr).block from h), Below.heap_setCell _ _ _ _ (show g ≠ (⟨o, 10, none⟩ : Addr).block from h), Below.heap_setCell _ _ _ _ (show g ≠ (⟨o, 11, none⟩ : Addr).block from h)]

set_option maxRecDepth 100000 in
set_option maxHeartbeats 4000000 in
theorem refDecode_any (v : Value) (l : List Int) (w : World) (hr : Row .u8 w v l) (hl : l.length ≤ 1000000) :
    Calls Tryd.prog 12 #[v] w fun e w' => e = .returned (.tuple #[(decF l).1.agg, .int .i64 (decF l).2]) ∧ Below w.heap.size w w' := by
  have hby := hr.bytes
  have HRow := Lib.hid hr
  obtain ⟨ad, cap, rfl, q2, q3, q4, q5⟩ := hr
  clear q4
  by_cases hn : l = []
  · subst hn
    rw [decF_nil]
    clear q5 hby HRow
    go_enter Tryd.func12, Tryd.ntmps12
    go_wp2
    refine bodyPost_ret (v := .tuple #[Blk.zero.agg, .int .i64 3]) (by simp [results, Tryd.results12, go_sem, Blk.zero, Blk.agg]) rfl ⟨rfl, below_made _ _⟩
  · obtain ⟨b, off, rfl, hlt, hc⟩ := q5 hn
    have HC := Lib.hid hc
    have hl0 : 0 < l.length := List.length_pos_iff.2 hn
    have hl1 : ((l.length : Int) == 0) = false := by rw [beq_eq_false_iff_ne]; omega
    have hli : ¬ l.length = 0 := by omega
    have e0 := ((below_made w (.cells (cellsA Blk.zero) 26)).cell (p := ⟨b, off, none⟩) hlt).trans (hc 0 hl0)
    have b0 := hby 0
    obtain ⟨t, ht⟩ : ∃ t, t = l.getD 0 0 := ⟨_, rfl⟩
    rw [← ht] at e0 b0
    unfold cellsA Blk.zero at e0
    by_cases h2 : 2 < t
    · rw [decF_big hn (by rw [← ht]; exact h2)]
      clear ht hc hn hby q5 HRow
      go_enter Tryd.func12, Tryd.ntmps12
      go_wp2
      refine bodyPost_ret (v := .tuple #[Blk.zero.agg, .int .i64 4]) (by simp [results, Tryd.results12, go_sem, Blk.zero, Blk.agg]) rfl ⟨rfl, below_made _ _⟩
    · have h2' : ¬ 2 < l.getD 0 0 := by rw [← ht]; exact h2
      have HSz := Lib.hid (fun W => refSize_any t W)
      obtain ⟨z, hz⟩ : ∃ z, z = szF t := ⟨_, rfl⟩
      rw [← hz] at HSz
      have hblk := heap_alloc_new w (.cells (cellsA Blk.zero) 26)
      have hbl0 := below_made w (.cells (cellsA Blk.zero) 26)
      have hz0 : w.heap.size < (w.alloc (.cells (cellsA Blk.zero) 26)).heap.size := by simp
      obtain ⟨o, ho⟩ : ∃ o, o = w.heap.size := ⟨_, rfl⟩
      have HKeep : Hid (∀ W, Below (w.alloc (.cells (cellsA Blk.zero) 26)).heap.size (w.alloc (.cells (cellsA Blk.zero) 26)) W → W.heap[w.heap.size]? = some (.cells (cellsA Blk.zero) 26 (0, 0)) ∧ Below w.heap.size w W) := fun W hb => ⟨(hb.block _ hz0).trans hblk, hbl0.trans (hb.mono hbl0.size)⟩
      unfold cellsA Blk.zero at HKeep
      by_cases hs : (l.length : Int) < z
      · rw [decF_short hn h2' (by rw [← ht, ← hz]; exact hs)]
        clear ht hc hn hby q5 HRow hz hblk hbl0 hz0 ho h2'
        go_enter Tryd.func12, Tryd.ntmps12
        go_wp2_with fail
        refine (HSz.out _).mono ?_
        rintro e w1 ⟨rfl, hb1⟩
        obtain ⟨hk1, hk2⟩ := HKeep.out w1 hb1
        have hk3 : w1.heap[w.heap.size]? = some (.cells (cellsA Blk.zero) 26 (0, 0)) := hk1
        obtain ⟨c0, c1, c2, c3, c4, c5, c6, c7, c8, c9, c10, c11⟩ := cells_of hk3
        have f := free_of hk3
        have f0 := f 0
        have f1 := f 1
        have f2 := f 2
        have f3 := f 3
        have f4 := f 4
        have f5 := f 5
        have f6 := f 6
        have f7 := f 7
        have f8 := f 8
        have f9 := f 9
        have f10 := f 10
        have f11 := f 11
        have HQ := Lib.hid (cells_of (s12_block hk3 Blk.zero))
        have HBz := Lib.hid (s12_below hk2 (Nat.le_refl _) Blk.zero)
        clear hb1 hk1 hk2 hk3 f
        go_wp2
        show bodyPost _ _ _ _ _ (S12 w1 w.heap.size Blk.zero)
        generalize S12 w1 w.heap.size Blk.zero = W at HQ HBz ⊢
        obtain ⟨q0, q1, q2, q3, q4, q5, q6, q7, q8, q9, q10, q11⟩ := HQ.out
        refine bodyPost_ret (v := .tuple #[Blk.zero.agg, .int .i64 3]) (by simp [results, Tryd.results12, go_sem, q0, q1, q2, q3, q4, q5, q6, q7, q8, q9, q10, q11, Blk.zero, Blk.agg]) rfl ⟨rfl, HBz.out⟩
      · rw [decF_rest hn h2' (by rw [← ht, ← hz]; exact hs)]
        have hs2 : szF t ≤ (l.length : Int) := by omega
        have ht3 : 0 ≤ t ∧ t ≤ 2 := by omega
        have hz8 := sz_bd ht3
        have hend := foldD_end hby (by rw [← ht]; omega) (by rw [← ht]; exact hs2)
        have HFit := Lib.hid (wh_fit ht3)
        have HW := Lib.hid (fun (k : Int) W => refWhere_any t k W)
        have HOk := Lib.hid (decB_ok hby)
        have HStep : Hid (∀ k, foldD l t (k + 1) = if 0 < (whF t k).2 then withB (foldD l t k) k (rdF l (whF t k).1.toNat (whF t k).2.toNat) else foldD l t k) := fun k => rfl
        have HZ : Hid (foldD l t 0 = Blk.zero) := rfl
        have HRd := Lib.hid (fun a n => rdF_bd hby a n)
        rw [← ht] at hend
        have e2 := hc 2 (by omega)
        have b2 := hby 2
        obtain ⟨x2, hx2⟩ : ∃ x2, x2 = l.getD 2 0 := ⟨_, rfl⟩
        rw [← hx2] at e2 b2 ⊢
        obtain ⟨FD, hFD⟩ : ∃ FD : Nat → Blk, FD = foldD l t := ⟨_, rfl⟩
        rw [← hFD] at HStep HZ hend
        obtain ⟨R, hR⟩ : ∃ R, R = decB l := ⟨_, rfl⟩
        rw [← hR] at hend HOk ⊢
        obtain ⟨P, hP⟩ : ∃ P, P = if 1 < x2 ∨ rightF R = false then (Blk.zero, (4 : Int)) else (R, 0) := ⟨_, rfl⟩
        rw [← hP]
        have HP1 : Hid (1 < x2 → P = (Blk.zero, 4)) := fun h => by rw [hP, if_pos (.inl h)]
        have HP2 : Hid (rightF R = false → P = (Blk.zero, 4)) := fun h => by rw [hP, if_pos (.inr h)]
        have HP3 : Hid (¬ 1 < x2 → rightF R = true → P = (R, 0)) := fun h h1 => by rw [hP, if_neg (by rw [h1]; simp [h])]
        clear hP
        have h3l : (2 : Int) < (l.length : Int) := by omega
        have HLt := Lib.hid hlt
        have HEnd := Lib.hid hend
        have HE2 := Lib.hid e2
        have HFit2 : Hid (∀ k : Nat, k < 12 → (whF t k).1 + (whF t k).2 ≤ (l.length : Int)) := fun k hk => by have := wh_fit ht3 k hk; omega
        clear hend hFD hR hx2 hs2 ht hc hn hby q5 hblk hbl0 ho h2' e2 hz
        go_enter Tryd.func12, Tryd.ntmps12
        go_wp2_with fail
        refine (HSz.out _).mono ?_
        rintro e w1 ⟨rfl, hb1⟩
        have HK1 : Hid (w1.heap[w.heap.size]? = some (.cells (cellsA Blk.zero) 26 (0, 0)) ∧ Below w.heap.size w w1) := HKeep.out w1 hb1
        clear hb1
        have hbo := heap_alloc_new w1 (.cells (cellsA Blk.zero) 26)
        have hbb := below_made w1 (.cells (cellsA Blk.zero) 26)
        obtain ⟨o, ho⟩ : ∃ o, o = w1.heap.size := ⟨_, rfl⟩
        have HNe : Hid (w.heap.size < o) := by unfold Hid; rw [ho]; exact lt_block HK1.out.1
        have HI0 : Hid ((w1.alloc (.cells (cellsA Blk.zero) 26)).heap[o]? = some (.cells (cellsA (FD 0)) 26 (0, 0)) ∧ (w1.alloc (.cells (cellsA Blk.zero) 26)).heap[w.heap.size]? = some (.cells (cellsA Blk.zero) 26 (0, 0)) ∧ Below w.heap.size w (w1.alloc (.cells (cellsA Blk.zero) 26))) :=
          ⟨by rw [HZ.out, ho]; exact hbo, (hbb.block _ (lt_block HK1.out.1)).trans HK1.out.1, HK1.out.2.trans (hbb.mono HK1.out.2.size)⟩
        clear hbo hbb HK1
        have ho1 := ho
        clear ho
        have HIb : Hid (∀ W V D, (W.heap[o]? = some (.cells (cellsA D) 26 (0, 0)) ∧ W.heap[w.heap.size]? = some (.cells (cellsA Blk.zero) 26 (0, 0)) ∧ Below w.heap.size w W) → Below W.heap.size W V → (V.heap[o]? = some (.cells (cellsA D) 26 (0, 0)) ∧ V.heap[w.heap.size]? = some (.cells (cellsA Blk.zero) 26 (0, 0)) ∧ Below w.heap.size w V)) :=
          fun W V D h hb => ⟨(hb.block _ (lt_block h.1)).trans h.1, (hb.block _ (lt_block h.2.1)).trans h.2.1, h.2.2.trans (hb.mono h.2.2.size)⟩
        have HIs : Hid (∀ W D E, (W.heap[o]? = some (.cells (cellsA D) 26 (0, 0)) ∧ W.heap[w.heap.size]? = some (.cells (cellsA Blk.zero) 26 (0, 0)) ∧ Below w.heap.size w W) → ((S12 W o E).heap[o]? = some (.cells (cellsA E) 26 (0, 0)) ∧ (S12 W o E).heap[w.heap.size]? = some (.cells (cellsA Blk.zero) 26 (0, 0)) ∧ Below w.heap.size w (S12 W o E))) :=
          fun W D E h => ⟨s12_block h.1 E, (s12_other _ _ _ _ (by have := HNe.out; omega)).trans h.2.1, s12_below h.2.2 (by have := HNe.out; omega) E⟩
        obtain ⟨In, hIn⟩ : ∃ In : World → Blk → Prop, In = fun W D => (W.heap[o]? = some (.cells (cellsA D) 26 (0, 0)) ∧ W.heap[w.heap.size]? = some (.cells (cellsA Blk.zero) 26 (0, 0)) ∧ Below w.heap.size w W) := ⟨_, rfl⟩
        have HInc : Hid (∀ W D, In W D → W.heap[o]? = some (.cells (cellsA D) 26 (0, 0)) ∧ W.heap[w.heap.size]? = some (.cells (cellsA Blk.zero) 26 (0, 0)) ∧ Below w.heap.size w W) := fun W D h => by rw [hIn] at h; exact h
        have HInb : Hid (∀ W V D, In W D → Below W.heap.size W V → In V D) := fun W V D h hb => by rw [hIn] at h ⊢; exact HIb.out W V D h hb
        have HIns : Hid (∀ W D E, In W D → In (S12 W o E) E) := fun W D E h => by rw [hIn] at h ⊢; exact HIs.out W D E h
        have HIn0 : Hid (In (w1.alloc (.cells (cellsA Blk.zero) 26)) (FD 0)) := by unfold Hid; rw [hIn]; exact HI0.out
        clear hIn HIb HIs HI0
        unfold cellsA Blk.zero at HIn0
        go_wp2
        rw [← ho1]
        clear ho1
        generalize w1.alloc _ = w3 at HIn0 ⊢
        go_loopw [6] (fun i wr => ∃ k : Nat, k ≤ 12 ∧ i = .int .i64 k ∧ Hid (In wr (FD k))) (fun i _ => 12 - (intOf i).toNat)
        case atStart => exact ⟨0, Nat.zero_le _, rfl, HIn0.out⟩
        case round =>
          obtain ⟨k, hk, rfl, HV⟩ := hrel
          by_cases hlt : k < 12
          · have hlt1 : (k : Int) < 12 := by omega
            have hfit := HFit.out k hlt
            have hfit2 := HFit2.out k hlt
            have hstep := HStep.out k
            have HWk := Lib.hid (HW.out k wr)
            obtain ⟨a, ha⟩ : ∃ a : Nat, (whF t k).1 = a := ⟨(whF t k).1.toNat, by omega⟩
            obtain ⟨n, hn⟩ : ∃ n : Nat, (whF t k).2 = n := ⟨(whF t k).2.toNat, by omega⟩
            rw [ha, hn] at HWk hfit hstep hfit2
            rw [Int.toNat_natCast, Int.toNat_natCast] at hstep
            clear ha hn
            by_cases hz : n = 0
            · subst hz
              rw [if_neg (by omega)] at hstep
              have HSt := Lib.hid hstep
              clear hstep hfit hfit2
              go_wp2_with fail
              refine HWk.out.mono ?_
              rintro e w4 ⟨rfl, hb4⟩
              have HV4 : Hid (In w4 (FD (k + 1))) := by rw [Hid, HSt.out]; exact HInb.out _ _ _ HV.out hb4
              clear hb4 HV
              go_wp2
              go_roundw
              case rel => exact ⟨k + 1, by omega, by go_num, HV4.out⟩
              case measure => simp [intOf]; omega
            · rw [if_pos (by omega)] at hstep
              have hn0 : (0 : Int) < (n : Int) := by omega
              have hy := HRd.out a n
              have hy1 : rdF l a n < 18446744073709551616 := by
                refine Int.lt_of_lt_of_le hy.2 ?_
                have e : ∀ k : Nat, (256 : Int) ^ k = ((256 ^ k : Nat) : Int) := fun k => by rw [Int.natCast_pow]; rfl
                rw [e]
                exact Int.ofNat_le.2 (Nat.le_trans (Nat.pow_le_pow_right (by decide) (show n ≤ 8 by omega)) (by decide))
              have hwi := fun W => refWith_any (FD k) k (rdF l a n) W hlt hy.1 hy1
              rw [← hstep] at hwi
              have htk := fun W (hb : Below w.heap.size w W) => refTaken_any _ l a n W (HRow.out.mono hb (Nat.le_refl _)) (by omega) (by omega) (by omega) (by omega)
              obtain ⟨y, hye⟩ : ∃ y, y = rdF l a n := ⟨_, rfl⟩
              obtain ⟨D, hD⟩ : ∃ D, D = FD k := ⟨_, rfl⟩
              obtain ⟨E, hE⟩ : ∃ E, E = FD (k + 1) := ⟨_, rfl⟩
              rw [← hye] at hwi htk
              rw [← hD, ← hE] at hwi
              rw [← hD] at HV
              have HTk := Lib.hid htk
              have HIE : Hid (∀ W, In W E → In W (FD (k + 1))) := fun W h => by rw [← hE]; exact h
              clear htk hye hD hE hstep hy hy1 hfit hfit2
              unfold Blk.agg at hwi
              have HWi := Lib.hid hwi
              clear hwi
              go_wp2_with fail
              refine HWk.out.mono ?_
              rintro e w4 ⟨rfl, hb4⟩
              have hI4 := HInb.out _ _ _ HV.out hb4
              have hbl4 := (HInc.out _ _ hI4).2.2
              obtain ⟨tag, cls, used, lab, name, next, prev, refs, exp, typ, size, hash⟩ := D
              obtain ⟨c0, c1, c2, c3, c4, c5, c6, c7, c8, c9, c10, c11⟩ := cells_of (HInc.out _ _ hI4).1
              simp only [] at c0 c1 c2 c3 c4 c5 c6 c7 c8 c9 c10 c11
              clear hb4 HV
              go_wp2_with fail
              go_region_with (first | (go_at_call 34; refine (HTk.out _ (by first | exact hbl4 | exact hbl4.drew | exact below_drewN hbl4 _)).mono ?_; rintro e w5 ⟨rfl, rfl⟩) | (go_at_call 33; refine (HWi.out _).mono ?_; rintro e w5 ⟨rfl, hb5⟩; have hI5 := HInb.out _ _ _ (HInb.out _ _ _ hI4 (by first | exact Below.refl _ _ | exact (Below.refl _ _).drew | exact below_drewN (Below.refl _ _) _)) hb5; obtain ⟨d0, d1, d2, d3, d4, d5, d6, d7, d8, d9, d10, d11⟩ := cells_of (HInc.out _ _ hI5).1; simp only [] at d0 d1 d2 d3 d4 d5 d6 d7 d8 d9 d10 d11; have g0 := free_of (HInc.out _ _ hI5).1 0; have g1 := free_of (HInc.out _ _ hI5).1 1; have g2 := free_of (HInc.out _ _ hI5).1 2; have g3 := free_of (HInc.out _ _ hI5).1 3; have g4 := free_of (HInc.out _ _ hI5).1 4; have g5 := free_of (HInc.out _ _ hI5).1 5; have g6 := free_of (HInc.out _ _ hI5).1 6; have g7 := free_of (HInc.out _ _ hI5).1 7; have g8 := free_of (HInc.out _ _ hI5).1 8; have g9 := free_of (HInc.out _ _ hI5).1 9; have g10 := free_of (HInc.out _ _ hI5).1 10; have g11 := free_of (HInc.out _ _ hI5).1 11; have HI6 := Lib.hid (HIns.out _ _ E hI5); clear hI5 hb5))
              all_goals
                show Exit.inBlock _ _ _ _ (S12 w5 o E)
                have HI7 := Lib.hid (HIE.out _ HI6.out)
                clear HI6
                generalize S12 w5 o E = w6 at HI7 ⊢
                go_wp2
                go_roundw
                case rel => exact ⟨k + 1, by omega, by go_num, HI7.out⟩
                case measure => simp [intOf]; omega
          · obtain rfl : k = 12 := by omega
            have hv := HV.out
            rw [HEnd.out] at hv
            have HV2 := Lib.hid hv
            have g2 := ((HInc.out _ _ hv).2.2.cell (p := ⟨b, off + 2, none⟩) (by first | assumption | exact HLt.out)).trans HE2.out
            clear hv HV
            by_cases hx : 1 < x2
            · have HPx := Lib.hid (HP1.out hx)
              have hk3 := (HInc.out _ _ HV2.out).2.1
              obtain ⟨c0, c1, c2, c3, c4, c5, c6, c7, c8, c9, c10, c11⟩ := cells_of hk3
              simp only [Blk.zero] at c0 c1 c2 c3 c4 c5 c6 c7 c8 c9 c10 c11
              have f0 := free_of hk3 0
              have f1 := free_of hk3 1
              have f2 := free_of hk3 2
              have f3 := free_of hk3 3
              have f4 := free_of hk3 4
              have f5 := free_of hk3 5
              have f6 := free_of hk3 6
              have f7 := free_of hk3 7
              have f8 := free_of hk3 8
              have f9 := free_of hk3 9
              have f10 := free_of hk3 10
              have f11 := free_of hk3 11
              have HQ := Lib.hid (cells_of (s12_block hk3 Blk.zero))
              have HBz := Lib.hid (s12_below (HInc.out _ _ HV2.out).2.2 (Nat.le_refl _) Blk.zero)
              clear hk3
              go_wp2
              show bodyPost _ _ _ _ _ (S12 wr w.heap.size Blk.zero)
              generalize S12 wr w.heap.size Blk.zero = W at HQ HBz ⊢
              obtain ⟨q0, q1, q2, q3, q4, q5, q6, q7, q8, q9, q10, q11⟩ := HQ.out
              refine bodyPost_ret (v := .tuple #[Blk.zero.agg, .int .i64 4]) (by simp [results, Tryd.results12, go_sem, q0, q1, q2, q3, q4, q5, q6, q7, q8, q9, q10, q11, Blk.zero, Blk.agg]) rfl ⟨by rw [HPx.out], HBz.out⟩
            · have hx' : decide (1 < x2) = false := by simpa using hx
              have hri := fun W => refRight_any R HOk.out W
              obtain ⟨rb, hrb⟩ : ∃ rb, rb = rightF R := ⟨_, rfl⟩
              rw [← hrb] at hri HP2 HP3
              have HP4 := Lib.hid (HP3.out (by omega))
              clear hrb HP3
              unfold Blk.agg at hri
              have HRi := Lib.hid hri
              clear hri
              obtain ⟨p0, p1, p2, p3, p4, p5, p6, p7, p8, p9, p10, p11⟩ := cells_of (HInc.out _ _ HV2.out).1
              by_cases hrr : rb = true
              · subst hrr
                have HPx := Lib.hid (HP4.out rfl)
                go_wp2_with fail
                refine (HRi.out _).mono ?_
                rintro e w5 ⟨rfl, hb5⟩
                have HV5 := Lib.hid (HInb.out _ _ _ HV2.out hb5)
                clear hb5 p0 p1 p2 p3 p4 p5 p6 p7 p8 p9 p10 p11 HV2
                obtain ⟨p0, p1, p2, p3, p4, p5, p6, p7, p8, p9, p10, p11⟩ := cells_of (HInc.out _ _ HV5.out).1
                have hk3 := (HInc.out _ _ HV5.out).2.1
                obtain ⟨c0, c1, c2, c3, c4, c5, c6, c7, c8, c9, c10, c11⟩ := cells_of hk3
                simp only [Blk.zero] at c0 c1 c2 c3 c4 c5 c6 c7 c8 c9 c10 c11
                have f0 := free_of hk3 0
                have f1 := free_of hk3 1
                have f2 := free_of hk3 2
                have f3 := free_of hk3 3
                have f4 := free_of hk3 4
                have f5 := free_of hk3 5
                have f6 := free_of hk3 6
                have f7 := free_of hk3 7
                have f8 := free_of hk3 8
                have f9 := free_of hk3 9
                have f10 := free_of hk3 10
                have f11 := free_of hk3 11
                have HQ := Lib.hid (cells_of (s12_block hk3 R))
                have HBz := Lib.hid (s12_below (HInc.out _ _ HV5.out).2.2 (Nat.le_refl _) R)
                clear hk3
                go_wp2
                show bodyPost _ _ _ _ _ (S12 w5 w.heap.size R)
                generalize S12 w5 w.heap.size R = W at HQ HBz ⊢
                obtain ⟨q0, q1, q2, q3, q4, q5, q6, q7, q8, q9, q10, q11⟩ := HQ.out
                refine bodyPost_ret (v := .tuple #[R.agg, .int .i64 0]) (by simp [results, Tryd.results12, go_sem, q0, q1, q2, q3, q4, q5, q6, q7, q8, q9, q10, q11, Blk.agg]) rfl ⟨by rw [HPx.out], HBz.out⟩
              · obtain rfl : rb = false := by simpa using hrr
                have HPx := Lib.hid (HP2.out rfl)
                go_wp2_with fail
                refine (HRi.out _).mono ?_
                rintro e w5 ⟨rfl, hb5⟩
                have HV5 := Lib.hid (HInb.out _ _ _ HV2.out hb5)
                clear hb5 p0 p1 p2 p3 p4 p5 p6 p7 p8 p9 p10 p11 HV2
                have hk3 := (HInc.out _ _ HV5.out).2.1
                obtain ⟨c0, c1, c2, c3, c4, c5, c6, c7, c8, c9, c10, c11⟩ := cells_of hk3
                simp only [Blk.zero] at c0 c1 c2 c3 c4 c5 c6 c7 c8 c9 c10 c11
                have f0 := free_of hk3 0
                have f1 := free_of hk3 1
                have f2 := free_of hk3 2
                have f3 := free_of hk3 3
                have f4 := free_of hk3 4
                have f5 := free_of hk3 5
                have f6 := free_of hk3 6
                have f7 := free_of hk3 7
                have f8 := free_of hk3 8
                have f9 := free_of hk3 9
                have f10 := free_of hk3 10
                have f11 := free_of hk3 11
                have HQ := Lib.hid (cells_of (s12_block hk3 Blk.zero))
                have HBz := Lib.hid (s12_below (HInc.out _ _ HV5.out).2.2 (Nat.le_refl _) Blk.zero)
                clear hk3
                go_wp2
                show bodyPost _ _ _ _ _ (S12 w5 w.heap.size Blk.zero)
                generalize S12 w5 w.heap.size Blk.zero = W at HQ HBz ⊢
                obtain ⟨q0, q1, q2, q3, q4, q5, q6, q7, q8, q9, q10, q11⟩ := HQ.out
                refine bodyPost_ret (v := .tuple #[Blk.zero.agg, .int .i64 4]) (by simp [results, Tryd.results12, go_sem, q0, q1, q2, q3, q4, q5, q6, q7, q8, q9, q10, q11, Blk.zero, Blk.agg]) rfl ⟨by rw [HPx.out], HBz.out⟩
end Go.Proofs.YtkknegnipodcnaaDoor.Hea

namespace Go.Proofs.YtkknegnipodcnaaDoor.Hea
open Go.RowKit Num
set_option linter.unusedVariables false

/-- 'Tb': what the code's package variables hold, of a world. -/
structure Does (Tb : World → Prop) : Prop where
  keep : ∀ (w w' : World), Below w.heap.size w w' → Tb w → Tb w'
  whr : ∀ (t f : Int) (w : World), Tb w → i64 t → i64 f → Calls Tryd.prog 15 #[.int .i64 t, .int .i64 f] w fun e w' => e = .returned (.tuple #[.int .i64 (whF t f).1, .int .i64 (whF t f).2]) ∧ Below w.heap.size w w'
  size : ∀ (t : Int) (w : World), Tb w → i64 t → Calls Tryd.prog 17 #[.int .i64 t] w fun e w' => e = .returned (.int .i64 (szF t)) ∧ Below w.heap.size w w'
  right : ∀ (b : Blk) (w : World), Tb w → b.Ok → Calls Tryd.prog 13 #[b.agg] w fun e w' => e = .returned (.bool (rightF b)) ∧ Below w.heap.size w w'
  encode : ∀ (b : Blk) (w : World), Tb w → b.Ok → Calls Tryd.prog 9 #[b.agg] w fun e w' => ∃ u, e = .returned (.tuple #[u, .int .i64 (encF b).2]) ∧ Below w.heap.size w w' ∧ Row .u8 w' u (encF b).1
  decode : ∀ (v : Value) (l : List Int) (w : World), Tb w → Row .u8 w v l → l.length ≤ 1000 → Calls Tryd.prog 11 #[v] w fun e w' => e = .returned (.tuple #[(decF l).1.agg, .int .i64 (decF l).2]) ∧ Below w.heap.size w w'

def exB : Blk := ⟨2, 1, false, 3, 5, 0, 0, 1, 0, 0, 0, 7⟩
def exL : List Int := [2, 1, 0, 3, 5, 0, 0, 0, 1, 0, 0, 0, 7, 0, 0, 0]
theorem exB_ok : exB.Ok := by constructor <;> simp [exB, i64, u32, u64, u16]
theorem exEnc : encF exB = (exL, 0) := by kernel_rfl
theorem exDec : decF exL = (exB, 0) := by kernel_rfl
theorem exBad : decF [3] = (Blk.zero, 4) := by kernel_rfl
theorem exStr : (strOfNums exL).toList = [2, 1, 0, 3, 5, 0, 0, 0, 1, 0, 0, 0, 7, 0, 0, 0] := by rw [ByteArray.toList_eq]; kernel_rfl

set_option maxRecDepth 100000 in
set_option maxHeartbeats 2000000 in
theorem heads_any {Tb : World → Prop} (D : Does Tb) (w : World) (ht : Tb w) : Calls Tryd.prog 8 #[] w fun e w' => e = .returned (.bool true) ∧ Below w.heap.size w w' := by
  have he := fun u (hu : Tb u) => D.encode exB u hu exB_ok
  rw [exEnc] at he
  unfold Blk.agg exB at he
  have HE := Lib.hid he
  have hd := fun v u (hu : Tb u) (hr : Row .u8 u v exL) => D.decode v exL u hu hr (by decide)
  rw [exDec] at hd
  unfold Blk.agg exB at hd
  have HDe := Lib.hid hd
  have hd3 := fun v u (hu : Tb u) (hr : Row .u8 u v [3]) => D.decode v [3] u hu hr (by decide)
  rw [exBad] at hd3
  unfold Blk.agg Blk.zero at hd3
  have HD3 := Lib.hid hd3
  have HW : Hid (∀ u, Tb u → Calls Tryd.prog 15 #[.int .i64 1, .int .i64 7] u fun e w' => e = .returned (.tuple #[.int .i64 16, .int .i64 8]) ∧ Below u.heap.size u w') := fun u hu => D.whr 1 7 u hu (by unfold i64; omega) (by unfold i64; omega)
  have HS : Hid (∀ u, Tb u → Calls Tryd.prog 17 #[.int .i64 1] u fun e w' => e = .returned (.int .i64 32) ∧ Below u.heap.size u w') := fun u hu => D.size 1 u hu (by unfold i64; omega)
  have HKeep := Lib.hid D.keep
  have HT := Lib.hid ht
  clear he hd hd3 D ht
  have hb0 := below_made w (.cells #[.int .i64 2, .int .i64 1, .bool false, .int .i64 3, .int .u32 5, .int .u32 0, .int .u32 0, .int .u32 1, .int .u64 0, .int .u16 0, .int .i64 0, .int .u32 7] 26)
  have HX : Hid (∀ W, Below (BW w exB).heap.size (BW w exB) W → BX w W exB) := fun W hb => (BX.first w exB).below hb
  unfold BW exB at HX
  have HT0 := Lib.hid (HKeep.out _ _ hb0 HT.out)
  clear hb0
  obtain ⟨c0, c1, c2, c3, c4, c5, c6, c7, c8, c9, c10, c11, -, -⟩ := HX.out _ (Below.refl _ _)
  go_enter Tryd.func8, Tryd.ntmps8
  go_wp2_with fail
  refine (HE.out _ HT0.out).mono ?_
  rintro e w1 ⟨u1, rfl, hb1, hr1⟩
  have HT1 := Lib.hid (HKeep.out _ _ hb1 HT0.out)
  have HR1 := Lib.hid hr1
  have HB1 := Lib.hid hb1
  obtain ⟨a1, k1, rfl, -, -, -, -⟩ := hr1
  clear c0 c1 c2 c3 c4 c5 c6 c7 c8 c9 c10 c11 hb1
  go_wp2_with fail
  refine (HDe.out _ _ HT1.out HR1.out).mono ?_
  rintro e w2 ⟨rfl, hb2⟩
  have HA2 := Lib.hid (below_made w2 (.cells #[.int .i64 2, .int .i64 1, .bool false, .int .i64 3, .int .u32 5, .int .u32 0, .int .u32 0, .int .u32 1, .int .u64 0, .int .u16 0, .int .i64 0, .int .u32 7] 26))
  have hbx := heap_alloc_new w2 (.cells #[.int .i64 2, .int .i64 1, .bool false, .int .i64 3, .int .u32 5, .int .u32 0, .int .u32 0, .int .u32 1, .int .u64 0, .int .u16 0, .int .i64 0, .int .u32 7] 26)
  obtain ⟨w3, hw3⟩ : ∃ w3, w3 = w2.alloc (.cells #[.int .i64 2, .int .i64 1, .bool false, .int .i64 3, .int .u32 5, .int .u32 0, .int .u32 0, .int .u32 1, .int .u64 0, .int .u16 0, .int .i64 0, .int .u32 7] 26) := ⟨_, rfl⟩
  have hz3 : w2.heap.size + 1 = w3.heap.size := by rw [hw3]; simp
  have HZ3 := Lib.hid hz3
  have HW3 := Lib.hid hw3
  rw [← hw3] at HA2 hbx
  have HBX : Hid (w3.heap[w2.heap.size]? = some (.cells (cellsA exB) 26 (0, 0))) := hbx
  have hr3 : Row .u8 (w3.alloc (.cells #[.int .u8 3] 5)) (.slice (some ⟨w3.heap.size, 0, none⟩) 1 1) [3] := row_of_block (l := [3]) (heap_alloc_new w3 _) (by intro i; match i with | 0 => decide | j + 1 => simp) (by decide)
  have HR3 := Lib.hid hr3
  have hb3 := below_made w3 (.cells #[.int .u8 3] 5)
  have h1 : Below w1.heap.size w1 w3 := hb2.trans (HA2.out.mono hb2.size)
  have HB13 := Lib.hid (h1.trans (hb3.mono h1.size))
  have HB33 := Lib.hid hb3
  clear hb2 hbx hw3 hz3 hr3 hb3 h1
  go_wp2_with fail
  rw [HZ3.out, ← HW3.out]
  refine (HD3.out _ _ (HKeep.out _ _ HB13.out HT1.out) HR3.out).mono ?_
  rintro e w4 ⟨rfl, hb4⟩
  have HB14 := Lib.hid (HB13.out.trans (hb4.mono HB13.out.size))
  have HB34 := Lib.hid (HB33.out.trans (hb4.mono HB33.out.size))
  clear hb4 HB13 HB33 HR3 HZ3 HW3 HA2
  have hb5 := below_made w4 (.cells #[.int .i64 0, .int .i64 0, .bool false, .int .i64 0, .int .u32 0, .int .u32 0, .int .u32 0, .int .u32 0, .int .u64 0, .int .u16 0, .int .i64 0, .int .u32 0] 26)
  have HB15 := Lib.hid (HB14.out.trans (hb5.mono HB14.out.size))
  have HB35 := Lib.hid (HB34.out.trans (hb5.mono HB34.out.size))
  clear hb5
  go_wp2_with fail
  refine (HW.out _ (HKeep.out _ _ HB15.out HT1.out)).mono ?_
  rintro e w6 ⟨rfl, hb6⟩
  have hb16 := HB15.out.trans (hb6.mono HB15.out.size)
  have HB16 := Lib.hid hb16
  have hb36 := HB35.out.trans (hb6.mono HB35.out.size)
  obtain ⟨c0, c1, c2, c3, c4, c5, c6, c7, c8, c9, c10, c11, -, hbel⟩ := HX.out w6 (HB1.out.trans (hb16.mono HB1.out.size))
  have hb7 := (hb36.block _ (lt_block HBX.out)).trans HBX.out
  obtain ⟨d0, d1, d2, d3, d4, d5, d6, d7, d8, d9, d10, d11⟩ := cells_of hb7
  simp only [exB] at d0 d1 d2 d3 d4 d5 d6 d7 d8 d9 d10 d11
  have hr6 := HR1.out.mono hb16 (Nat.le_refl _)
  have hconv : (convert 27 9 (.slice a1 exL.length k1)).run Tryd.prog w6 = .ok (.string (strOfNums exL)) w6 := Row.string (P := Tryd.prog) hr6 27 9 5 Tryd.underlying27 Tryd.underlying5 Tryd.underlying9
  have hstr := exStr
  have HBel := Lib.hid hbel
  clear hb6 hb16 hb36 hb7 hr6 hbel
  go_wp2_with fail
  refine (HS.out _ (HKeep.out _ _ HB16.out HT1.out)).mono ?_
  rintro e w7 ⟨rfl, hb7⟩
  have HE7 := Lib.hid (HBel.out.trans (hb7.mono HBel.out.size))
  clear hb7
  go_wp2
  go_ret
  exact ⟨rfl, HE7.out⟩
end Go.Proofs.YtkknegnipodcnaaDoor.Hea

namespace Go.Proofs.YtkknegnipodcnaaDoor.Hea
open Go.RowKit Num
set_option linter.unusedVariables false

theorem encF_code (b : Blk) : ((encF b).2 == 0) = rightF b := by
  unfold encF
  cases h : rightF b
  · simp
  · simp
theorem dec_enc {b : Blk} (hb : b.Ok) (hr : RightP b) : decF (encL b ++ [9, 9]) = (b, 0) ∧ ((encL b).length : Int) = szF b.tag := by
  obtain ⟨k1, k2, k3, k4, k5, k6, k7, k8, k9, k10, k11⟩ := hb
  simp only [i64, u32, u64, u16] at *
  have hrr : rightF b = true := by unfold rightF; rw [decide_eq_true_eq]; exact hr
  obtain ⟨tag, cls, used, lab, name, next, prev, refs, exp, typ, size, hash⟩ := b
  simp only [] at *
  have key : decB (encL ⟨tag, cls, used, lab, name, next, prev, refs, exp, typ, size, hash⟩ ++ [9, 9]) = ⟨tag, cls, used, lab, name, next, prev, refs, exp, typ, size, hash⟩ := by
    rcases hr with ⟨h0, h1, h2, h3, h4, h5, h6, h7, h8, h9, h10⟩ | ⟨h0, h1, h2, h3, h4, h5, h6⟩ | ⟨h0, h1, h2, h3, h4, h5, h6, h7, h8, h9, h10⟩
    · simp only [] at h0 h1 h2 h3 h4 h5 h6 h7 h8 h9 h10
      subst h0 h1 h2 h3 h4 h5 h6 h7 h8 h9 h10
      simp [encL, decB, p1, p4, rdF, le]
      omega
    · simp only [] at h0 h1 h2 h3 h4 h5 h6
      subst h0 h3 h6
      cases used <;> simp [encL, decB, p1, p4, p8, p2, rdF, le] <;> omega
    · simp only [] at h0 h1 h2 h3 h4 h5 h6 h7 h8 h9 h10
      subst h0 h3 h6 h7 h8 h9 h10
      simp [encL, decB, p1, p4, rdF, le]
      omega
  have h0 : (encL ⟨tag, cls, used, lab, name, next, prev, refs, exp, typ, size, hash⟩ ++ [9, 9]).getD 0 0 = tag := by simp [encL, p1]
  have h2 : (encL ⟨tag, cls, used, lab, name, next, prev, refs, exp, typ, size, hash⟩ ++ [9, 9]).getD 2 0 = if used then 1 else 0 := by simp [encL, p1]
  have hn : encL ⟨tag, cls, used, lab, name, next, prev, refs, exp, typ, size, hash⟩ ++ [9, 9] ≠ [] := by simp
  have hl : ((encL ⟨tag, cls, used, lab, name, next, prev, refs, exp, typ, size, hash⟩).length : Int) = szF tag := by
    rcases hr with ⟨e, -⟩ | ⟨e, -⟩ | ⟨e, -⟩
    · simp only [] at e
      subst e
      simp [encL, p1, p4, szF]
    · simp only [] at e
      subst e
      simp [encL, p1, p4, p8, p2, szF]
    · simp only [] at e
      subst e
      simp [encL, p1, p4, szF]
  have ht : tag ≤ 2 := by
    rcases hr with ⟨e, -⟩ | ⟨e, -⟩ | ⟨e, -⟩
    all_goals simp only [] at e
    all_goals omega
  refine ⟨?_, hl⟩
  rw [decF_rest hn (by rw [h0]; omega) (by rw [h0, List.length_append]; simp only [List.length_cons, List.length_nil]; omega), key, h2, hrr]
  rw [if_neg]
  rintro (h | h)
  · split at h <;> omega
  · cases h
theorem rdF_succ (l : List Int) (a n : Nat) (h : a < l.length) : rdF l a (n + 1) = l.getD a 0 + 256 * rdF l (a + 1) n := by
  unfold rdF
  rw [List.drop_eq_getElem_cons h, List.take_succ_cons, le_cons]
  simp [List.getD, h]
theorem rdF_zero (l : List Int) (a : Nat) : rdF l a 0 = 0 := by simp [rdF, le]
theorem p2_rd {l : List Int} (hl : ∀ i, 0 ≤ l.getD i 0 ∧ l.getD i 0 < 256) (a : Nat) (h : a + 2 ≤ l.length) : p2 (rdF l a 2) = [l.getD a 0, l.getD (a + 1) 0] := by
  rw [rdF_succ _ _ _ (by omega), rdF_succ _ _ _ (by omega), rdF_zero]
  have h0 := hl a
  have h1 := hl (a + 1)
  simp only [p2, List.cons.injEq, and_true]
  omega
theorem p4_rd {l : List Int} (hl : ∀ i, 0 ≤ l.getD i 0 ∧ l.getD i 0 < 256) (a : Nat) (h : a + 4 ≤ l.length) : p4 (rdF l a 4) = [l.getD a 0, l.getD (a + 1) 0, l.getD (a + 1 + 1) 0, l.getD (a + 1 + 1 + 1) 0] := by
  rw [rdF_succ _ _ _ (by omega), rdF_succ _ _ _ (by omega), rdF_succ _ _ _ (by omega), rdF_succ _ _ _ (by omega), rdF_zero]
  have h0 := hl a
  have h1 := hl (a + 1)
  have h2 := hl (a + 1 + 1)
  have h3 := hl (a + 1 + 1 + 1)
  simp only [p4, List.cons.injEq, and_true]
  omega
theorem p8_rd {l : List Int} (hl : ∀ i, 0 ≤ l.getD i 0 ∧ l.getD i 0 < 256) (a : Nat) (h : a + 8 ≤ l.length) : p8 (rdF l a 8) = [l.getD a 0, l.getD (a + 1) 0, l.getD (a + 1 + 1) 0, l.getD (a + 1 + 1 + 1) 0, l.getD (a + 1 + 1 + 1 + 1) 0, l.getD (a + 1 + 1 + 1 + 1 + 1) 0, l.getD (a + 1 + 1 + 1 + 1 + 1 + 1) 0, l.getD (a + 1 + 1 + 1 + 1 + 1 + 1 + 1) 0] := by
  rw [rdF_succ _ _ _ (by omega), rdF_succ _ _ _ (by omega), rdF_succ _ _ _ (by omega), rdF_succ _ _ _ (by omega), rdF_succ _ _ _ (by omega), rdF_succ _ _ _ (by omega), rdF_succ _ _ _ (by omega), rdF_succ _ _ _ (by omega), rdF_zero]
  have h0 := hl a
  have h1 := hl (a + 1)
  have h2 := hl (a + 1 + 1)
  have h3 := hl (a + 1 + 1 + 1)
  have h4 := hl (a + 1 + 1 + 1 + 1)
  have h5 := hl (a + 1 + 1 + 1 + 1 + 1)
  have h6 := hl (a + 1 + 1 + 1 + 1 + 1 + 1)
  have h7 := hl (a + 1 + 1 + 1 + 1 + 1 + 1 + 1)
  simp only [p8, List.cons.injEq, and_true]
  omega
theorem take_range (l : List Int) (n : Nat) (h : n ≤ l.length) : l.take n = (List.range n).map fun i => l.getD i 0 := by
  refine list_of_getD (by simp; omega) fun i hi => ?_
  rw [List.length_take] at hi
  rw [take_getD _ _ _ (by omega)]
  have h2 : i < n := by omega
  simp [List.getD, h2]
theorem dec_bad {l : List Int} (h : (decF l).2 ≠ 0) : (decF l).1 = Blk.zero := by
  unfold decF at h ⊢
  split
  · rfl
  · split
    · rfl
    · split
      · rfl
      · split
        · rfl
        · rename_i h1 h2 h3 h4
          rw [if_neg h1, if_neg h2, if_neg h3, if_neg h4] at h
          exact absurd rfl h
theorem dec_good {l : List Int} (hl : ∀ i, 0 ≤ l.getD i 0 ∧ l.getD i 0 < 256) (h : (decF l).2 = 0) : decF l = (decB l, 0) ∧ rightF (decB l) = true ∧ (encL (decB l)).length ≤ l.length ∧ encL (decB l) = l.take (encL (decB l)).length := by
  unfold decF at h
  split at h
  · simp at h
  · split at h
    · simp at h
    · split at h
      · simp at h
      · split at h
        · simp at h
        · rename_i h1 h2 h3 h4
          have h5 : ¬ 1 < l.getD 2 0 := fun e => h4 (.inl e)
          have h6 : rightF (decB l) = true := by
            cases e : rightF (decB l)
            · exact absurd (.inr e) h4
            · rfl
          refine ⟨by rw [decF_rest h1 h2 h3, if_neg h4], h6, ?_⟩
          have b0 := hl 0
          have b2 := hl 2
          obtain ⟨t, ht⟩ : ∃ t, t = l.getD 0 0 := ⟨_, rfl⟩
          rw [← ht] at h2 h3 b0
          have e2 : (if (l.getD 2 0 == 1) = true then (1 : Int) else 0) = l.getD 2 0 := by
            rcases (show l.getD 2 0 = 0 ∨ l.getD 2 0 = 1 by omega) with e | e <;> rw [e] <;> rfl
          have hsz := sz_bd (t := t) ⟨b0.1, by omega⟩
          have hb := fun i => hl i
          have hlen : (encL (decB l)).length = (szF t).toNat := by
            unfold encL decB
            simp only [← ht]
            rcases (show t = 0 ∨ t = 1 ∨ t = 2 by omega) with e | e | e
            all_goals
              rw [e]
              simp [p1, p4, p8, p2, szF]
          have hll : szF t ≤ (l.length : Int) := by omega
          refine ⟨by rw [hlen]; omega, ?_⟩
          rw [hlen, take_range _ _ (by omega)]
          have htt : t = 0 ∨ t = 1 ∨ t = 2 := by omega
          clear h1 h2 h3 h4 h5 h6 h
          have hs : szF t ≤ (l.length : Int) := by omega
          unfold encL decB p1
          simp only [← ht, e2]
          rcases htt with e | e | e
          · have hs2 : 8 ≤ l.length := by have h9 : szF t = 8 := by rw [e]; rfl
                                          omega
            have hr : ∀ m, m = 8 → (List.range m).map (fun i => l.getD i 0) = [l.getD 0 0, l.getD 1 0, l.getD 2 0, l.getD 3 0, l.getD 4 0, l.getD 5 0, l.getD 6 0, l.getD 7 0] := by
              rintro _ rfl
              rfl
            rw [hr _ (by rw [e]; rfl), ← ht]
            simp only [if_neg (show ¬ t = 1 by omega), if_neg (show ¬ t = 2 by omega), p4_rd hl 4 (by omega)]
            rfl
          · have hs2 : 32 ≤ l.length := by have h9 : szF t = 32 := by rw [e]; rfl
                                           omega
            have hr : ∀ m, m = 32 → (List.range m).map (fun i => l.getD i 0) = [l.getD 0 0, l.getD 1 0, l.getD 2 0, l.getD 3 0, l.getD 4 0, l.getD 5 0, l.getD 6 0, l.getD 7 0, l.getD 8 0, l.getD 9 0, l.getD 10 0, l.getD 11 0, l.getD 12 0, l.getD 13 0, l.getD 14 0, l.getD 15 0, l.getD 16 0, l.getD 17 0, l.getD 18 0, l.getD 19 0, l.getD 20 0, l.getD 21 0, l.getD 22 0, l.getD 23 0, l.getD 24 0, l.getD 25 0, l.getD 26 0, l.getD 27 0, l.getD 28 0, l.getD 29 0, l.getD 30 0, l.getD 31 0] := by
              rintro _ rfl
              rfl
            rw [hr _ (by rw [e]; rfl), ← ht]
            simp only [if_pos e, p4_rd hl 4 (by omega), p4_rd hl 8 (by omega), p4_rd hl 12 (by omega), p8_rd hl 16 (by omega), p2_rd hl 24 (by omega), p2_rd hl 26 (by omega), p4_rd hl 28 (by omega)]
            rfl
          · have hs2 : 16 ≤ l.length := by have h9 : szF t = 16 := by rw [e]; rfl
                                           omega
            have hr : ∀ m, m = 16 → (List.range m).map (fun i => l.getD i 0) = [l.getD 0 0, l.getD 1 0, l.getD 2 0, l.getD 3 0, l.getD 4 0, l.getD 5 0, l.getD 6 0, l.getD 7 0, l.getD 8 0, l.getD 9 0, l.getD 10 0, l.getD 11 0, l.getD 12 0, l.getD 13 0, l.getD 14 0, l.getD 15 0] := by
              rintro _ rfl
              rfl
            rw [hr _ (by rw [e]; rfl), ← ht]
            simp only [if_neg (show ¬ t = 1 by omega), if_pos e, p4_rd hl 4 (by omega), p4_rd hl 8 (by omega), p4_rd hl 12 (by omega)]
            rfl
end Go.Proofs.YtkknegnipodcnaaDoor.Hea

namespace Go.Proofs.YtkknegnipodcnaaDoor.Hea
open Go.RowKit Num
set_option linter.unusedVariables false

/-- The order of the fields. -/
def ordI : List Int := [0, 1, 2, 3, 4, 5, 6, 7, 8, 9, 11, 10]
structure Tab (w : World) : Prop where
  ord : Lib.TabIs Tryd.prog w "columbarium/head.order" .i64 ordI
  pl : ∀ p q, p < 3 → q < 12 → w.cell? ⟨1, p * 24 + q * 2, none⟩ = some (.int .i64 (whF (p : Int) (q : Int)).1) ∧ w.cell? ⟨1, p * 24 + q * 2 + 1, none⟩ = some (.int .i64 (whF (p : Int) (q : Int)).2)
theorem cell_keep {w w' : World} {b o : Nat} {v : Value} (hb : Below w.heap.size w w') (h : w.cell? ⟨b, o, none⟩ = some v) : w'.cell? ⟨b, o, none⟩ = some v := by
  have hlt : b < w.heap.size := by
    rcases Nat.lt_or_ge b w.heap.size with h1 | h1
    · exact h1
    · rw [World.cell?, Array.getElem?_eq_none h1] at h
      simp at h
  exact (hb.cell (p := ⟨b, o, none⟩) hlt).trans h
theorem Tab.keep {w w' : World} (hb : Below w.heap.size w w') (h : Tab w) : Tab w' :=
  ⟨tab_keep hb h.ord, fun p q hp hq => ⟨cell_keep hb (h.pl p q hp hq).1, cell_keep hb (h.pl p q hp hq).2⟩⟩
theorem Tab.at {w : World} (h : Tab w) (i : Nat) (hi : i < 12) : w.cell? ⟨0, i, none⟩ = some (.int .i64 (ordI.getD i 0)) :=
  Lib.TabIs.cell h.ord (show Tryd.prog.globalNamed "columbarium/head.order" = some 0 by kernel_rfl) i hi
def plG (p q : Nat) : List Int := [(whF (p : Int) (q : Int)).1, (whF (p : Int) (q : Int)).2]
theorem tab_of {l : List (String × DataW Unit)} {w : World} (hp : (l.all fun x => x.2.handleName?.isNone) = true) (h1 : ("columbarium/head.places", Rows.laid_columbarium_head_places) ∈ l) (h2 : ("columbarium/head.order", Rows.laid_columbarium_head_order) ∈ l) (h : laidMetH Tryd.prog l w) : Tab w := by
  refine ⟨tab_of_laid (g := 0) (n := 12) (t := 94) (e := 3) hp h2 (by kernel_rfl) (by kernel_rfl) (by kernel_rfl) (by kernel_rfl) (by kernel_rfl) (by kernel_rfl) h, fun p q h3 h4 => ?_⟩
  have k := fun a (ha : a < 2) => grid_of_laid (n := 3) (m := 12) (s := 2) (G := plG) (k := .i64) (g := 1) (t := 103) (t1 := 102) (t2 := 72) (e := 3) hp h1 (by kernel_rfl) (by kernel_rfl) (by kernel_rfl) (by kernel_rfl) (by kernel_rfl) (by kernel_rfl) (by kernel_rfl) (by kernel_rfl) (by kernel_rfl) (by kernel_rfl) h p q a h3 h4 ha rfl
  exact ⟨k 0 (by omega), k 1 (by omega)⟩

theorem isTag_any (t : Int) (w : World) : Calls Tryd.prog 30 #[.int .i64 t] w fun e w' => e = .returned (.bool (decide (0 ≤ t ∧ t ≤ 2))) ∧ w = w' := by
  by_cases h0 : 0 ≤ t
  · by_cases h2 : t < 3
    · go_enter Tryd.func30, Tryd.ntmps30
      go_wp2
      go_ret
      exact ⟨ret_bool (by simp <;> omega), rfl⟩
    · have h2' : decide (t < 3) = false := decide_eq_false h2
      go_enter Tryd.func30, Tryd.ntmps30
      go_wp2
      go_ret
      exact ⟨ret_bool (by simp <;> omega), rfl⟩
  · have h0' : decide (0 ≤ t) = false := decide_eq_false h0
    go_enter Tryd.func30, Tryd.ntmps30
    go_wp2
    go_ret
    exact ⟨ret_bool (by simp <;> omega), rfl⟩
theorem between_any (a n b : Int) (w : World) : Calls Tryd.prog 35 #[.int .i64 a, .int .i64 n, .int .i64 b] w fun e w' => e = .returned (.bool (decide (a ≤ n ∧ n ≤ b))) ∧ w = w' := by
  by_cases h0 : a ≤ n
  · by_cases h2 : n ≤ b
    · go_enter Tryd.func35, Tryd.ntmps35
      go_wp2
      go_ret
      exact ⟨ret_bool (by simp <;> omega), rfl⟩
    · have h2' : decide (n ≤ b) = false := decide_eq_false h2
      go_enter Tryd.func35, Tryd.ntmps35
      go_wp2
      go_ret
      exact ⟨ret_bool (by simp <;> omega), rfl⟩
  · have h0' : decide (a ≤ n) = false := decide_eq_false h0
    go_enter Tryd.func35, Tryd.ntmps35
    go_wp2
    go_ret
    exact ⟨ret_bool (by simp <;> omega), rfl⟩
theorem size_any (t : Int) (w : World) : Calls Tryd.prog 17 #[.int .i64 t] w fun e w' => e = .returned (.int .i64 (szF t)) ∧ w = w' := by
  by_cases h0 : t = 0
  · subst h0
    go_enter Tryd.func17, Tryd.ntmps17
    go_wp2
    go_ret
    exact ⟨rfl, rfl⟩
  by_cases h1 : t = 1
  · subst h1
    go_enter Tryd.func17, Tryd.ntmps17
    go_wp2
    go_ret
    exact ⟨rfl, rfl⟩
  by_cases h2 : t = 2
  · subst h2
    go_enter Tryd.func17, Tryd.ntmps17
    go_wp2
    go_ret
    exact ⟨rfl, rfl⟩
  have e0 : (t == 0) = false := by simpa using h0
  have e1 : (t == 1) = false := by simpa using h1
  have e2 : (t == 2) = false := by simpa using h2
  have H := Lib.hid (show szF t = 0 by rw [szF, if_neg h0, if_neg h1, if_neg h2])
  clear h0 h1 h2
  go_enter Tryd.func17, Tryd.ntmps17
  go_wp2
  go_ret
  exact ⟨ret_int H.out.symm, rfl⟩

theorem placeOf_any (t f : Int) (w : World) (ht : Tab w) : Calls Tryd.prog 36 #[.int .i64 t, .int .i64 f] w fun e w' => e = .returned (.agg #[.int .i64 (whF t f).1, .int .i64 (whF t f).2]) ∧ Below w.heap.size w w' := by
  have HT := Lib.hid (fun W => isTag_any t W)
  have hb := below_made w (.cells #[.int .i64 0, .int .i64 0] 72)
  have HB := Lib.hid hb
  by_cases h : (0 ≤ t ∧ t ≤ 2) ∧ 0 ≤ f ∧ f < 12
  · obtain ⟨⟨h1, h2⟩, h3, h4⟩ := h
    obtain ⟨p, rfl⟩ : ∃ p : Nat, t = p := ⟨t.toNat, by omega⟩
    obtain ⟨q, rfl⟩ : ∃ q : Nat, f = q := ⟨f.toNat, by omega⟩
    obtain ⟨c0, c1⟩ := (ht.keep hb).pl p q (by omega) (by omega)
    rw [show decide (0 ≤ (p : Int) ∧ (p : Int) ≤ 2) = true by simp; omega] at HT
    have hp3 : (p : Int) < 3 := by omega
    have hq0 : decide ((q : Int) < 0) = false := by simp
    have hq1 : decide ((12 : Int) ≤ (q : Int)) = false := by simp; omega
    have hblk := heap_alloc_new w (.cells #[.int .i64 (whF (p : Int) (q : Int)).1, .int .i64 (whF (p : Int) (q : Int)).2] 72)
    have q0 : (w.alloc (.cells #[.int .i64 (whF (p : Int) (q : Int)).1, .int .i64 (whF (p : Int) (q : Int)).2] 72)).cell? ⟨w.heap.size, 0, none⟩ = some (.int .i64 (whF (p : Int) (q : Int)).1) := (cell_block hblk 0).trans rfl
    have q1 : (w.alloc (.cells #[.int .i64 (whF (p : Int) (q : Int)).1, .int .i64 (whF (p : Int) (q : Int)).2] 72)).cell? ⟨w.heap.size, 1, none⟩ = some (.int .i64 (whF (p : Int) (q : Int)).2) := (cell_block hblk 1).trans rfl
    obtain ⟨x, y, hxy⟩ : ∃ x y, whF (p : Int) (q : Int) = (x, y) := ⟨_, _, rfl⟩
    rw [hxy] at c0 c1 q0 q1 ⊢
    clear hxy ht hb hblk
    go_enter Tryd.func36, Tryd.ntmps36
    go_wp2_with fail
    refine (HT.out _).mono ?_
    rintro e w' ⟨rfl, rfl⟩
    go_wp2
    refine bodyPost_ret (v := .agg #[.int .i64 x, .int .i64 y]) (by simp [results, Tryd.results36, go_sem, q0, q1]) rfl ⟨rfl, below_made _ _⟩
  · have hz : whF t f = (0, 0) := by rw [whF, if_pos (by omega)]
    have hblk := heap_alloc_new w (.cells #[.int .i64 0, .int .i64 0] 72)
    have q0 : (w.alloc (.cells #[.int .i64 0, .int .i64 0] 72)).cell? ⟨w.heap.size, 0, none⟩ = some (.int .i64 0) := (cell_block hblk 0).trans rfl
    have q1 : (w.alloc (.cells #[.int .i64 0, .int .i64 0] 72)).cell? ⟨w.heap.size, 1, none⟩ = some (.int .i64 0) := (cell_block hblk 1).trans rfl
    rw [hz]
    clear hz ht hb hblk
    by_cases h1 : 0 ≤ t ∧ t ≤ 2
    · rw [show decide (0 ≤ t ∧ t ≤ 2) = true by simpa using h1] at HT
      by_cases h2 : f < 0
      · clear h h1
        go_enter Tryd.func36, Tryd.ntmps36
        go_wp2_with fail
        refine (HT.out _).mono ?_
        rintro e w' ⟨rfl, rfl⟩
        go_wp2
        refine bodyPost_ret (v := .agg #[.int .i64 0, .int .i64 0]) (by simp [results, Tryd.results36, go_sem, q0, q1]) rfl ⟨rfl, HB.out⟩
      · have h2' : decide (f < 0) = false := decide_eq_false h2
        have h3 : (12 : Int) ≤ f := by omega
        clear h h1
        go_enter Tryd.func36, Tryd.ntmps36
        go_wp2_with fail
        refine (HT.out _).mono ?_
        rintro e w' ⟨rfl, rfl⟩
        go_wp2
        refine bodyPost_ret (v := .agg #[.int .i64 0, .int .i64 0]) (by simp [results, Tryd.results36, go_sem, q0, q1]) rfl ⟨rfl, HB.out⟩
    · rw [show decide (0 ≤ t ∧ t ≤ 2) = false by simpa using h1] at HT
      clear h h1
      go_enter Tryd.func36, Tryd.ntmps36
      go_wp2_with fail
      refine (HT.out _).mono ?_
      rintro e w' ⟨rfl, rfl⟩
      go_wp2
      refine bodyPost_ret (v := .agg #[.int .i64 0, .int .i64 0]) (by simp [results, Tryd.results36, go_sem, q0, q1]) rfl ⟨rfl, HB.out⟩

theorem where_any (t f : Int) (w : World) (ht : Tab w) : Calls Tryd.prog 15 #[.int .i64 t, .int .i64 f] w fun e w' => e = .returned (.tuple #[.int .i64 (whF t f).1, .int .i64 (whF t f).2]) ∧ Below w.heap.size w w' := by
  have HP := Lib.hid (placeOf_any t f w ht)
  obtain ⟨x, y, hxy⟩ : ∃ x y, whF t f = (x, y) := ⟨_, _, rfl⟩
  rw [hxy] at HP ⊢
  clear hxy ht
  go_enter Tryd.func15, Tryd.ntmps15
  go_wp2_with fail
  refine HP.out.mono ?_
  rintro e w1 ⟨rfl, hb1⟩
  have hblk := heap_alloc_new w1 (.cells #[.int .i64 x, .int .i64 y] 72)
  have q0 : (w1.alloc (.cells #[.int .i64 x, .int .i64 y] 72)).cell? ⟨w1.heap.size, 0, none⟩ = some (.int .i64 x) := (cell_block hblk 0).trans rfl
  have q1 : (w1.alloc (.cells #[.int .i64 x, .int .i64 y] 72)).cell? ⟨w1.heap.size, 1, none⟩ = some (.int .i64 y) := (cell_block hblk 1).trans rfl
  have HB := Lib.hid (hb1.trans ((below_made w1 (.cells #[.int .i64 x, .int .i64 y] 72)).mono hb1.size))
  clear hblk hb1
  go_wp2_with fail
  generalize w1.alloc (.cells #[.int .i64 x, .int .i64 y] 72) = W at q0 q1 HB ⊢
  go_quiet (fail)
  go_wp2
  go_ret2
  exact ⟨rfl, below_drewN HB.out _⟩
end Go.Proofs.YtkknegnipodcnaaDoor.Hea

namespace Go.Proofs.YtkknegnipodcnaaDoor.Hea
open Go.RowKit Num
set_option linter.unusedVariables false

def eqB (a b : Blk) : Bool := a.tag == b.tag && (a.cls == b.cls && (a.used == b.used && (a.lab == b.lab && (a.name == b.name && (a.next == b.next && (a.prev == b.prev && (a.refs == b.refs && (a.exp == b.exp && (a.typ == b.typ && (a.size == b.size && a.hash == b.hash))))))))))
/-- Two heads compared. -/
theorem eq_blk (a b : Blk) (w : World) : (Op.equalIn 10000 26 a.agg b.agg).run Tryd.prog w = .ok (eqB a b) w := by
  obtain ⟨a0, a1, a2, a3, a4, a5, a6, a7, a8, a9, a10, a11⟩ := a
  obtain ⟨b0, b1, b2, b3, b4, b5, b6, b7, b8, b9, b10, b11⟩ := b
  unfold Blk.agg eqB
  simp only []
  rw [show (10000 : Nat) = 9999 + 1 from rfl, run_equalIn_struct w 9999 26 _ _ (by kernel_rfl) (by kernel_rfl)]
  go_simp
  by_cases h0 : a0 = b0
  case neg => simp [h0]
  subst h0
  by_cases h1 : a1 = b1
  case neg => simp [h1]
  subst h1
  by_cases h2 : a2 = b2
  case neg => simp [h2]
  subst h2
  by_cases h3 : a3 = b3
  case neg => simp [h3]
  subst h3
  by_cases h4 : a4 = b4
  case neg => simp [h4]
  subst h4
  by_cases h5 : a5 = b5
  case neg => simp [h5]
  subst h5
  by_cases h6 : a6 = b6
  case neg => simp [h6]
  subst h6
  by_cases h7 : a7 = b7
  case neg => simp [h7]
  subst h7
  by_cases h8 : a8 = b8
  case neg => simp [h8]
  subst h8
  by_cases h9 : a9 = b9
  case neg => simp [h9]
  subst h9
  by_cases h10 : a10 = b10
  case neg => simp [h10]
  subst h10
  by_cases h11 : a11 = b11
  case neg => simp [h11]
  subst h11
  simp
theorem right_f0 {b : Blk} (h : b.tag = 0) : rightF b = eqB b ⟨0, 0, false, 0, b.name, 0, 0, 0, 0, 0, 0, 0⟩ := by
  unfold rightF eqB
  rw [Bool.eq_iff_iff, decide_eq_true_iff]
  unfold RightP
  cases b.used <;> simp [h] <;> omega
theorem right_f1 {b : Blk} (h : b.tag = 1) : rightF b = (decide (1 ≤ b.cls ∧ b.cls ≤ 9) && (decide (0 ≤ b.size ∧ b.size ≤ 480) && (b.lab == 0 && b.refs == 0))) := by
  unfold rightF
  rw [Bool.eq_iff_iff, decide_eq_true_iff]
  unfold RightP
  simp [h]
  omega
theorem right_f2 {b : Blk} (h : b.tag = 2) : rightF b = (decide (1 ≤ b.cls ∧ b.cls ≤ 9) && (decide (1 ≤ b.lab ∧ b.lab ≤ 63) && eqB b ⟨2, b.cls, false, b.lab, b.name, 0, 0, b.refs, 0, 0, 0, b.hash⟩)) := by
  unfold rightF eqB
  rw [Bool.eq_iff_iff, decide_eq_true_iff]
  unfold RightP
  cases b.used <;> simp [h] <;> omega
theorem right_f3 {b : Blk} (h0 : b.tag ≠ 0) (h1 : b.tag ≠ 1) (h2 : b.tag ≠ 2) : rightF b = false := by
  unfold rightF
  rw [decide_eq_false_iff_not]
  unfold RightP
  omega

set_option maxRecDepth 100000 in
set_option maxHeartbeats 4000000 in
theorem right_any (b : Blk) (w : World) : Calls Tryd.prog 13 #[b.agg] w fun e w' => e = .returned (.bool (rightF b)) ∧ Below w.heap.size w w' := by
  obtain ⟨c0, c1, c2, c3, c4, c5, c6, c7, c8, c9, c10, c11, -, hbel⟩ := BX.first w b
  unfold BW at c0 c1 c2 c3 c4 c5 c6 c7 c8 c9 c10 c11 hbel
  have HB := Lib.hid hbel
  have HC1 := Lib.hid (fun W => between_any 1 b.cls 9 W)
  have HC2 := Lib.hid (fun W => between_any 0 b.size 480 W)
  have HC3 := Lib.hid (fun W => between_any 1 b.lab 63 W)
  have hq0 := fun W => eq_blk b ⟨0, 0, false, 0, b.name, 0, 0, 0, 0, 0, 0, 0⟩ W
  have hq2 := fun W => eq_blk b ⟨2, b.cls, false, b.lab, b.name, 0, 0, b.refs, 0, 0, 0, b.hash⟩ W
  have hr0 := @right_f0 b
  have hr1 := @right_f1 b
  have hr2 := @right_f2 b
  have hr3 := @right_f3 b
  obtain ⟨R, hR⟩ : ∃ R, R = rightF b := ⟨_, rfl⟩
  rw [← hR] at hr0 hr1 hr2 hr3 ⊢
  generalize eqB b ⟨0, 0, false, 0, b.name, 0, 0, 0, 0, 0, 0, 0⟩ = Q0 at hq0 hr0
  generalize eqB b ⟨2, b.cls, false, b.lab, b.name, 0, 0, b.refs, 0, 0, 0, b.hash⟩ = Q2 at hq2 hr2
  generalize decide (1 ≤ b.cls ∧ b.cls ≤ 9) = d1 at HC1 hr1 hr2
  generalize decide (0 ≤ b.size ∧ b.size ≤ 480) = d2 at HC2 hr1
  generalize decide (1 ≤ b.lab ∧ b.lab ≤ 63) = d3 at HC3 hr2
  have HR0 := Lib.hid hr0
  have HR1 := Lib.hid hr1
  have HR2 := Lib.hid hr2
  have HR3 := Lib.hid hr3
  clear hbel hR hr0 hr1 hr2 hr3
  unfold Blk.agg at hq0 hq2 ⊢
  obtain ⟨tag, cls, used, lab, name, next, prev, refs, exp, typ, size, hash⟩ := b
  simp only [] at c0 c1 c2 c3 c4 c5 c6 c7 c8 c9 c10 c11 hq0 hq2 HC1 HC2 HC3 HR0 HR1 HR2 HR3 HB ⊢
  by_cases t0 : tag = 0
  · subst t0
    have HR := Lib.hid (HR0.out rfl)
    clear HR0 HR1 HR2 HR3 HC1 HC2 HC3 hq2
    go_enter Tryd.func13, Tryd.ntmps13
    go_wp2
    go_ret
    exact ⟨ret_bool HR.out.symm, HB.out⟩
  by_cases t1 : tag = 1
  · subst t1
    have HR := Lib.hid (HR1.out rfl)
    clear HR0 HR1 HR2 HR3 HC3 hq0 hq2 t0
    cases d1
    · go_enter Tryd.func13, Tryd.ntmps13
      go_wp2_with fail
      refine (HC1.out _).mono ?_
      rintro e w1 ⟨rfl, rfl⟩
      go_wp2
      go_ret
      exact ⟨ret_bool HR.out.symm, HB.out⟩
    cases d2
    · go_enter Tryd.func13, Tryd.ntmps13
      go_wp2_with fail
      refine (HC1.out _).mono ?_
      rintro e w1 ⟨rfl, rfl⟩
      go_wp2_with fail
      refine (HC2.out _).mono ?_
      rintro e w1 ⟨rfl, rfl⟩
      go_wp2
      go_ret
      exact ⟨ret_bool HR.out.symm, HB.out⟩
    obtain ⟨l0, hl0⟩ : ∃ l0, (lab == 0) = l0 := ⟨_, rfl⟩
    rw [hl0] at HR
    cases l0
    · go_enter Tryd.func13, Tryd.ntmps13
      go_wp2_with fail
      refine (HC1.out _).mono ?_
      rintro e w1 ⟨rfl, rfl⟩
      go_wp2_with fail
      refine (HC2.out _).mono ?_
      rintro e w1 ⟨rfl, rfl⟩
      go_wp2
      go_ret
      exact ⟨ret_bool HR.out.symm, HB.out⟩
    · go_enter Tryd.func13, Tryd.ntmps13
      go_wp2_with fail
      refine (HC1.out _).mono ?_
      rintro e w1 ⟨rfl, rfl⟩
      go_wp2_with fail
      refine (HC2.out _).mono ?_
      rintro e w1 ⟨rfl, rfl⟩
      go_wp2
      go_ret
      exact ⟨ret_bool (by rw [HR.out]; simp), HB.out⟩
  by_cases t2 : tag = 2
  · subst t2
    have HR := Lib.hid (HR2.out rfl)
    clear HR0 HR1 HR2 HR3 HC2 hq0 t0 t1
    cases d1
    · go_enter Tryd.func13, Tryd.ntmps13
      go_wp2_with fail
      refine (HC1.out _).mono ?_
      rintro e w1 ⟨rfl, rfl⟩
      go_wp2
      go_ret
      exact ⟨ret_bool HR.out.symm, HB.out⟩
    cases d3
    · go_enter Tryd.func13, Tryd.ntmps13
      go_wp2_with fail
      refine (HC1.out _).mono ?_
      rintro e w1 ⟨rfl, rfl⟩
      go_wp2_with fail
      refine (HC3.out _).mono ?_
      rintro e w1 ⟨rfl, rfl⟩
      go_wp2
      go_ret
      exact ⟨ret_bool HR.out.symm, HB.out⟩
    · go_enter Tryd.func13, Tryd.ntmps13
      go_wp2_with fail
      refine (HC1.out _).mono ?_
      rintro e w1 ⟨rfl, rfl⟩
      go_wp2_with fail
      refine (HC3.out _).mono ?_
      rintro e w1 ⟨rfl, rfl⟩
      go_wp2
      go_ret
      exact ⟨ret_bool (by rw [HR.out]; simp), HB.out⟩
  · have HR := Lib.hid (HR3.out t0 t1 t2)
    have e0 : (tag == 0) = false := by simpa using t0
    have e1 : (tag == 1) = false := by simpa using t1
    have e2 : (tag == 2) = false := by simpa using t2
    clear HR0 HR1 HR2 HR3 HC1 HC2 HC3 hq0 hq2 t0 t1 t2
    go_enter Tryd.func13, Tryd.ntmps13
    go_wp2
    go_ret
    exact ⟨ret_bool HR.out.symm, HB.out⟩
end Go.Proofs.YtkknegnipodcnaaDoor.Hea

namespace Go.Proofs.YtkknegnipodcnaaDoor.Hea
open Go.RowKit Num
set_option linter.unusedVariables false

/-- The number in a field of bytes. -/
def rdv (l : List Int) (t f : Int) : Int := (ldv l (whF t f).1 (whF t f).2).1
theorem wh_all {t : Int} (ht : 0 ≤ t ∧ t ≤ 2) (f : Nat) (hf : f < 12) (h1 : (whF t f).2 ≠ 0) : isW (whF t f).2 = true ∧ (whF t f).1 % (whF t f).2 = 0 := by
  have k1 : t = 0 ∨ t = 1 ∨ t = 2 := by omega
  have all : ∀ t : Fin 3, ∀ f : Fin 12, (whF (t.val : Int) (f.val : Int)).2 ≠ 0 → isW (whF (t.val : Int) (f.val : Int)).2 = true ∧ (whF (t.val : Int) (f.val : Int)).1 % (whF (t.val : Int) (f.val : Int)).2 = 0 := by
    decide +kernel
  rcases k1 with rfl | rfl | rfl
  · exact all 0 ⟨f, hf⟩ h1
  · exact all 1 ⟨f, hf⟩ h1
  · exact all 2 ⟨f, hf⟩ h1
theorem rdv_is {l : List Int} {t : Int} (ht : 0 ≤ t ∧ t ≤ 2) (hs : szF t ≤ (l.length : Int)) (f : Nat) (hf : f < 12) : rdv l t f = if (whF t f).2 = 0 then 0 else rdF l (whF t f).1.toNat (whF t f).2.toNat := by
  unfold rdv
  by_cases hz : (whF t f).2 = 0
  · rw [if_pos hz, hz]
    rfl
  · rw [if_neg hz]
    obtain ⟨h1, h2⟩ := wh_all ht f hf hz
    have h3 := wh_fit ht f hf
    have hsz := sz_bd ht
    have hp : plc l.length (whF t f).1 (whF t f).2 = 0 := by
      unfold plc
      rw [if_neg (by omega), if_pos h2]
    unfold ldv
    rw [if_pos h1, if_pos hp]
    rfl
def parB (l : List Int) (t : Int) : Blk := ⟨t, rdv l t 1, rdv l t 2 != 0, rdv l t 3, rdv l t 4, rdv l t 5, rdv l t 6, rdv l t 11, rdv l t 7, rdv l t 8, rdv l t 9, rdv l t 10⟩
structure ParOk (l : List Int) (t : Int) : Prop where
  b1 : 0 ≤ rdv l t 1 ∧ rdv l t 1 < 65536
  b2 : 0 ≤ rdv l t 2 ∧ rdv l t 2 < 65536
  b3 : 0 ≤ rdv l t 3 ∧ rdv l t 3 < 65536
  b4 : 0 ≤ rdv l t 4 ∧ rdv l t 4 < 4294967296
  b5 : 0 ≤ rdv l t 5 ∧ rdv l t 5 < 4294967296
  b6 : 0 ≤ rdv l t 6 ∧ rdv l t 6 < 4294967296
  b7 : 0 ≤ rdv l t 7 ∧ rdv l t 7 < 18446744073709551616
  b8 : 0 ≤ rdv l t 8 ∧ rdv l t 8 < 65536
  b9 : 0 ≤ rdv l t 9 ∧ rdv l t 9 < 65536
  b10 : 0 ≤ rdv l t 10 ∧ rdv l t 10 < 4294967296
  b11 : 0 ≤ rdv l t 11 ∧ rdv l t 11 < 4294967296
theorem par_is {l : List Int} (hl : ∀ i, 0 ≤ l.getD i 0 ∧ l.getD i 0 < 256) {t : Int} (he : t = l.getD 0 0) (ht : 0 ≤ t ∧ t ≤ 2) (hs : szF t ≤ (l.length : Int)) :
    parB l t = { decB l with used := l.getD 2 0 != 0 } ∧ ParOk l t ∧ rdv l t 2 = l.getD 2 0 := by
  have h8 := (sz_bd ht).1
  have e1 : rdF l 1 1 = l.getD 1 0 := rdF_one _ (by omega)
  have e2 : rdF l 2 1 = l.getD 2 0 := rdF_one _ (by omega)
  have e3 : rdF l 3 1 = l.getD 3 0 := rdF_one _ (by omega)
  have b1 := hl 1
  have b2 := hl 2
  have b3 := hl 3
  have c4 := rdF_4 hl 4
  have c8 := rdF_4 hl 8
  have c12 := rdF_4 hl 12
  have c16 := rdF_8 hl 16
  have c24 := rdF_2 hl 24
  have c26 := rdF_2 hl 26
  have c28 := rdF_4 hl 28
  have hv := fun f hf => rdv_is ht hs f hf
  have v1 := hv 1 (by omega)
  have v2 := hv 2 (by omega)
  have v3 := hv 3 (by omega)
  have v4 := hv 4 (by omega)
  have v5 := hv 5 (by omega)
  have v6 := hv 6 (by omega)
  have v7 := hv 7 (by omega)
  have v8 := hv 8 (by omega)
  have v9 := hv 9 (by omega)
  have v10 := hv 10 (by omega)
  have v11 := hv 11 (by omega)
  clear hv
  unfold decB
  rw [← he]
  have htt : t = 0 ∨ t = 1 ∨ t = 2 := by omega
  clear hs he h8 hl
  obtain ⟨y1, hy1⟩ : ∃ y, y = l.getD 1 0 := ⟨_, rfl⟩
  obtain ⟨y2, hy2⟩ : ∃ y, y = l.getD 2 0 := ⟨_, rfl⟩
  obtain ⟨y3, hy3⟩ : ∃ y, y = l.getD 3 0 := ⟨_, rfl⟩
  rw [← hy1] at b1 e1 ⊢
  rw [← hy2] at b2 e2 ⊢
  rw [← hy3] at b3 e3 ⊢
  clear hy1 hy2 hy3
  rcases htt with rfl | rfl | rfl
  all_goals
    simp [whF, e1, e2, e3] at v1 v2 v3 v4 v5 v6 v7 v8 v9 v10 v11
    refine ⟨?_, ?_, v2⟩
    · unfold parB
      simp [v1, v2, v3, v4, v5, v6, v7, v8, v9, v10, v11]
    · constructor <;> simp only [v1, v2, v3, v4, v5, v6, v7, v8, v9, v10, v11] <;> omega

theorem read_int (v : Value) (l : List Int) (t f : Int) (w : World) (htb : Tab w) (hr : Row .u8 w v l) (hx : 0 ≤ rdv l t f ∧ rdv l t f < 65536) :
    Calls Tryd.prog 32 #[v, .int .i64 t, .int .i64 f] w fun e w' => e = .returned (.int .i64 (rdv l t f)) ∧ Below w.heap.size w w' := by
  have HW := Lib.hid (where_any t f w htb)
  have HL := Lib.hid (fun W (hb : Below w.heap.size w W) => load_any v (whF t f).1 (whF t f).2 l W (hr.mono hb (Nat.le_refl _)))
  have hw : wrap64 (rdv l t f) = rdv l t f := w64 hx.1 (by omega)
  unfold rdv at hx hw ⊢
  generalize (ldv l (whF t f).1 (whF t f).2).1 = x at HL hx hw ⊢
  generalize (ldv l (whF t f).1 (whF t f).2).2 = y at HL
  generalize (whF t f).1 = p at HW HL
  generalize (whF t f).2 = q at HW HL
  clear htb hr hx
  go_enter Tryd.func32, Tryd.ntmps32
  go_wp2_with fail
  refine HW.out.mono ?_
  rintro e w1 ⟨rfl, hb1⟩
  have HB1 := Lib.hid hb1
  clear hb1
  go_wp2_with fail
  refine (HL.out _ HB1.out).mono ?_
  rintro e w2 ⟨rfl, hb2⟩
  have HB2 := Lib.hid (HB1.out.trans (hb2.mono HB1.out.size))
  clear hb2
  go_wp2
  go_ret
  exact ⟨ret_int hw, HB2.out⟩
theorem read_u32 (v : Value) (l : List Int) (t f : Int) (w : World) (htb : Tab w) (hr : Row .u8 w v l) (hx : 0 ≤ rdv l t f ∧ rdv l t f < 4294967296) :
    Calls Tryd.prog 56 #[v, .int .i64 t, .int .i64 f] w fun e w' => e = .returned (.int .u32 (rdv l t f)) ∧ Below w.heap.size w w' := by
  have HW := Lib.hid (where_any t f w htb)
  have HL := Lib.hid (fun W (hb : Below w.heap.size w W) => load_any v (whF t f).1 (whF t f).2 l W (hr.mono hb (Nat.le_refl _)))
  have hw : (rdv l t f) % 4294967296 = rdv l t f := Int.emod_eq_of_lt hx.1 hx.2
  unfold rdv at hx hw ⊢
  generalize (ldv l (whF t f).1 (whF t f).2).1 = x at HL hx hw ⊢
  generalize (ldv l (whF t f).1 (whF t f).2).2 = y at HL
  generalize (whF t f).1 = p at HW HL
  generalize (whF t f).2 = q at HW HL
  clear htb hr hx
  go_enter Tryd.func56, Tryd.ntmps56
  go_wp2_with fail
  refine HW.out.mono ?_
  rintro e w1 ⟨rfl, hb1⟩
  have HB1 := Lib.hid hb1
  clear hb1
  go_wp2_with fail
  refine (HL.out _ HB1.out).mono ?_
  rintro e w2 ⟨rfl, hb2⟩
  have HB2 := Lib.hid (HB1.out.trans (hb2.mono HB1.out.size))
  clear hb2
  go_wp2
  go_ret
  exact ⟨rfl, HB2.out⟩
theorem read_u16 (v : Value) (l : List Int) (t f : Int) (w : World) (htb : Tab w) (hr : Row .u8 w v l) (hx : 0 ≤ rdv l t f ∧ rdv l t f < 65536) :
    Calls Tryd.prog 58 #[v, .int .i64 t, .int .i64 f] w fun e w' => e = .returned (.int .u16 (rdv l t f)) ∧ Below w.heap.size w w' := by
  have HW := Lib.hid (where_any t f w htb)
  have HL := Lib.hid (fun W (hb : Below w.heap.size w W) => load_any v (whF t f).1 (whF t f).2 l W (hr.mono hb (Nat.le_refl _)))
  have hw : (rdv l t f) % 65536 = rdv l t f := Int.emod_eq_of_lt hx.1 hx.2
  unfold rdv at hx hw ⊢
  generalize (ldv l (whF t f).1 (whF t f).2).1 = x at HL hx hw ⊢
  generalize (ldv l (whF t f).1 (whF t f).2).2 = y at HL
  generalize (whF t f).1 = p at HW HL
  generalize (whF t f).2 = q at HW HL
  clear htb hr hx
  go_enter Tryd.func58, Tryd.ntmps58
  go_wp2_with fail
  refine HW.out.mono ?_
  rintro e w1 ⟨rfl, hb1⟩
  have HB1 := Lib.hid hb1
  clear hb1
  go_wp2_with fail
  refine (HL.out _ HB1.out).mono ?_
  rintro e w2 ⟨rfl, hb2⟩
  have HB2 := Lib.hid (HB1.out.trans (hb2.mono HB1.out.size))
  clear hb2
  go_wp2
  go_ret
  exact ⟨rfl, HB2.out⟩
theorem read_u64 (v : Value) (l : List Int) (t f : Int) (w : World) (htb : Tab w) (hr : Row .u8 w v l) (hx : 0 ≤ rdv l t f ∧ rdv l t f < 18446744073709551616) :
    Calls Tryd.prog 57 #[v, .int .i64 t, .int .i64 f] w fun e w' => e = .returned (.int .u64 (rdv l t f)) ∧ Below w.heap.size w w' := by
  have HW := Lib.hid (where_any t f w htb)
  have HL := Lib.hid (fun W (hb : Below w.heap.size w W) => load_any v (whF t f).1 (whF t f).2 l W (hr.mono hb (Nat.le_refl _)))
  have hw : (rdv l t f) % 18446744073709551616 = rdv l t f := Int.emod_eq_of_lt hx.1 hx.2
  unfold rdv at hx hw ⊢
  generalize (ldv l (whF t f).1 (whF t f).2).1 = x at HL hx hw ⊢
  generalize (ldv l (whF t f).1 (whF t f).2).2 = y at HL
  generalize (whF t f).1 = p at HW HL
  generalize (whF t f).2 = q at HW HL
  clear htb hr hx
  go_enter Tryd.func57, Tryd.ntmps57
  go_wp2_with fail
  refine HW.out.mono ?_
  rintro e w1 ⟨rfl, hb1⟩
  have HB1 := Lib.hid hb1
  clear hb1
  go_wp2_with fail
  refine (HL.out _ HB1.out).mono ?_
  rintro e w2 ⟨rfl, hb2⟩
  have HB2 := Lib.hid (HB1.out.trans (hb2.mono HB1.out.size))
  clear hb2
  go_wp2
  go_ret
  exact ⟨rfl, HB2.out⟩

set_option maxRecDepth 100000 in
set_option maxHeartbeats 4000000 in
theorem parse_any (v : Value) (l : List Int) (t : Int) (w : World) (htb : Tab w) (hr : Row .u8 w v l) (hp : ParOk l t) :
    Calls Tryd.prog 31 #[v, .int .i64 t] w fun e w' => e = .returned (parB l t).agg ∧ Below w.heap.size w w' := by
  have hblk := heap_alloc_new w (.cells (cellsA Blk.zero) 26)
  have hbl0 := below_made w (.cells (cellsA Blk.zero) 26)
  have hz0 : w.heap.size < (w.alloc (.cells (cellsA Blk.zero) 26)).heap.size := by simp
  obtain ⟨BB, hBB⟩ : ∃ BB : World → Prop, BB = fun W => Below (w.alloc (.cells (cellsA Blk.zero) 26)).heap.size (w.alloc (.cells (cellsA Blk.zero) 26)) W := ⟨_, rfl⟩
  have HX : Hid (BB (w.alloc (.cells (cellsA Blk.zero) 26))) := by unfold Hid; rw [hBB]; exact Below.refl _ _
  have HBB : Hid (∀ W V, BB W → Below W.heap.size W V → BB V) := fun W V h hb => by rw [hBB] at h ⊢; exact h.trans (hb.mono h.size)
  have HKeep : Hid (∀ W, BB W → W.heap[w.heap.size]? = some (.cells (cellsA Blk.zero) 26 (0, 0)) ∧ Below w.heap.size w W) := fun W hb => by rw [hBB] at hb; exact ⟨(hb.block _ hz0).trans hblk, hbl0.trans (hb.mono hbl0.size)⟩
  have hk := fun W (h : BB W) => (HKeep.out W h).2
  have H1 := Lib.hid (fun W (h : BB W) => read_int v l t 1 W (htb.keep (hk W h)) (hr.mono (hk W h) (Nat.le_refl _)) hp.b1)
  have H2 := Lib.hid (fun W (h : BB W) => read_int v l t 2 W (htb.keep (hk W h)) (hr.mono (hk W h) (Nat.le_refl _)) hp.b2)
  have H3 := Lib.hid (fun W (h : BB W) => read_int v l t 3 W (htb.keep (hk W h)) (hr.mono (hk W h) (Nat.le_refl _)) hp.b3)
  have H4 := Lib.hid (fun W (h : BB W) => read_u32 v l t 4 W (htb.keep (hk W h)) (hr.mono (hk W h) (Nat.le_refl _)) hp.b4)
  have H5 := Lib.hid (fun W (h : BB W) => read_u32 v l t 5 W (htb.keep (hk W h)) (hr.mono (hk W h) (Nat.le_refl _)) hp.b5)
  have H6 := Lib.hid (fun W (h : BB W) => read_u32 v l t 6 W (htb.keep (hk W h)) (hr.mono (hk W h) (Nat.le_refl _)) hp.b6)
  have H11 := Lib.hid (fun W (h : BB W) => read_u32 v l t 11 W (htb.keep (hk W h)) (hr.mono (hk W h) (Nat.le_refl _)) hp.b11)
  have H7 := Lib.hid (fun W (h : BB W) => read_u64 v l t 7 W (htb.keep (hk W h)) (hr.mono (hk W h) (Nat.le_refl _)) hp.b7)
  have H8 := Lib.hid (fun W (h : BB W) => read_u16 v l t 8 W (htb.keep (hk W h)) (hr.mono (hk W h) (Nat.le_refl _)) hp.b8)
  have H9 := Lib.hid (fun W (h : BB W) => read_int v l t 9 W (htb.keep (hk W h)) (hr.mono (hk W h) (Nat.le_refl _)) hp.b9)
  have H10 := Lib.hid (fun W (h : BB W) => read_u32 v l t 10 W (htb.keep (hk W h)) (hr.mono (hk W h) (Nat.le_refl _)) hp.b10)
  unfold parB
  unfold cellsA Blk.zero at HX
  obtain ⟨x1, hx1⟩ : ∃ x, x = rdv l t 1 := ⟨_, rfl⟩
  obtain ⟨x2, hx2⟩ : ∃ x, x = rdv l t 2 := ⟨_, rfl⟩
  obtain ⟨x3, hx3⟩ : ∃ x, x = rdv l t 3 := ⟨_, rfl⟩
  obtain ⟨x4, hx4⟩ : ∃ x, x = rdv l t 4 := ⟨_, rfl⟩
  obtain ⟨x5, hx5⟩ : ∃ x, x = rdv l t 5 := ⟨_, rfl⟩
  obtain ⟨x6, hx6⟩ : ∃ x, x = rdv l t 6 := ⟨_, rfl⟩
  obtain ⟨x11, hx11⟩ : ∃ x, x = rdv l t 11 := ⟨_, rfl⟩
  obtain ⟨x7, hx7⟩ : ∃ x, x = rdv l t 7 := ⟨_, rfl⟩
  obtain ⟨x8, hx8⟩ : ∃ x, x = rdv l t 8 := ⟨_, rfl⟩
  obtain ⟨x9, hx9⟩ : ∃ x, x = rdv l t 9 := ⟨_, rfl⟩
  obtain ⟨x10, hx10⟩ : ∃ x, x = rdv l t 10 := ⟨_, rfl⟩
  rw [← hx1] at H1
  rw [← hx2] at H2
  rw [← hx3] at H3
  rw [← hx4] at H4
  rw [← hx5] at H5
  rw [← hx6] at H6
  rw [← hx11] at H11
  rw [← hx7] at H7
  rw [← hx8] at H8
  rw [← hx9] at H9
  rw [← hx10] at H10
  rw [← hx1, ← hx2, ← hx3, ← hx4, ← hx5, ← hx6, ← hx11, ← hx7, ← hx8, ← hx9, ← hx10]
  clear hblk hbl0 hz0 hBB hk htb hr hp hx1 hx2 hx3 hx4 hx5 hx6 hx11 hx7 hx8 hx9 hx10
  go_enter Tryd.func31, Tryd.ntmps31
  go_wp2_with fail
  refine (H1.out _ HX.out).mono ?_
  rintro e w1 ⟨rfl, hb⟩
  have HV1 := Lib.hid (HBB.out _ _ HX.out hb)
  clear hb
  go_wp2_with fail
  refine (H2.out _ HV1.out).mono ?_
  rintro e w2 ⟨rfl, hb⟩
  have HV2 := Lib.hid (HBB.out _ _ HV1.out hb)
  clear hb
  go_wp2_with fail
  refine (H3.out _ HV2.out).mono ?_
  rintro e w3 ⟨rfl, hb⟩
  have HV3 := Lib.hid (HBB.out _ _ HV2.out hb)
  clear hb
  go_wp2_with fail
  refine (H4.out _ HV3.out).mono ?_
  rintro e w4 ⟨rfl, hb⟩
  have HV4 := Lib.hid (HBB.out _ _ HV3.out hb)
  clear hb
  go_wp2_with fail
  refine (H5.out _ HV4.out).mono ?_
  rintro e w5 ⟨rfl, hb⟩
  have HV5 := Lib.hid (HBB.out _ _ HV4.out hb)
  clear hb
  go_wp2_with fail
  refine (H6.out _ HV5.out).mono ?_
  rintro e w6 ⟨rfl, hb⟩
  have HV6 := Lib.hid (HBB.out _ _ HV5.out hb)
  clear hb
  go_wp2_with fail
  refine (H11.out _ HV6.out).mono ?_
  rintro e w7 ⟨rfl, hb⟩
  have HV7 := Lib.hid (HBB.out _ _ HV6.out hb)
  clear hb
  go_wp2_with fail
  refine (H7.out _ HV7.out).mono ?_
  rintro e w8 ⟨rfl, hb⟩
  have HV8 := Lib.hid (HBB.out _ _ HV7.out hb)
  clear hb
  go_wp2_with fail
  refine (H8.out _ HV8.out).mono ?_
  rintro e w9 ⟨rfl, hb⟩
  have HV9 := Lib.hid (HBB.out _ _ HV8.out hb)
  clear hb
  go_wp2_with fail
  refine (H9.out _ HV9.out).mono ?_
  rintro e w10 ⟨rfl, hb⟩
  have HV10 := Lib.hid (HBB.out _ _ HV9.out hb)
  clear hb
  go_wp2_with fail
  refine (H10.out _ HV10.out).mono ?_
  rintro e w11 ⟨rfl, hb⟩
  have HV11 := Lib.hid (HBB.out _ _ HV10.out hb)
  clear hb
  obtain ⟨hk1, hk2⟩ := HKeep.out w11 HV11.out
  have f := free_of hk1
  have f0 := f 0
  have f1 := f 1
  have f2 := f 2
  have f3 := f 3
  have f4 := f 4
  have f5 := f 5
  have f6 := f 6
  have f7 := f 7
  have f8 := f 8
  have f9 := f 9
  have f10 := f 10
  have f11 := f 11
  obtain ⟨c0, c1, c2, c3, c4, c5, c6, c7, c8, c9, c10, c11⟩ := cells_of hk1
  have HQ := Lib.hid (cells_of (s12_block hk1 ⟨t, x1, x2 != 0, x3, x4, x5, x6, x11, x7, x8, x9, x10⟩))
  have HBz := Lib.hid (s12_below hk2 (Nat.le_refl _) ⟨t, x1, x2 != 0, x3, x4, x5, x6, x11, x7, x8, x9, x10⟩)
  simp only [] at HQ
  clear hk1 hk2 f
  go_wp2
  show bodyPost _ _ _ _ _ (S12 w11 w.heap.size ⟨t, x1, x2 != 0, x3, x4, x5, x6, x11, x7, x8, x9, x10⟩)
  generalize S12 w11 w.heap.size ⟨t, x1, x2 != 0, x3, x4, x5, x6, x11, x7, x8, x9, x10⟩ = W at HQ HBz ⊢
  obtain ⟨q0, q1, q2, q3, q4, q5, q6, q7, q8, q9, q10, q11⟩ := HQ.out
  refine bodyPost_ret (v := Blk.agg ⟨t, x1, x2 != 0, x3, x4, x5, x6, x11, x7, x8, x9, x10⟩) (by simp [results, Tryd.results31, go_sem, q0, q1, q2, q3, q4, q5, q6, q7, q8, q9, q10, q11, Blk.agg]) rfl ⟨rfl, HBz.out⟩
end Go.Proofs.YtkknegnipodcnaaDoor.Hea

namespace Go.Proofs.YtkknegnipodcnaaDoor.Hea
open Go.RowKit Num
set_option linter.unusedVariables false

theorem decode_bad {l : List Int} (hn : l ≠ []) (h : ¬ 2 < l.getD 0 0) (hs : ¬ (l.length : Int) < szF (l.getD 0 0)) (hb : ∀ i, 0 ≤ l.getD i 0 ∧ l.getD i 0 < 256) (hr : rightF { decB l with used := l.getD 2 0 != 0 } = false ∨ 1 < l.getD 2 0) : decF l = (Blk.zero, 4) := by
  rw [decF_rest hn h hs, if_pos ?_]
  by_cases h2 : 1 < l.getD 2 0
  · exact .inl h2
  · refine .inr ?_
    rcases hr with hr | hr
    · have e : (l.getD 2 0 != 0) = (l.getD 2 0 == 1) := by
        have := hb 2
        rcases (show l.getD 2 0 = 0 ∨ l.getD 2 0 = 1 by omega) with e | e <;> rw [e] <;> rfl
      rw [e] at hr
      exact hr
    · exact absurd hr h2
theorem decode_good {l : List Int} (hn : l ≠ []) (h : ¬ 2 < l.getD 0 0) (hs : ¬ (l.length : Int) < szF (l.getD 0 0)) (hb : ∀ i, 0 ≤ l.getD i 0 ∧ l.getD i 0 < 256) (hr : rightF { decB l with used := l.getD 2 0 != 0 } = true) (h2 : ¬ 1 < l.getD 2 0) : decF l = ({ decB l with used := l.getD 2 0 != 0 }, 0) := by
  have e : (l.getD 2 0 != 0) = (l.getD 2 0 == 1) := by
    have := hb 2
    rcases (show l.getD 2 0 = 0 ∨ l.getD 2 0 = 1 by omega) with e | e <;> rw [e] <;> rfl
  rw [e] at hr ⊢
  rw [decF_rest hn h hs, if_neg]
  · rfl
  · rintro (h3 | h3)
    · exact h2 h3
    · rw [show rightF (decB l) = true from hr] at h3
      cases h3

set_option maxRecDepth 100000 in
set_option maxHeartbeats 4000000 in
theorem decode_any (v : Value) (l : List Int) (w : World) (htb : Tab w) (hr : Row .u8 w v l) (hl : l.length ≤ 1000000) :
    Calls Tryd.prog 11 #[v] w fun e w' => e = .returned (.tuple #[(decF l).1.agg, .int .i64 (decF l).2]) ∧ Below w.heap.size w w' := by
  have hby := hr.bytes
  have HRow := Lib.hid hr
  obtain ⟨ad, cap, rfl, q2, q3, q4, q5⟩ := hr
  clear q4
  by_cases hn : l = []
  · subst hn
    rw [decF_nil]
    clear q5 hby HRow htb
    go_enter Tryd.func11, Tryd.ntmps11
    go_wp2
    refine bodyPost_ret (v := .tuple #[Blk.zero.agg, .int .i64 3]) (by simp [results, Tryd.results11, go_sem, Blk.zero, Blk.agg]) rfl ⟨rfl, below_made _ _⟩
  · obtain ⟨b, off, rfl, hlt, hc⟩ := q5 hn
    have HC := Lib.hid hc
    have hl0 : 0 < l.length := List.length_pos_iff.2 hn
    have hl1 : ((l.length : Int) == 0) = false := by rw [beq_eq_false_iff_ne]; omega
    have hli : ¬ l.length = 0 := by omega
    have e0 := ((below_made w (.cells (cellsA Blk.zero) 26)).cell (p := ⟨b, off, none⟩) hlt).trans (hc 0 hl0)
    have b0 := hby 0
    obtain ⟨t, ht⟩ : ∃ t, t = l.getD 0 0 := ⟨_, rfl⟩
    rw [← ht] at e0 b0
    unfold cellsA Blk.zero at e0
    have HTag := Lib.hid (fun W => isTag_any t W)
    by_cases h2 : 2 < t
    · rw [decF_big hn (by rw [← ht]; exact h2)]
      rw [show decide (0 ≤ t ∧ t ≤ 2) = false by rw [decide_eq_false_iff_not]; omega] at HTag
      clear ht hc hn hby q5 HRow htb
      go_enter Tryd.func11, Tryd.ntmps11
      go_wp2_with fail
      refine (HTag.out _).mono ?_
      rintro e w1 ⟨rfl, rfl⟩
      go_wp2
      refine bodyPost_ret (v := .tuple #[Blk.zero.agg, .int .i64 4]) (by simp [results, Tryd.results11, go_sem, Blk.zero, Blk.agg]) rfl ⟨rfl, below_made _ _⟩
    · have h2' : ¬ 2 < l.getD 0 0 := by rw [← ht]; exact h2
      rw [show decide (0 ≤ t ∧ t ≤ 2) = true by rw [decide_eq_true_iff]; omega] at HTag
      have HSz := Lib.hid (fun W => size_any t W)
      obtain ⟨z, hz⟩ : ∃ z, z = szF t := ⟨_, rfl⟩
      rw [← hz] at HSz
      by_cases hs : (l.length : Int) < z
      · rw [decF_short hn h2' (by rw [← ht, ← hz]; exact hs)]
        clear ht hc hn hby q5 HRow hz h2' htb
        go_enter Tryd.func11, Tryd.ntmps11
        go_wp2_with fail
        refine (HTag.out _).mono ?_
        rintro e w1 ⟨rfl, rfl⟩
        go_wp2_with fail
        refine (HSz.out _).mono ?_
        rintro e w1 ⟨rfl, rfl⟩
        go_wp2
        refine bodyPost_ret (v := .tuple #[Blk.zero.agg, .int .i64 3]) (by simp [results, Tryd.results11, go_sem, Blk.zero, Blk.agg]) rfl ⟨rfl, below_made _ _⟩
      · have hs2 : szF t ≤ (l.length : Int) := by omega
        have hs3 : ¬ (l.length : Int) < szF (l.getD 0 0) := by rw [← ht]; omega
        have ht3 : 0 ≤ t ∧ t ≤ 2 := by omega
        obtain ⟨p1, p2, p3⟩ := par_is hby ht ht3 hs2
        have hbad := decode_bad hn h2' hs3 hby
        have hgood := decode_good hn h2' hs3 hby
        have hoky := decB_ok hby
        have HP := Lib.hid (fun W (hb : Below w.heap.size w W) => parse_any (.slice (some ⟨b, off, none⟩) l.length cap) l t W (htb.keep hb) (HRow.out.mono hb (Nat.le_refl _)) p2)
        have HRd := Lib.hid (fun W (hb : Below w.heap.size w W) => read_int (.slice (some ⟨b, off, none⟩) l.length cap) l t 2 W (htb.keep hb) (HRow.out.mono hb (Nat.le_refl _)) p2.b2)
        have b2 := hby 2
        rw [p1] at HP
        rw [p3] at HRd
        obtain ⟨B, hB⟩ : ∃ B : Blk, B = { decB l with used := l.getD 2 0 != 0 } := ⟨_, rfl⟩
        rw [← hB] at HP hbad hgood
        have HRi := Lib.hid (fun W => right_any B W)
        obtain ⟨y, hy⟩ : ∃ y, y = l.getD 2 0 := ⟨_, rfl⟩
        rw [← hy] at HRd hbad hgood b2
        obtain ⟨D, hD⟩ : ∃ D, D = decF l := ⟨_, rfl⟩
        rw [← hD] at hbad hgood ⊢
        generalize rightF B = R at HRi hbad hgood
        have HBad := Lib.hid hbad
        have HGood := Lib.hid hgood
        have hblk := heap_alloc_new w (.cells (cellsA Blk.zero) 26)
        have hbl0 := below_made w (.cells (cellsA Blk.zero) 26)
        have hz0 : w.heap.size < (w.alloc (.cells (cellsA Blk.zero) 26)).heap.size := by simp
        obtain ⟨BB, hBB⟩ : ∃ BB : World → Prop, BB = fun W => Below (w.alloc (.cells (cellsA Blk.zero) 26)).heap.size (w.alloc (.cells (cellsA Blk.zero) 26)) W := ⟨_, rfl⟩
        have HX : Hid (BB (w.alloc (.cells (cellsA Blk.zero) 26))) := by unfold Hid; rw [hBB]; exact Below.refl _ _
        have HBB : Hid (∀ W V, BB W → Below W.heap.size W V → BB V) := fun W V h hb => by rw [hBB] at h ⊢; exact h.trans (hb.mono h.size)
        have HKeep : Hid (∀ W, BB W → W.heap[w.heap.size]? = some (.cells (cellsA Blk.zero) 26 (0, 0)) ∧ Below w.heap.size w W) := fun W hb => by rw [hBB] at hb; exact ⟨(hb.block _ hz0).trans hblk, hbl0.trans (hb.mono hbl0.size)⟩
        unfold cellsA Blk.zero at HX
        unfold Blk.agg at HP HRi
        obtain ⟨B0, B1, B2, B3, B4, B5, B6, B7, B8, B9, B10, B11⟩ := B
        simp only [] at HP HRi
        clear ht hc hn hby q5 HRow hz h2' htb hs2 hs3 p1 p2 p3 hbad hgood hoky hB hy hD hblk hbl0 hz0 hBB ht3
        have HBx : Hid (∀ (W V : World), (∃ X : World, X = W.alloc (.cells #[.int .i64 B0, .int .i64 B1, .bool B2, .int .i64 B3, .int .u32 B4, .int .u32 B5, .int .u32 B6, .int .u32 B7, .int .u64 B8, .int .u16 B9, .int .i64 B10, .int .u32 B11] 26) ∧ Below X.heap.size X V) → V.cell? ⟨W.heap.size, 0, none⟩ = some (.int .i64 B0) ∧ V.cell? ⟨W.heap.size, 1, none⟩ = some (.int .i64 B1) ∧ V.cell? ⟨W.heap.size, 2, none⟩ = some (.bool B2) ∧ V.cell? ⟨W.heap.size, 3, none⟩ = some (.int .i64 B3) ∧ V.cell? ⟨W.heap.size, 4, none⟩ = some (.int .u32 B4) ∧ V.cell? ⟨W.heap.size, 5, none⟩ = some (.int .u32 B5) ∧ V.cell? ⟨W.heap.size, 6, none⟩ = some (.int .u32 B6) ∧ V.cell? ⟨W.heap.size, 7, none⟩ = some (.int .u32 B7) ∧ V.cell? ⟨W.heap.size, 8, none⟩ = some (.int .u64 B8) ∧ V.cell? ⟨W.heap.size, 9, none⟩ = some (.int .u16 B9) ∧ V.cell? ⟨W.heap.size, 10, none⟩ = some (.int .i64 B10) ∧ V.cell? ⟨W.heap.size, 11, none⟩ = some (.int .u32 B11)) := by
          rintro W V ⟨X, rfl, hb⟩
          exact cells_of (b := ⟨B0, B1, B2, B3, B4, B5, B6, B7, B8, B9, B10, B11⟩) ((hb.block _ (by simp)).trans (heap_alloc_new W _))
        cases R
        · rw [HBad.out (.inl rfl)]
          clear HBad HGood HRd
          go_enter Tryd.func11, Tryd.ntmps11
          go_wp2_with fail
          refine (HTag.out _).mono ?_
          rintro e w1 ⟨rfl, rfl⟩
          go_wp2_with fail
          refine (HSz.out _).mono ?_
          rintro e w1 ⟨rfl, rfl⟩
          go_wp2_with fail
          refine (HP.out _ (HKeep.out _ HX.out).2).mono ?_
          rintro e w1 ⟨rfl, hb1⟩
          have HV1 := Lib.hid (HBB.out _ _ HX.out hb1)
          have hb2 := below_made w1 (.cells #[.int .i64 B0, .int .i64 B1, .bool B2, .int .i64 B3, .int .u32 B4, .int .u32 B5, .int .u32 B6, .int .u32 B7, .int .u64 B8, .int .u16 B9, .int .i64 B10, .int .u32 B11] 26)
          have HV2 := Lib.hid (HBB.out _ _ HV1.out hb2)
          obtain ⟨c0, c1, c2, c3, c4, c5, c6, c7, c8, c9, c10, c11⟩ := HBx.out w1 _ ⟨_, rfl, Below.refl _ _⟩
          clear hb1 hb2
          go_wp2_with fail
          refine (HRi.out _).mono ?_
          rintro e w3 ⟨rfl, hb3⟩
          have HV3 := Lib.hid (HBB.out _ _ HV2.out hb3)
          clear hb3 c0 c1 c2 c3 c4 c5 c6 c7 c8 c9 c10 c11
          obtain ⟨hk1, hk2⟩ := HKeep.out w3 HV3.out
          obtain ⟨c0, c1, c2, c3, c4, c5, c6, c7, c8, c9, c10, c11⟩ := cells_of hk1
          have f := free_of hk1
          have f0 := f 0
          have f1 := f 1
          have f2 := f 2
          have f3 := f 3
          have f4 := f 4
          have f5 := f 5
          have f6 := f 6
          have f7 := f 7
          have f8 := f 8
          have f9 := f 9
          have f10 := f 10
          have f11 := f 11
          have HQ := Lib.hid (cells_of (s12_block hk1 Blk.zero))
          have HBz := Lib.hid (s12_below hk2 (Nat.le_refl _) Blk.zero)
          clear hk1 hk2 f
          go_wp2
          show bodyPost _ _ _ _ _ (S12 w3 w.heap.size Blk.zero)
          generalize S12 w3 w.heap.size Blk.zero = W at HQ HBz ⊢
          obtain ⟨q0, q1, q2, q3, q4, q5, q6, q7, q8, q9, q10, q11⟩ := HQ.out
          refine bodyPost_ret (v := .tuple #[Blk.zero.agg, .int .i64 4]) (by simp [results, Tryd.results11, go_sem, q0, q1, q2, q3, q4, q5, q6, q7, q8, q9, q10, q11, Blk.zero, Blk.agg]) rfl ⟨rfl, HBz.out⟩
        by_cases hy1 : 1 < y
        · rw [HBad.out (.inr hy1)]
          clear HBad HGood
          go_enter Tryd.func11, Tryd.ntmps11
          go_wp2_with fail
          refine (HTag.out _).mono ?_
          rintro e w1 ⟨rfl, rfl⟩
          go_wp2_with fail
          refine (HSz.out _).mono ?_
          rintro e w1 ⟨rfl, rfl⟩
          go_wp2_with fail
          refine (HP.out _ (HKeep.out _ HX.out).2).mono ?_
          rintro e w1 ⟨rfl, hb1⟩
          have HV1 := Lib.hid (HBB.out _ _ HX.out hb1)
          have hb2 := below_made w1 (.cells #[.int .i64 B0, .int .i64 B1, .bool B2, .int .i64 B3, .int .u32 B4, .int .u32 B5, .int .u32 B6, .int .u32 B7, .int .u64 B8, .int .u16 B9, .int .i64 B10, .int .u32 B11] 26)
          have HV2 := Lib.hid (HBB.out _ _ HV1.out hb2)
          obtain ⟨c0, c1, c2, c3, c4, c5, c6, c7, c8, c9, c10, c11⟩ := HBx.out w1 _ ⟨_, rfl, Below.refl _ _⟩
          clear hb1 hb2
          go_wp2_with fail
          refine (HRi.out _).mono ?_
          rintro e w3 ⟨rfl, hb3⟩
          have HV3 := Lib.hid (HBB.out _ _ HV2.out hb3)
          clear hb3 c0 c1 c2 c3 c4 c5 c6 c7 c8 c9 c10 c11
          go_wp2_with fail
          refine (HRd.out _ (HKeep.out _ HV3.out).2).mono ?_
          rintro e w4 ⟨rfl, hb4⟩
          have HV4 := Lib.hid (HBB.out _ _ HV3.out hb4)
          clear hb4
          obtain ⟨hk1, hk2⟩ := HKeep.out w4 HV4.out
          obtain ⟨c0, c1, c2, c3, c4, c5, c6, c7, c8, c9, c10, c11⟩ := cells_of hk1
          have f := free_of hk1
          have f0 := f 0
          have f1 := f 1
          have f2 := f 2
          have f3 := f 3
          have f4 := f 4
          have f5 := f 5
          have f6 := f 6
          have f7 := f 7
          have f8 := f 8
          have f9 := f 9
          have f10 := f 10
          have f11 := f 11
          have HQ := Lib.hid (cells_of (s12_block hk1 Blk.zero))
          have HBz := Lib.hid (s12_below hk2 (Nat.le_refl _) Blk.zero)
          clear hk1 hk2 f
          go_wp2
          show bodyPost _ _ _ _ _ (S12 w4 w.heap.size Blk.zero)
          generalize S12 w4 w.heap.size Blk.zero = W at HQ HBz ⊢
          obtain ⟨q0, q1, q2, q3, q4, q5, q6, q7, q8, q9, q10, q11⟩ := HQ.out
          refine bodyPost_ret (v := .tuple #[Blk.zero.agg, .int .i64 4]) (by simp [results, Tryd.results11, go_sem, q0, q1, q2, q3, q4, q5, q6, q7, q8, q9, q10, q11, Blk.zero, Blk.agg]) rfl ⟨rfl, HBz.out⟩
        · rw [HGood.out rfl hy1]
          have hy1' : decide (1 < y) = false := by rw [decide_eq_false_iff_not]; exact hy1
          clear HBad HGood
          go_enter Tryd.func11, Tryd.ntmps11
          go_wp2_with fail
          refine (HTag.out _).mono ?_
          rintro e w1 ⟨rfl, rfl⟩
          go_wp2_with fail
          refine (HSz.out _).mono ?_
          rintro e w1 ⟨rfl, rfl⟩
          go_wp2_with fail
          refine (HP.out _ (HKeep.out _ HX.out).2).mono ?_
          rintro e w1 ⟨rfl, hb1⟩
          have HV1 := Lib.hid (HBB.out _ _ HX.out hb1)
          have hb2 := below_made w1 (.cells #[.int .i64 B0, .int .i64 B1, .bool B2, .int .i64 B3, .int .u32 B4, .int .u32 B5, .int .u32 B6, .int .u32 B7, .int .u64 B8, .int .u16 B9, .int .i64 B10, .int .u32 B11] 26)
          have HV2 := Lib.hid (HBB.out _ _ HV1.out hb2)
          obtain ⟨c0, c1, c2, c3, c4, c5, c6, c7, c8, c9, c10, c11⟩ := HBx.out w1 _ ⟨_, rfl, Below.refl _ _⟩
          clear hb1 hb2
          go_wp2_with fail
          refine (HRi.out _).mono ?_
          rintro e w3 ⟨rfl, hb3⟩
          have HV3 := Lib.hid (HBB.out _ _ HV2.out hb3)
          clear c0 c1 c2 c3 c4 c5 c6 c7 c8 c9 c10 c11
          have HB3 := Lib.hid hb3
          clear hb3
          go_wp2_with fail
          refine (HRd.out _ (HKeep.out _ HV3.out).2).mono ?_
          rintro e w4 ⟨rfl, hb4⟩
          have HV4 := Lib.hid (HBB.out _ _ HV3.out hb4)
          obtain ⟨d0, d1, d2, d3, d4, d5, d6, d7, d8, d9, d10, d11⟩ := HBx.out w1 w4 ⟨_, rfl, HB3.out.trans (hb4.mono HB3.out.size)⟩
          clear hb4
          obtain ⟨hk1, hk2⟩ := HKeep.out w4 HV4.out
          obtain ⟨c0, c1, c2, c3, c4, c5, c6, c7, c8, c9, c10, c11⟩ := cells_of hk1
          have f := free_of hk1
          have f0 := f 0
          have f1 := f 1
          have f2 := f 2
          have f3 := f 3
          have f4 := f 4
          have f5 := f 5
          have f6 := f 6
          have f7 := f 7
          have f8 := f 8
          have f9 := f 9
          have f10 := f 10
          have f11 := f 11
          have HQ := Lib.hid (cells_of (s12_block hk1 ⟨B0, B1, B2, B3, B4, B5, B6, B7, B8, B9, B10, B11⟩))
          have HBz := Lib.hid (s12_below hk2 (Nat.le_refl _) ⟨B0, B1, B2, B3, B4, B5, B6, B7, B8, B9, B10, B11⟩)
          simp only [] at HQ
          clear hk1 hk2 f
          go_wp2
          show bodyPost _ _ _ _ _ (S12 w4 w.heap.size ⟨B0, B1, B2, B3, B4, B5, B6, B7, B8, B9, B10, B11⟩)
          generalize S12 w4 w.heap.size ⟨B0, B1, B2, B3, B4, B5, B6, B7, B8, B9, B10, B11⟩ = W at HQ HBz ⊢
          obtain ⟨q0, q1, q2, q3, q4, q5, q6, q7, q8, q9, q10, q11⟩ := HQ.out
          refine bodyPost_ret (v := .tuple #[Blk.agg ⟨B0, B1, B2, B3, B4, B5, B6, B7, B8, B9, B10, B11⟩, .int .i64 0]) (by simp [results, Tryd.results11, go_sem, q0, q1, q2, q3, q4, q5, q6, q7, q8, q9, q10, q11, Blk.agg]) rfl ⟨rfl, HBz.out⟩
end Go.Proofs.YtkknegnipodcnaaDoor.Hea

namespace Go.Proofs.YtkknegnipodcnaaDoor.Hea
open Go.RowKit Num
set_option linter.unusedVariables false

theorem i64_wf {n : Int} (h : (Lit.int .i64 n).wf = true) : i64 n := by have := bounds_i64 h; unfold i64; omega
theorem u32_wf {n : Int} (h : (Lit.int .u32 n).wf = true) : u32 n := by have := bounds_u32 h; unfold u32; omega
theorem u64_wf {n : Int} (h : (Lit.int .u64 n).wf = true) : u64 n := by have := bounds_u64 h; unfold u64; omega
theorem u16_wf {n : Int} (h : (Lit.int .u16 n).wf = true) : u16 n := by have := bounds_u16 h; unfold u16; omega
theorem list12 {α : Type} {l : List α} (h : l.length = 12) : ∃ a0 a1 a2 a3 a4 a5 a6 a7 a8 a9 a10 a11, l = [a0, a1, a2, a3, a4, a5, a6, a7, a8, a9, a10, a11] := by
  obtain _ | ⟨a0, l⟩ := l
  · simp at h
  obtain _ | ⟨a1, l⟩ := l
  · simp at h
  obtain _ | ⟨a2, l⟩ := l
  · simp at h
  obtain _ | ⟨a3, l⟩ := l
  · simp at h
  obtain _ | ⟨a4, l⟩ := l
  · simp at h
  obtain _ | ⟨a5, l⟩ := l
  · simp at h
  obtain _ | ⟨a6, l⟩ := l
  · simp at h
  obtain _ | ⟨a7, l⟩ := l
  · simp at h
  obtain _ | ⟨a8, l⟩ := l
  · simp at h
  obtain _ | ⟨a9, l⟩ := l
  · simp at h
  obtain _ | ⟨a10, l⟩ := l
  · simp at h
  obtain _ | ⟨a11, l⟩ := l
  · simp at h
  obtain _ | ⟨a12, l⟩ := l
  · exact ⟨_, _, _, _, _, _, _, _, _, _, _, _, rfl⟩
  · simp at h
set_option maxRecDepth 100000 in
theorem block_cells {H : Type} {enc : TypeId × Value → H} {w : World} {base : Nat} {spare : Nat → Bool} {held : Bool} {n : Nat} {cs : List Value} {y : DataW H × List MemPlace}
    (h : DataW.trod enc Tryd.prog w base spare held n 26 cs = some y) : ∃ x : Blk, cs = x.cells ∧ x.Ok := by
  obtain ⟨xs, n', -, -, hlen, hxs, hf⟩ := DataW.trod_struct Tryd.underlying26 h
  have h4 : cs.length = 12 := hlen.trans (by kernel_rfl)
  have x4 : xs.length = 12 := hxs
  have z3 : Tryd.prog.cellsOf 3 = 1 := by kernel_rfl
  have zb : Tryd.prog.cellsOf 4 = 1 := by kernel_rfl
  have z32 : Tryd.prog.cellsOf 22 = 1 := by kernel_rfl
  have z64 : Tryd.prog.cellsOf 23 = 1 := by kernel_rfl
  have z16 : Tryd.prog.cellsOf 24 = 1 := by kernel_rfl
  obtain ⟨c0, c1, c2, c3, c4, c5, c6, c7, c8, c9, c10, c11, rfl⟩ := list12 h4
  obtain ⟨y0, y1, y2, y3, y4, y5, y6, y7, y8, y9, y10, y11, rfl⟩ := list12 x4
  have f0 : DataW.trod enc Tryd.prog w base spare held n' 3 (([c0, c1, c2, c3, c4, c5, c6, c7, c8, c9, c10, c11].drop 0).take (Tryd.prog.cellsOf 3)) = [y0, y1, y2, y3, y4, y5, y6, y7, y8, y9, y10, y11][0]? := hf 0 _ rfl
  have f1 : DataW.trod enc Tryd.prog w base spare held n' 3 (([c0, c1, c2, c3, c4, c5, c6, c7, c8, c9, c10, c11].drop 1).take (Tryd.prog.cellsOf 3)) = [y0, y1, y2, y3, y4, y5, y6, y7, y8, y9, y10, y11][1]? := hf 1 _ rfl
  have f2 : DataW.trod enc Tryd.prog w base spare held n' 4 (([c0, c1, c2, c3, c4, c5, c6, c7, c8, c9, c10, c11].drop 2).take (Tryd.prog.cellsOf 4)) = [y0, y1, y2, y3, y4, y5, y6, y7, y8, y9, y10, y11][2]? := hf 2 _ rfl
  have f3 : DataW.trod enc Tryd.prog w base spare held n' 3 (([c0, c1, c2, c3, c4, c5, c6, c7, c8, c9, c10, c11].drop 3).take (Tryd.prog.cellsOf 3)) = [y0, y1, y2, y3, y4, y5, y6, y7, y8, y9, y10, y11][3]? := hf 3 _ rfl
  have f4 : DataW.trod enc Tryd.prog w base spare held n' 22 (([c0, c1, c2, c3, c4, c5, c6, c7, c8, c9, c10, c11].drop 4).take (Tryd.prog.cellsOf 22)) = [y0, y1, y2, y3, y4, y5, y6, y7, y8, y9, y10, y11][4]? := hf 4 _ rfl
  have f5 : DataW.trod enc Tryd.prog w base spare held n' 22 (([c0, c1, c2, c3, c4, c5, c6, c7, c8, c9, c10, c11].drop 5).take (Tryd.prog.cellsOf 22)) = [y0, y1, y2, y3, y4, y5, y6, y7, y8, y9, y10, y11][5]? := hf 5 _ rfl
  have f6 : DataW.trod enc Tryd.prog w base spare held n' 22 (([c0, c1, c2, c3, c4, c5, c6, c7, c8, c9, c10, c11].drop 6).take (Tryd.prog.cellsOf 22)) = [y0, y1, y2, y3, y4, y5, y6, y7, y8, y9, y10, y11][6]? := hf 6 _ rfl
  have f7 : DataW.trod enc Tryd.prog w base spare held n' 22 (([c0, c1, c2, c3, c4, c5, c6, c7, c8, c9, c10, c11].drop 7).take (Tryd.prog.cellsOf 22)) = [y0, y1, y2, y3, y4, y5, y6, y7, y8, y9, y10, y11][7]? := hf 7 _ rfl
  have f8 : DataW.trod enc Tryd.prog w base spare held n' 23 (([c0, c1, c2, c3, c4, c5, c6, c7, c8, c9, c10, c11].drop 8).take (Tryd.prog.cellsOf 23)) = [y0, y1, y2, y3, y4, y5, y6, y7, y8, y9, y10, y11][8]? := hf 8 _ rfl
  have f9 : DataW.trod enc Tryd.prog w base spare held n' 24 (([c0, c1, c2, c3, c4, c5, c6, c7, c8, c9, c10, c11].drop 9).take (Tryd.prog.cellsOf 24)) = [y0, y1, y2, y3, y4, y5, y6, y7, y8, y9, y10, y11][9]? := hf 9 _ rfl
  have f10 : DataW.trod enc Tryd.prog w base spare held n' 3 (([c0, c1, c2, c3, c4, c5, c6, c7, c8, c9, c10, c11].drop 10).take (Tryd.prog.cellsOf 3)) = [y0, y1, y2, y3, y4, y5, y6, y7, y8, y9, y10, y11][10]? := hf 10 _ rfl
  have f11 : DataW.trod enc Tryd.prog w base spare held n' 22 (([c0, c1, c2, c3, c4, c5, c6, c7, c8, c9, c10, c11].drop 11).take (Tryd.prog.cellsOf 22)) = [y0, y1, y2, y3, y4, y5, y6, y7, y8, y9, y10, y11][11]? := hf 11 _ rfl
  rw [z3] at f0
  rw [z3] at f1
  rw [zb] at f2
  rw [z3] at f3
  rw [z32] at f4
  rw [z32] at f5
  rw [z32] at f6
  rw [z32] at f7
  rw [z64] at f8
  rw [z16] at f9
  rw [z3] at f10
  rw [z32] at f11
  simp only [List.drop, List.take, List.getElem?_cons_zero, List.getElem?_cons_succ] at f0 f1 f2 f3 f4 f5 f6 f7 f8 f9 f10 f11
  obtain ⟨k0, e0, -, w0⟩ := DataW.trod_int Tryd.underlying3 f0
  obtain ⟨k1, e1, -, w1⟩ := DataW.trod_int Tryd.underlying3 f1
  obtain ⟨k2, e2, -⟩ := DataW.trod_bool Tryd.underlying4 f2
  obtain ⟨k3, e3, -, w3⟩ := DataW.trod_int Tryd.underlying3 f3
  obtain ⟨k4, e4, -, w4⟩ := DataW.trod_int Tryd.underlying22 f4
  obtain ⟨k5, e5, -, w5⟩ := DataW.trod_int Tryd.underlying22 f5
  obtain ⟨k6, e6, -, w6⟩ := DataW.trod_int Tryd.underlying22 f6
  obtain ⟨k7, e7, -, w7⟩ := DataW.trod_int Tryd.underlying22 f7
  obtain ⟨k8, e8, -, w8⟩ := DataW.trod_int Tryd.underlying23 f8
  obtain ⟨k9, e9, -, w9⟩ := DataW.trod_int Tryd.underlying24 f9
  obtain ⟨k10, e10, -, w10⟩ := DataW.trod_int Tryd.underlying3 f10
  obtain ⟨k11, e11, -, w11⟩ := DataW.trod_int Tryd.underlying22 f11
  simp at e0 e1 e2 e3 e4 e5 e6 e7 e8 e9 e10 e11
  subst e0 e1 e2 e3 e4 e5 e6 e7 e8 e9 e10 e11
  exact ⟨⟨k0, k1, k2, k3, k4, k5, k6, k7, k8, k9, k10, k11⟩, rfl, ⟨i64_wf w0, i64_wf w1, i64_wf w3, u32_wf w4, u32_wf w5, u32_wf w6, u32_wf w7, u64_wf w8, u16_wf w9, i64_wf w10, u32_wf w11⟩⟩
set_option maxRecDepth 100000 in
theorem block_shape {w : World} {v : Value} {r : Reach} {b0 : Nat} {H : Type} {enc : TypeId × Value → H} {base : Nat} {spare : Nat → Bool} {held : Bool} {d : DataW H} {p : List MemPlace}
    (hval : Value.okWide Tryd.prog w r b0 26 v) (h : DataW.Trod enc Tryd.prog w base spare held 26 v d p) : ∃ x : Blk, v = x.agg ∧ x.Ok := by
  obtain ⟨cs, rfl, hsz⟩ := WideShapes.okWide_struct Tryd.underlying26 hval
  obtain ⟨fuel, hf⟩ := h
  obtain ⟨x, hx, hok⟩ := block_cells hf
  refine ⟨x, ?_, hok⟩
  have : cs.toList = x.cells := by simpa [Value.cells] using hx
  rw [← Array.toArray_toList (xs := cs), this]
  rfl
end Go.Proofs.YtkknegnipodcnaaDoor.Hea

namespace Go.Proofs.YtkknegnipodcnaaDoor.Hea
open Go.RowKit Num
set_option linter.unusedVariables false

theorem conv_bytes {w : World} {v : Value} {l : List Int} (h : Row .u8 w v l) : (convert 27 9 v).run Tryd.prog w = .ok (.string (strOfNums l)) w :=
  Row.string (P := Tryd.prog) h 27 9 5 Tryd.underlying27 Tryd.underlying5 Tryd.underlying9

set_option maxRecDepth 100000 in
theorem headWhere_walk {Tb : World → Prop} (D : Does Tb) (t f : Int) (w : World) (ht : Tb w) (t64 : i64 t) (f64 : i64 f) : Calls Tryd.prog 4 #[.int .i64 t, .int .i64 f] w fun e w' => e = .returned (.bool true) ∧ Below w.heap.size w w' := by
  have HW := Lib.hid (fun u (hu : Tb u) => D.whr t f u hu t64 f64)
  have HS := Lib.hid (fun u (hu : Tb u) => D.size t u hu t64)
  have RW := Lib.hid (fun u => refWhere_any t f u)
  have RS := Lib.hid (fun u => refSize_any t u)
  have HH := Lib.hid (fun u (hu : Tb u) => heads_any D u hu)
  have HK := Lib.hid D.keep
  obtain ⟨a, ha⟩ : ∃ a, a = (whF t f).1 := ⟨_, rfl⟩
  obtain ⟨n, hn⟩ : ∃ n, n = (whF t f).2 := ⟨_, rfl⟩
  obtain ⟨z, hz⟩ : ∃ z, z = szF t := ⟨_, rfl⟩
  rw [← ha, ← hn] at HW RW
  rw [← hz] at HS RS
  have haa : (a == a) = true := by simp
  have hnn : (n == n) = true := by simp
  have hzz : (z == z) = true := by simp
  clear ha hn hz t64 f64 D
  go_enter Tryd.func4, Tryd.ntmps4
  go_wp2_with fail
  refine (HW.out _ ht).mono ?_
  rintro e w1 ⟨rfl, hb1⟩
  have h1 := HK.out _ _ hb1 ht
  go_wp2_with fail
  refine (RW.out _).mono ?_
  rintro e w2 ⟨rfl, hb2⟩
  have h2 := HK.out _ _ hb2 h1
  have hB2 := hb1.trans (hb2.mono hb1.size)
  clear hb1 hb2 h1
  go_wp2_with fail
  refine (HS.out _ h2).mono ?_
  rintro e w3 ⟨rfl, hb3⟩
  have h3 := HK.out _ _ hb3 h2
  have hB3 := hB2.trans (hb3.mono hB2.size)
  clear hb3 hB2 h2
  go_wp2_with fail
  refine (RS.out _).mono ?_
  rintro e w4 ⟨rfl, hb4⟩
  have h4 := HK.out _ _ hb4 h3
  have hB4 := hB3.trans (hb4.mono hB3.size)
  clear hb4 hB3 h3
  go_wp2_with fail
  refine (HH.out _ h4).mono ?_
  rintro e w5 ⟨rfl, hb5⟩
  have HE := Lib.hid (hB4.trans (hb5.mono hB4.size))
  clear hb5 hB4 h4
  go_wp2
  go_ret
  exact ⟨rfl, HE.out⟩

theorem newBlk (w : World) (b : Blk) : (w.alloc (.cells (cellsA b) 26)).heap[w.heap.size]? = some (.cells (cellsA b) 26 (0, 0)) := heap_alloc_new w _
set_option maxRecDepth 100000 in
set_option maxHeartbeats 4000000 in
theorem headCodes_walk {Tb : World → Prop} (D : Does Tb) (b : Blk) (v : Value) (l : List Int) (w : World) (ht : Tb w) (hb : b.Ok) (hr : Row .u8 w v l) : Calls Tryd.prog 3 #[b.agg, v] w fun e w' => e = .returned (.bool true) ∧ Below w.heap.size w w' := by
  have HH := Lib.hid (fun u (hu : Tb u) => heads_any D u hu)
  have HK := Lib.hid D.keep
  have hx := BX.first w b
  have hb0 : Below w.heap.size w (BW w b) := hx.bel
  have ht0 := HK.out _ _ hb0 ht
  have HRow := Lib.hid hr
  have hrr := hr
  obtain ⟨ad, cap, rfl, q2, q3, -, -⟩ := hr
  by_cases hl : 600 < l.length
  · have hl1 : (600 : Int) < (l.length : Int) := by omega
    have HB0 := Lib.hid hb0
    unfold BW at ht0 HB0
    unfold Blk.agg
    clear hx hb0 HRow hrr hb D
    go_enter Tryd.func3, Tryd.ntmps3
    go_wp2_with fail
    refine (HH.out _ ht0).mono ?_
    rintro e w1 ⟨rfl, hb1⟩
    have HE := Lib.hid (HB0.out.trans (hb1.mono HB0.out.size))
    clear hb1
    go_wp2
    go_ret
    exact ⟨rfl, HE.out⟩
  · have hl1 : ¬ (600 : Int) < (l.length : Int) := by omega
    have HE := Lib.hid (fun u (hu : Tb u) => D.encode b u hu hb)
    have RE := Lib.hid (fun u => refEncode_any b hb u)
    have HD := Lib.hid (fun u (hu : Tb u) (hbel : Below w.heap.size w u) => D.decode _ l u hu (HRow.out.mono hbel (Nat.le_refl _)) (by omega))
    have RD := Lib.hid (fun u (hbel : Below w.heap.size w u) => refDecode_any _ l u (HRow.out.mono hbel (Nat.le_refl _)) (by omega))
    have HRi := Lib.hid (fun u (hu : Tb u) => D.right b u hu hb)
    have RRi := Lib.hid (fun u => refRight_any b hb u)
    obtain ⟨en, hen⟩ : ∃ en, en = encF b := ⟨_, rfl⟩
    obtain ⟨de, hde⟩ : ∃ de, de = decF l := ⟨_, rfl⟩
    obtain ⟨ri, hri⟩ : ∃ ri, ri = rightF b := ⟨_, rfl⟩
    rw [← hen] at HE RE
    rw [← hde] at HD RD
    rw [← hri] at HRi RRi
    obtain ⟨X, xe⟩ := en
    obtain ⟨Y, ye⟩ := de
    simp only [] at HE RE HD RD
    have hxe : (xe == xe) = true := by simp
    have hye : (ye == ye) = true := by simp
    have hrq : (ri == ri) = true := by simp
    obtain ⟨S, hS⟩ : ∃ S, S = strOfNums X := ⟨_, rfl⟩
    have hSS : (S.toList == S.toList) = true := by simp
    have HS := Lib.hid hS
    have HX : Hid (∀ W, Below (BW w b).heap.size (BW w b) W → BX w W b) := fun W hb => hx.below hb
    obtain ⟨c0, c1, c2, c3, c4, c5, c6, c7, c8, c9, c10, c11, -, -⟩ := hx
    have HB0 := Lib.hid hb0
    unfold BW at ht0 HB0 HX c0 c1 c2 c3 c4 c5 c6 c7 c8 c9 c10 c11
    unfold Blk.agg at HE RE HRi RRi HD RD ⊢
    obtain ⟨tag, cls, used, lab, name, next, prev, refs, exp, typ, size, hash⟩ := b
    simp only [] at HE RE HRi RRi c0 c1 c2 c3 c4 c5 c6 c7 c8 c9 c10 c11 HX ht0 HB0
    clear hen hde hri hS hb0 hrr D hb hl ht
    go_enter Tryd.func3, Tryd.ntmps3
    go_wp2_with fail
    refine (HE.out _ ht0).mono ?_
    rintro e w1 ⟨u1, rfl, hb1, hr1⟩
    have HB1 := Lib.hid hb1
    have HR1 := Lib.hid hr1
    have HT1 := Lib.hid (HK.out _ _ hb1 ht0)
    obtain ⟨a1, k1, rfl, -, -, -, -⟩ := hr1
    clear c0 c1 c2 c3 c4 c5 c6 c7 c8 c9 c10 c11 hb1 ht0 HE
    obtain ⟨c0, c1, c2, c3, c4, c5, c6, c7, c8, c9, c10, c11, -, -⟩ := HX.out _ HB1.out
    simp only [] at c0 c1 c2 c3 c4 c5 c6 c7 c8 c9 c10 c11
    go_wp2_with fail
    refine (RE.out _).mono ?_
    rintro e w2 ⟨u2, rfl, hb2, hr2⟩
    have HB2 := Lib.hid (HB1.out.trans (hb2.mono HB1.out.size))
    have HR1' := Lib.hid (HR1.out.mono hb2 (Nat.le_refl _))
    have HR2 := Lib.hid hr2
    have HT2 := Lib.hid (HK.out _ _ hb2 HT1.out)
    obtain ⟨a2, k2, rfl, -, -, -, -⟩ := hr2
    clear c0 c1 c2 c3 c4 c5 c6 c7 c8 c9 c10 c11 hb2 RE HR1 HT1 HB1
    have HBw2 := Lib.hid (HB0.out.trans (HB2.out.mono HB0.out.size))
    go_wp2_with fail
    refine (HD.out _ HT2.out HBw2.out).mono ?_
    rintro e w3 ⟨rfl, hb3⟩
    have hy := newBlk w3 Y
    have ha3 := hb3.trans ((below_made w3 (.cells (cellsA Y) 26)).mono hb3.size)
    have HB3 := Lib.hid (HB2.out.trans (ha3.mono HB2.out.size))
    have HBw3 := Lib.hid (HBw2.out.trans (ha3.mono HBw2.out.size))
    have HR1 := Lib.hid (HR1'.out.mono ha3 (Nat.le_refl _))
    have HR2' := Lib.hid (HR2.out.mono ha3 (Nat.le_refl _))
    have HT3 := Lib.hid (HK.out _ _ ha3 HT2.out)
    obtain ⟨o1, ho1⟩ : ∃ o1, o1 = w3.heap.size := ⟨_, rfl⟩
    rw [← ho1] at hy
    have HY := Lib.hid hy
    have HO1 := Lib.hid ho1
    clear hy ha3 hb3 HB2 HBw2 HR1' HR2 HT2 HD ho1
    obtain ⟨w4, hw4⟩ : ∃ w4, w4 = w3.alloc (.cells (cellsA Y) 26) := ⟨_, rfl⟩
    have HW4 := Lib.hid hw4
    rw [← hw4] at HB3 HBw3 HR1 HR2' HT3 HY
    clear hw4
    unfold cellsA at HW4
    go_wp2_with fail
    rw [← HW4.out, ← HO1.out]
    refine (RD.out _ HBw3.out).mono ?_
    rintro e w5 ⟨rfl, hb5⟩
    have hz := newBlk w5 Y
    have ha5 := hb5.trans ((below_made w5 (.cells (cellsA Y) 26)).mono hb5.size)
    have HB5 := Lib.hid (HB3.out.trans (ha5.mono HB3.out.size))
    have HBw5 := Lib.hid (HBw3.out.trans (ha5.mono HBw3.out.size))
    have HR1f := Lib.hid (HR1.out.mono ha5 (Nat.le_refl _))
    have HR2f := Lib.hid (HR2'.out.mono ha5 (Nat.le_refl _))
    have HT5 := Lib.hid (HK.out _ _ ha5 HT3.out)
    have HY5 := Lib.hid ((ha5.block _ (lt_block HY.out)).trans HY.out)
    obtain ⟨o2, ho2⟩ : ∃ o2, o2 = w5.heap.size := ⟨_, rfl⟩
    rw [← ho2] at hz
    have HZ := Lib.hid hz
    have HO2 := Lib.hid ho2
    clear hz ha5 hb5 HB3 HBw3 HR1 HR2' HT3 HY HW4 HO1 ho2 RD
    obtain ⟨w6, hw6⟩ : ∃ w6, w6 = w5.alloc (.cells (cellsA Y) 26) := ⟨_, rfl⟩
    have HW6 := Lib.hid hw6
    rw [← hw6] at HB5 HBw5 HR1f HR2f HT5 HY5 HZ
    clear hw6
    unfold cellsA at HW6
    go_wp2_with fail
    rw [← HW6.out, ← HO2.out]
    obtain ⟨c0, c1, c2, c3, c4, c5, c6, c7, c8, c9, c10, c11, hxl, hbel⟩ := HX.out _ HB5.out
    obtain ⟨ytag, ycls, yused, ylab, yname, ynext, yprev, yrefs, yexp, ytyp, ysize, yhash⟩ := Y
    have hyl := lt_block HY5.out
    have hzl := lt_block HZ.out
    obtain ⟨d0, d1, d2, d3, d4, d5, d6, d7, d8, d9, d10, d11⟩ := cells_of HY5.out
    obtain ⟨e0, e1, e2, e3, e4, e5, e6, e7, e8, e9, e10, e11⟩ := cells_of HZ.out
    simp only [] at c0 c1 c2 c3 c4 c5 c6 c7 c8 c9 c10 c11 d0 d1 d2 d3 d4 d5 d6 d7 d8 d9 d10 d11 e0 e1 e2 e3 e4 e5 e6 e7 e8 e9 e10 e11
    have f0 := Kept.cell c0 hxl
    have f1 := Kept.cell c1 hxl
    have f2 := Kept.cell c2 hxl
    have f3 := Kept.cell c3 hxl
    have f4 := Kept.cell c4 hxl
    have f5 := Kept.cell c5 hxl
    have f6 := Kept.cell c6 hxl
    have f7 := Kept.cell c7 hxl
    have f8 := Kept.cell c8 hxl
    have f9 := Kept.cell c9 hxl
    have f10 := Kept.cell c10 hxl
    have f11 := Kept.cell c11 hxl
    have g0 := Kept.cell d0 hyl
    have g1 := Kept.cell d1 hyl
    have g2 := Kept.cell d2 hyl
    have g3 := Kept.cell d3 hyl
    have g4 := Kept.cell d4 hyl
    have g5 := Kept.cell d5 hyl
    have g6 := Kept.cell d6 hyl
    have g7 := Kept.cell d7 hyl
    have g8 := Kept.cell d8 hyl
    have g9 := Kept.cell d9 hyl
    have g10 := Kept.cell d10 hyl
    have g11 := Kept.cell d11 hyl
    have h0 := Kept.cell e0 hzl
    have h1 := Kept.cell e1 hzl
    have h2 := Kept.cell e2 hzl
    have h3 := Kept.cell e3 hzl
    have h4 := Kept.cell e4 hzl
    have h5 := Kept.cell e5 hzl
    have h6 := Kept.cell e6 hzl
    have h7 := Kept.cell e7 hzl
    have h8 := Kept.cell e8 hzl
    have h9 := Kept.cell e9 hzl
    have h10 := Kept.cell e10 hzl
    have h11 := Kept.cell e11 hzl
    have t1 : ∀ kk : Kept w6.heap.size w6, (convert 27 9 (.slice a1 X.length k1)).run Tryd.prog kk.w = .ok (.string S) kk.w := fun kk => by
      have := conv_bytes (HR1f.out.mono kk.below (Nat.le_refl _))
      rwa [← HS.out] at this
    have t2 : ∀ kk : Kept w6.heap.size w6, (convert 27 9 (.slice a2 X.length k2)).run Tryd.prog kk.w = .ok (.string S) kk.w := fun kk => by
      have := conv_bytes (HR2f.out.mono kk.below (Nat.le_refl _))
      rwa [← HS.out] at this
    have HKt := Lib.hid (fun kk : Kept w6.heap.size w6 => HK.out _ _ kk.below HT5.out)
    have HBel := Lib.hid hbel
    clear c0 c1 c2 c3 c4 c5 c6 c7 c8 c9 c10 c11 d0 d1 d2 d3 d4 d5 d6 d7 d8 d9 d10 d11 e0 e1 e2 e3 e4 e5 e6 e7 e8 e9 e10 e11 hxl hyl hzl hbel HW6 HO2 HR1f HR2f HZ HY5 HT5 HB5 HBw5 HX HRow
    refine wp_region_kept (by kernel_rfl) (by kernel_rfl) ?_
    repeat (go_big_quiet_step (first
      | (go_at_call 13; exact Calls.kept_of (HRi.out _ (HKt.out _)) (Nat.le_refl _))
      | (go_at_call 14; exact Calls.kept_of (RRi.out _) (Nat.le_refl _))
      | (go_at_call 8; exact Calls.kept_of (HH.out _ (HKt.out _)) (Nat.le_refl _))))
    refine wpQuiet_nil ?_
    intro _ hw'
    obtain ⟨kk, rfl⟩ := hw'
    have HE := Lib.hid (HBel.out.trans (kk.below.mono HBel.out.size))
    go_wp2
    go_ret
    exact ⟨rfl, HE.out⟩
end Go.Proofs.YtkknegnipodcnaaDoor.Hea

namespace Go.Proofs.YtkknegnipodcnaaDoor.Hea
open Go.RowKit Num
set_option linter.unusedVariables false

theorem owns_sl {w : World} {base : Nat} {e : TypeId} {size : Nat} {v : Value} {n : Nat} {xs : List Value} (h : w.ownsRow base e size v n xs) : ∃ a c, v = .slice a n c := by
  obtain ⟨-, h2⟩ := h
  rcases h2 with ⟨rfl, rfl⟩ | ⟨g, cap, cur, rfl, -⟩
  · exact ⟨none, 0, rfl⟩
  · exact ⟨_, cap, rfl⟩
theorem bytes_99 {X : List Int} (hX : ∀ i, 0 ≤ X.getD i 0 ∧ X.getD i 0 < 256) : ∀ i, 0 ≤ (X ++ [9, 9]).getD i 0 ∧ (X ++ [9, 9]).getD i 0 < 256 := by
  intro i
  have h1 := hX i
  unfold List.getD at h1 ⊢
  rw [List.getElem?_append]
  split
  · exact h1
  · rename_i h2
    match i - X.length with
    | 0 => simp
    | 1 => simp
    | j + 2 => simp

set_option maxRecDepth 100000 in
set_option maxHeartbeats 4000000 in
theorem headBack_walk {Tb : World → Prop} (D : Does Tb) (b : Blk) (v : Value) (l : List Int) (w : World) (ht : Tb w) (hb : b.Ok) (hr : Row .u8 w v l) : Calls Tryd.prog 5 #[b.agg, v] w fun e w' => e = .returned (.bool true) ∧ Below w.heap.size w w' := by
  have HH := Lib.hid (fun u (hu : Tb u) => heads_any D u hu)
  have HK := Lib.hid (fun u (hbel : Below w.heap.size w u) => D.keep w u hbel ht)
  have hx := BX.first w b
  have hb0 : Below w.heap.size w (BW w b) := hx.bel
  have HRow := Lib.hid hr
  have hby := hr.bytes
  obtain ⟨ad, cap, rfl, q2, q3, q4, q5⟩ := hr
  by_cases hl : 600 < l.length
  · have hl1 : (600 : Int) < (l.length : Int) := by omega
    have HB0 := Lib.hid hb0
    unfold BW at HB0
    unfold Blk.agg
    clear hx hb0 HRow hb D q4 q5
    go_enter Tryd.func5, Tryd.ntmps5
    go_wp2_with fail
    refine (HH.out _ (HK.out _ HB0.out)).mono ?_
    rintro e w1 ⟨rfl, hb1⟩
    have HE := Lib.hid (HB0.out.trans (hb1.mono HB0.out.size))
    clear hb1
    go_wp2
    go_ret
    exact ⟨rfl, HE.out⟩
  · have hl1 : ¬ (600 : Int) < (l.length : Int) := by omega
    have HE := Lib.hid (fun u (hu : Tb u) => D.encode b u hu hb)
    have HRi := Lib.hid (fun u (hu : Tb u) => D.right b u hu hb)
    have HS := Lib.hid (fun u (hu : Tb u) => D.size b.tag u hu hb.tag)
    have hd := fun u (hu : Tb u) (hbel : Below w.heap.size w u) => D.decode _ l u hu (HRow.out.mono hbel (Nat.le_refl _)) (by omega)
    have HDa := Lib.hid (fun v u L (hu : Tb u) (hr : Row .u8 u v L) (hl : L.length ≤ 1000) => D.decode v L u hu hr hl)
    have hey := fun u (hu : Tb u) => D.encode (decB l) u hu (decB_ok hby)
    have hx2 := hx
    obtain ⟨c0, c1, c2, c3, c4, c5, c6, c7, c8, c9, c10, c11, -, -⟩ := hx2
    have HB0 := Lib.hid hb0
    have HX : Hid (∀ W, Below (BW w b).heap.size (BW w b) W → BX w W b) := fun W hb => hx.below hb
    obtain ⟨i0, hi, hz0, hz1, hz2⟩ := info_parts infoU8
    by_cases hye : (decF l).2 = 0
    · have hgood := dec_good hby hye
      rw [hgood.1] at hd
      rw [encF_yes hgood.2.1] at hey
      obtain ⟨-, -, hle, htk⟩ := hgood
      obtain ⟨Q, hQ⟩ : ∃ Q, Q = encL (decB l) := ⟨_, rfl⟩
      rw [← hQ] at hey hle htk
      obtain ⟨Y, hY⟩ : ∃ Y, Y = decB l := ⟨_, rfl⟩
      rw [← hY] at hd hey
      have hRq : ∀ u, Row .u8 u (.slice ad l.length cap) l → Row .u8 u (.slice ad Q.length cap) Q := fun u hr => by
        have := hr.take (n := Q.length) hle
        rwa [← htk] at this
      have HRq := Lib.hid hRq
      have hle1 : (Q.length : Int) ≤ (l.length : Int) := by omega
      have hle2 : decide ((Q.length : Int) ≤ (l.length : Int)) = true := by simpa using hle1
      have hle3 : decide (Q.length ≤ l.length) = true := by simpa using hle
      have hle4 : Q.length ≤ cap := by omega
      have hle5 : (Q.length : Int) ≤ (cap : Int) := by omega
      have hle6 : (0 : Int) ≤ (Q.length : Int) := by omega
      obtain ⟨S, hS⟩ : ∃ S, S = strOfNums Q := ⟨_, rfl⟩
      have HSe := Lib.hid hS
      have hSS : (S.toList == S.toList) = true := by simp
      clear hQ hY htk hRq hye hS
      unfold Blk.agg at hd hey
      have HD := Lib.hid hd
      have HEy := Lib.hid hey
      clear hd hey
      obtain ⟨ytag, ycls, yused, ylab, yname, ynext, yprev, yrefs, yexp, ytyp, ysize, yhash⟩ := Y
      by_cases hri : rightF b = true
      · have hp : RightP b := by simpa [rightF] using hri
        have hback := dec_enc hb hp
        have hsz := sz_bd (right_tag hp)
        rw [encF_yes hri] at HE
        rw [hri] at HRi
        obtain ⟨X, hX⟩ : ∃ X, X = encL b := ⟨_, rfl⟩
        rw [← hX] at HE hback
        have hXl : X.length ≤ 32 := by omega
        have HDx : Hid (∀ v u, Tb u → Row .u8 u v (X ++ [9, 9]) → Calls Tryd.prog 11 #[v] u fun e w' => e = .returned (.tuple #[b.agg, .int .i64 0]) ∧ Below u.heap.size u w') := fun v u hu hr => by
          have := HDa.out v u _ hu hr (by rw [List.length_append]; simp only [List.length_cons, List.length_nil]; omega)
          rw [hback.1] at this
          exact this
        have HSz : Hid (∀ u, Tb u → Calls Tryd.prog 17 #[.int .i64 b.tag] u fun e w' => e = .returned (.int .i64 (X.length : Int)) ∧ Below u.heap.size u w') := fun u hu => by
          have := HS.out u hu
          rw [← hback.2] at this
          exact this
        clear hback hsz hX hp hri HDa HS hx hb0 q4 q5
        unfold BW at HB0 HX c0 c1 c2 c3 c4 c5 c6 c7 c8 c9 c10 c11
        unfold Blk.agg at HE HRi HDx ⊢
        obtain ⟨tag, cls, used, lab, name, next, prev, refs, exp, typ, size, hash⟩ := b
        simp only [] at HE HRi HDx HSz HX HB0 c0 c1 c2 c3 c4 c5 c6 c7 c8 c9 c10 c11
        clear D hb
        go_enter Tryd.func5, Tryd.ntmps5
        go_wp2_with fail
        refine (HE.out _ (HK.out _ HB0.out)).mono ?_
        rintro e w1 ⟨u1, rfl, hb1, hr1⟩
        have HB1 := Lib.hid hb1
        have HBw1 := Lib.hid (HB0.out.trans (hb1.mono HB0.out.size))
        have HR1 := Lib.hid hr1
        obtain ⟨a1, k1, rfl, -, -, -, -⟩ := hr1
        clear c0 c1 c2 c3 c4 c5 c6 c7 c8 c9 c10 c11 hb1
        obtain ⟨c0, c1, c2, c3, c4, c5, c6, c7, c8, c9, c10, c11, -, -⟩ := HX.out _ HB1.out
        simp only [] at c0 c1 c2 c3 c4 c5 c6 c7 c8 c9 c10 c11
        go_wp2_with fail
        refine (HRi.out _ (HK.out _ HBw1.out)).mono ?_
        rintro e w2 ⟨rfl, hb2⟩
        have HB2 := Lib.hid (HB1.out.trans (hb2.mono HB1.out.size))
        have HBw2 := Lib.hid (HBw1.out.trans (hb2.mono HBw1.out.size))
        have HR2 := Lib.hid (HR1.out.mono hb2 (Nat.le_refl _))
        clear c0 c1 c2 c3 c4 c5 c6 c7 c8 c9 c10 c11 hb2 HR1 HB1 HBw1
        have hal := below_made w2 (.cells #[] 5)
        have HRx := Lib.hid (HR2.out.mono hal (Nat.le_refl _))
        have HOwn := Lib.hid (own_empty w2 5)
        clear hal
        go_wp2_with (at_builtin; refine wpList_append_row _ rfl (.tmp 30) (.tmp 31) 27 rfl w2.heap.size 5 i0 (.int .u8 0) Tryd.underlying27 hi hz0 hz1 hz2 rfl _ _ [] rfl HOwn.out _ X rfl HRx.out (by omega) (le_alloc _ (Nat.le_refl _)) ?_)
        intro v1 w3 hown1 hg1 _
        have hb3 : Below w2.heap.size w2 w3 := (below_made w2 (.cells #[] 5)).grown hg1 (by simp) (fun r hr => (HOwn.out.lt r hr).1)
        have hown2 := hown1.alloc (.cells #[.int .u8 9, .int .u8 9] 5)
        have hb4 := hb3.alloc hb3.size (.cells #[.int .u8 9, .int .u8 9] 5)
        have HR9 : Hid (Row .u8 (w3.alloc (.cells #[.int .u8 9, .int .u8 9] 5)) (.slice (some ⟨w3.heap.size, 0, none⟩) 2 2) [9, 9]) := row_of_block (l := [9, 9]) (heap_alloc_new w3 _) (by intro i; match i with | 0 => decide | 1 => decide | j + 2 => simp) (by decide)
        have HO2 := Lib.hid hown2
        have HB4 := Lib.hid hb4
        obtain ⟨a3, k3, rfl⟩ := owns_sl hown1
        clear hown1 hown2 hb3 hb4 hg1 HOwn HRx
        go_wp2_with (at_builtin; refine wpList_append_row _ rfl (.tmp 32) (.tmp 33) 27 rfl w2.heap.size 5 i0 (.int .u8 0) Tryd.underlying27 hi hz0 hz1 hz2 rfl _ _ X rfl HO2.out _ [9, 9] rfl HR9.out (by simp; omega) HB4.out.size ?_)
        intro v1 w4 hown3 hg2 _
        have hb5 : Below w2.heap.size w2 w4 := HB4.out.grown hg2 (HB4.out.size) (fun r hr => (HO2.out.lt r hr).1)
        have HRa := Lib.hid (row_of_owns (l := X ++ [9, 9]) hown3 (by simp) (bytes_99 HR2.out.bytes))
        have HB5 := Lib.hid (HB2.out.trans (hb5.mono HB2.out.size))
        have HBw5 := Lib.hid (HBw2.out.trans (hb5.mono HBw2.out.size))
        obtain ⟨a4, k4, rfl⟩ := owns_sl hown3
        clear hown3 hg2 hb5 HO2 HB4 HR9 HB2 HBw2 HR2
        go_wp2_with fail
        refine (HDx.out _ _ (HK.out _ HBw5.out) HRa.out).mono ?_
        rintro e w5 ⟨rfl, hb6⟩
        have hy := heap_alloc_new w5 (.cells #[.int .i64 tag, .int .i64 cls, .bool used, .int .i64 lab, .int .u32 name, .int .u32 next, .int .u32 prev, .int .u32 refs, .int .u64 exp, .int .u16 typ, .int .i64 size, .int .u32 hash] 26)
        have ha6 := hb6.trans ((below_made w5 (.cells #[.int .i64 tag, .int .i64 cls, .bool used, .int .i64 lab, .int .u32 name, .int .u32 next, .int .u32 prev, .int .u32 refs, .int .u64 exp, .int .u16 typ, .int .i64 size, .int .u32 hash] 26)).mono hb6.size)
        have HB6 := Lib.hid (HB5.out.trans (ha6.mono HB5.out.size))
        have HBw6 := Lib.hid (HBw5.out.trans (ha6.mono HBw5.out.size))
        have HY : Hid ((w5.alloc (.cells #[.int .i64 tag, .int .i64 cls, .bool used, .int .i64 lab, .int .u32 name, .int .u32 next, .int .u32 prev, .int .u32 refs, .int .u64 exp, .int .u16 typ, .int .i64 size, .int .u32 hash] 26)).heap[w5.heap.size]? = some (.cells (cellsA ⟨tag, cls, used, lab, name, next, prev, refs, exp, typ, size, hash⟩) 26 (0, 0))) := hy
        obtain ⟨c0, c1, c2, c3, c4, c5, c6, c7, c8, c9, c10, c11, -, -⟩ := HX.out _ HB6.out
        obtain ⟨d0, d1, d2, d3, d4, d5, d6, d7, d8, d9, d10, d11⟩ := cells_of HY.out
        simp only [] at c0 c1 c2 c3 c4 c5 c6 c7 c8 c9 c10 c11 d0 d1 d2 d3 d4 d5 d6 d7 d8 d9 d10 d11
        clear hy ha6 hb6 HB5 HBw5 HRa HY
        go_wp2_with fail
        refine (HSz.out _ (HK.out _ HBw6.out)).mono ?_
        rintro e w7 ⟨rfl, hb7⟩
        have HBw7 := Lib.hid (HBw6.out.trans (hb7.mono HBw6.out.size))
        clear c0 c1 c2 c3 c4 c5 c6 c7 c8 c9 c10 c11 d0 d1 d2 d3 d4 d5 d6 d7 d8 d9 d10 d11 hb7 HB6 HBw6
        go_wp2_with fail
        refine (HD.out _ (HK.out _ HBw7.out) HBw7.out).mono ?_
        rintro e wa ⟨rfl, hba⟩
        simp only []
        have hy := heap_alloc_new wa (.cells #[.int .i64 ytag, .int .i64 ycls, .bool yused, .int .i64 ylab, .int .u32 yname, .int .u32 ynext, .int .u32 yprev, .int .u32 yrefs, .int .u64 yexp, .int .u16 ytyp, .int .i64 ysize, .int .u32 yhash] 26)
        have haa := hba.trans ((below_made wa (.cells #[.int .i64 ytag, .int .i64 ycls, .bool yused, .int .i64 ylab, .int .u32 yname, .int .u32 ynext, .int .u32 yprev, .int .u32 yrefs, .int .u64 yexp, .int .u16 ytyp, .int .i64 ysize, .int .u32 yhash] 26)).mono hba.size)
        have HBb := Lib.hid (HBw7.out.trans (haa.mono HBw7.out.size))
        have HYb : Hid ((wa.alloc (.cells #[.int .i64 ytag, .int .i64 ycls, .bool yused, .int .i64 ylab, .int .u32 yname, .int .u32 ynext, .int .u32 yprev, .int .u32 yrefs, .int .u64 yexp, .int .u16 ytyp, .int .i64 ysize, .int .u32 yhash] 26)).heap[wa.heap.size]? = some (.cells (cellsA ⟨ytag, ycls, yused, ylab, yname, ynext, yprev, yrefs, yexp, ytyp, ysize, yhash⟩) 26 (0, 0))) := hy
        obtain ⟨d0, d1, d2, d3, d4, d5, d6, d7, d8, d9, d10, d11⟩ := cells_of HYb.out
        simp only [] at d0 d1 d2 d3 d4 d5 d6 d7 d8 d9 d10 d11
        clear hy haa hba HD HYb
        go_wp2_with fail
        refine (HEy.out _ (HK.out _ HBb.out)).mono ?_
        rintro e wc ⟨u9, rfl, hbc, hrc⟩
        have HBc := Lib.hid (HBb.out.trans (hbc.mono HBb.out.size))
        obtain ⟨a9, k9, rfl, g2, g3, g4, g5⟩ := id hrc
        have t1 : ∀ kk : Kept wc.heap.size wc, (convert 27 9 (.slice a9 Q.length k9)).run Tryd.prog kk.w = .ok (.string S) kk.w := fun kk => by
          have := conv_bytes (hrc.mono kk.below (Nat.le_refl _))
          rwa [← HSe.out] at this
        have t2 : ∀ kk : Kept wc.heap.size wc, (convert 27 9 (.slice ad Q.length cap)).run Tryd.prog kk.w = .ok (.string S) kk.w := fun kk => by
          have := conv_bytes (HRq.out _ (HRow.out.mono (HBc.out.trans (kk.below.mono HBc.out.size)) (Nat.le_refl _)))
          rwa [← HSe.out] at this
        have HKt := Lib.hid (fun kk : Kept wc.heap.size wc => HK.out _ (HBc.out.trans (kk.below.mono HBc.out.size)))
        clear d0 d1 d2 d3 d4 d5 d6 d7 d8 d9 d10 d11 g4 g5 hrc hbc HRq HRow HBb HEy
        go_wp2_with fail
        refine wp_region_kept (by kernel_rfl) (by kernel_rfl) ?_
        repeat (go_big_quiet_step (first | (go_at_call 8; exact Calls.kept_of (HH.out _ (HKt.out _)) (Nat.le_refl _))))
        refine wpQuiet_nil ?_
        intro _ hw'
        obtain ⟨kk, rfl⟩ := hw'
        have HEn := Lib.hid (HBc.out.trans (kk.below.mono HBc.out.size))
        go_wp2
        go_ret
        exact ⟨rfl, HEn.out⟩
      · have hri' : rightF b = false := by simpa using hri
        rw [encF_no hri'] at HE
        rw [hri'] at HRi
        clear hri hri' HDa HS hx hb0 q4 q5
        unfold BW at HB0 HX c0 c1 c2 c3 c4 c5 c6 c7 c8 c9 c10 c11
        unfold Blk.agg at HE HRi ⊢
        obtain ⟨tag, cls, used, lab, name, next, prev, refs, exp, typ, size, hash⟩ := b
        simp only [] at HE HRi HX HB0 c0 c1 c2 c3 c4 c5 c6 c7 c8 c9 c10 c11
        clear D hb
        go_enter Tryd.func5, Tryd.ntmps5
        go_wp2_with fail
        refine (HE.out _ (HK.out _ HB0.out)).mono ?_
        rintro e w1 ⟨u1, rfl, hb1, hr1⟩
        have HB1 := Lib.hid hb1
        have HBw1 := Lib.hid (HB0.out.trans (hb1.mono HB0.out.size))
        obtain ⟨a1, k1, rfl, -, -, -, -⟩ := hr1
        clear c0 c1 c2 c3 c4 c5 c6 c7 c8 c9 c10 c11 hb1
        obtain ⟨c0, c1, c2, c3, c4, c5, c6, c7, c8, c9, c10, c11, -, -⟩ := HX.out _ HB1.out
        simp only [] at c0 c1 c2 c3 c4 c5 c6 c7 c8 c9 c10 c11
        go_wp2_with fail
        refine (HRi.out _ (HK.out _ HBw1.out)).mono ?_
        rintro e w2 ⟨rfl, hb2⟩
        have HBw2 := Lib.hid (HBw1.out.trans (hb2.mono HBw1.out.size))
        clear c0 c1 c2 c3 c4 c5 c6 c7 c8 c9 c10 c11 hb2 HB1 HBw1
        go_wp2_with fail
        refine (HD.out _ (HK.out _ HBw2.out) HBw2.out).mono ?_
        rintro e wa ⟨rfl, hba⟩
        simp only []
        have hy := heap_alloc_new wa (.cells #[.int .i64 ytag, .int .i64 ycls, .bool yused, .int .i64 ylab, .int .u32 yname, .int .u32 ynext, .int .u32 yprev, .int .u32 yrefs, .int .u64 yexp, .int .u16 ytyp, .int .i64 ysize, .int .u32 yhash] 26)
        have haa := hba.trans ((below_made wa (.cells #[.int .i64 ytag, .int .i64 ycls, .bool yused, .int .i64 ylab, .int .u32 yname, .int .u32 ynext, .int .u32 yprev, .int .u32 yrefs, .int .u64 yexp, .int .u16 ytyp, .int .i64 ysize, .int .u32 yhash] 26)).mono hba.size)
        have HBb := Lib.hid (HBw2.out.trans (haa.mono HBw2.out.size))
        have HYb : Hid ((wa.alloc (.cells #[.int .i64 ytag, .int .i64 ycls, .bool yused, .int .i64 ylab, .int .u32 yname, .int .u32 ynext, .int .u32 yprev, .int .u32 yrefs, .int .u64 yexp, .int .u16 ytyp, .int .i64 ysize, .int .u32 yhash] 26)).heap[wa.heap.size]? = some (.cells (cellsA ⟨ytag, ycls, yused, ylab, yname, ynext, yprev, yrefs, yexp, ytyp, ysize, yhash⟩) 26 (0, 0))) := hy
        obtain ⟨d0, d1, d2, d3, d4, d5, d6, d7, d8, d9, d10, d11⟩ := cells_of HYb.out
        simp only [] at d0 d1 d2 d3 d4 d5 d6 d7 d8 d9 d10 d11
        clear hy haa hba HD HYb
        go_wp2_with fail
        refine (HEy.out _ (HK.out _ HBb.out)).mono ?_
        rintro e wc ⟨u9, rfl, hbc, hrc⟩
        have HBc := Lib.hid (HBb.out.trans (hbc.mono HBb.out.size))
        obtain ⟨a9, k9, rfl, g2, g3, g4, g5⟩ := id hrc
        have t1 : ∀ kk : Kept wc.heap.size wc, (convert 27 9 (.slice a9 Q.length k9)).run Tryd.prog kk.w = .ok (.string S) kk.w := fun kk => by
          have := conv_bytes (hrc.mono kk.below (Nat.le_refl _))
          rwa [← HSe.out] at this
        have t2 : ∀ kk : Kept wc.heap.size wc, (convert 27 9 (.slice ad Q.length cap)).run Tryd.prog kk.w = .ok (.string S) kk.w := fun kk => by
          have := conv_bytes (HRq.out _ (HRow.out.mono (HBc.out.trans (kk.below.mono HBc.out.size)) (Nat.le_refl _)))
          rwa [← HSe.out] at this
        have HKt := Lib.hid (fun kk : Kept wc.heap.size wc => HK.out _ (HBc.out.trans (kk.below.mono HBc.out.size)))
        clear d0 d1 d2 d3 d4 d5 d6 d7 d8 d9 d10 d11 g4 g5 hrc hbc HRq HRow HBb HEy
        go_wp2_with fail
        refine wp_region_kept (by kernel_rfl) (by kernel_rfl) ?_
        repeat (go_big_quiet_step (first | (go_at_call 8; exact Calls.kept_of (HH.out _ (HKt.out _)) (Nat.le_refl _))))
        refine wpQuiet_nil ?_
        intro _ hw'
        obtain ⟨kk, rfl⟩ := hw'
        have HEn := Lib.hid (HBc.out.trans (kk.below.mono HBc.out.size))
        go_wp2
        go_ret
        exact ⟨rfl, HEn.out⟩
    · have hbad := dec_bad hye
      obtain ⟨ye, hyE⟩ : ∃ ye, ye = (decF l).2 := ⟨_, rfl⟩
      rw [hbad, ← hyE] at hd
      rw [← hyE] at hye
      have hyn : (ye != 0) = true := by simpa using hye
      clear hbad hyE hye hey
      unfold Blk.agg Blk.zero at hd
      have HD := Lib.hid hd
      clear hd
      by_cases hri : rightF b = true
      · have hp : RightP b := by simpa [rightF] using hri
        have hback := dec_enc hb hp
        have hsz := sz_bd (right_tag hp)
        rw [encF_yes hri] at HE
        rw [hri] at HRi
        obtain ⟨X, hX⟩ : ∃ X, X = encL b := ⟨_, rfl⟩
        rw [← hX] at HE hback
        have hXl : X.length ≤ 32 := by omega
        have HDx : Hid (∀ v u, Tb u → Row .u8 u v (X ++ [9, 9]) → Calls Tryd.prog 11 #[v] u fun e w' => e = .returned (.tuple #[b.agg, .int .i64 0]) ∧ Below u.heap.size u w') := fun v u hu hr => by
          have := HDa.out v u _ hu hr (by rw [List.length_append]; simp only [List.length_cons, List.length_nil]; omega)
          rw [hback.1] at this
          exact this
        have HSz : Hid (∀ u, Tb u → Calls Tryd.prog 17 #[.int .i64 b.tag] u fun e w' => e = .returned (.int .i64 (X.length : Int)) ∧ Below u.heap.size u w') := fun u hu => by
          have := HS.out u hu
          rw [← hback.2] at this
          exact this
        clear hback hsz hX hp hri HDa HS hx hb0 q4 q5
        unfold BW at HB0 HX c0 c1 c2 c3 c4 c5 c6 c7 c8 c9 c10 c11
        unfold Blk.agg at HE HRi HDx ⊢
        obtain ⟨tag, cls, used, lab, name, next, prev, refs, exp, typ, size, hash⟩ := b
        simp only [] at HE HRi HDx HSz HX HB0 c0 c1 c2 c3 c4 c5 c6 c7 c8 c9 c10 c11
        clear D hb
        go_enter Tryd.func5, Tryd.ntmps5
        go_wp2_with fail
        refine (HE.out _ (HK.out _ HB0.out)).mono ?_
        rintro e w1 ⟨u1, rfl, hb1, hr1⟩
        have HB1 := Lib.hid hb1
        have HBw1 := Lib.hid (HB0.out.trans (hb1.mono HB0.out.size))
        have HR1 := Lib.hid hr1
        obtain ⟨a1, k1, rfl, -, -, -, -⟩ := hr1
        clear c0 c1 c2 c3 c4 c5 c6 c7 c8 c9 c10 c11 hb1
        obtain ⟨c0, c1, c2, c3, c4, c5, c6, c7, c8, c9, c10, c11, -, -⟩ := HX.out _ HB1.out
        simp only [] at c0 c1 c2 c3 c4 c5 c6 c7 c8 c9 c10 c11
        go_wp2_with fail
        refine (HRi.out _ (HK.out _ HBw1.out)).mono ?_
        rintro e w2 ⟨rfl, hb2⟩
        have HB2 := Lib.hid (HB1.out.trans (hb2.mono HB1.out.size))
        have HBw2 := Lib.hid (HBw1.out.trans (hb2.mono HBw1.out.size))
        have HR2 := Lib.hid (HR1.out.mono hb2 (Nat.le_refl _))
        clear c0 c1 c2 c3 c4 c5 c6 c7 c8 c9 c10 c11 hb2 HR1 HB1 HBw1
        have hal := below_made w2 (.cells #[] 5)
        have HRx := Lib.hid (HR2.out.mono hal (Nat.le_refl _))
        have HOwn := Lib.hid (own_empty w2 5)
        clear hal
        go_wp2_with (at_builtin; refine wpList_append_row _ rfl (.tmp 30) (.tmp 31) 27 rfl w2.heap.size 5 i0 (.int .u8 0) Tryd.underlying27 hi hz0 hz1 hz2 rfl _ _ [] rfl HOwn.out _ X rfl HRx.out (by omega) (le_alloc _ (Nat.le_refl _)) ?_)
        intro v1 w3 hown1 hg1 _
        have hb3 : Below w2.heap.size w2 w3 := (below_made w2 (.cells #[] 5)).grown hg1 (by simp) (fun r hr => (HOwn.out.lt r hr).1)
        have hown2 := hown1.alloc (.cells #[.int .u8 9, .int .u8 9] 5)
        have hb4 := hb3.alloc hb3.size (.cells #[.int .u8 9, .int .u8 9] 5)
        have HR9 : Hid (Row .u8 (w3.alloc (.cells #[.int .u8 9, .int .u8 9] 5)) (.slice (some ⟨w3.heap.size, 0, none⟩) 2 2) [9, 9]) := row_of_block (l := [9, 9]) (heap_alloc_new w3 _) (by intro i; match i with | 0 => decide | 1 => decide | j + 2 => simp) (by decide)
        have HO2 := Lib.hid hown2
        have HB4 := Lib.hid hb4
        obtain ⟨a3, k3, rfl⟩ := owns_sl hown1
        clear hown1 hown2 hb3 hb4 hg1 HOwn HRx
        go_wp2_with (at_builtin; refine wpList_append_row _ rfl (.tmp 32) (.tmp 33) 27 rfl w2.heap.size 5 i0 (.int .u8 0) Tryd.underlying27 hi hz0 hz1 hz2 rfl _ _ X rfl HO2.out _ [9, 9] rfl HR9.out (by simp; omega) HB4.out.size ?_)
        intro v1 w4 hown3 hg2 _
        have hb5 : Below w2.heap.size w2 w4 := HB4.out.grown hg2 (HB4.out.size) (fun r hr => (HO2.out.lt r hr).1)
        have HRa := Lib.hid (row_of_owns (l := X ++ [9, 9]) hown3 (by simp) (bytes_99 HR2.out.bytes))
        have HB5 := Lib.hid (HB2.out.trans (hb5.mono HB2.out.size))
        have HBw5 := Lib.hid (HBw2.out.trans (hb5.mono HBw2.out.size))
        obtain ⟨a4, k4, rfl⟩ := owns_sl hown3
        clear hown3 hg2 hb5 HO2 HB4 HR9 HB2 HBw2 HR2
        go_wp2_with fail
        refine (HDx.out _ _ (HK.out _ HBw5.out) HRa.out).mono ?_
        rintro e w5 ⟨rfl, hb6⟩
        have hy := heap_alloc_new w5 (.cells #[.int .i64 tag, .int .i64 cls, .bool used, .int .i64 lab, .int .u32 name, .int .u32 next, .int .u32 prev, .int .u32 refs, .int .u64 exp, .int .u16 typ, .int .i64 size, .int .u32 hash] 26)
        have ha6 := hb6.trans ((below_made w5 (.cells #[.int .i64 tag, .int .i64 cls, .bool used, .int .i64 lab, .int .u32 name, .int .u32 next, .int .u32 prev, .int .u32 refs, .int .u64 exp, .int .u16 typ, .int .i64 size, .int .u32 hash] 26)).mono hb6.size)
        have HB6 := Lib.hid (HB5.out.trans (ha6.mono HB5.out.size))
        have HBw6 := Lib.hid (HBw5.out.trans (ha6.mono HBw5.out.size))
        have HY : Hid ((w5.alloc (.cells #[.int .i64 tag, .int .i64 cls, .bool used, .int .i64 lab, .int .u32 name, .int .u32 next, .int .u32 prev, .int .u32 refs, .int .u64 exp, .int .u16 typ, .int .i64 size, .int .u32 hash] 26)).heap[w5.heap.size]? = some (.cells (cellsA ⟨tag, cls, used, lab, name, next, prev, refs, exp, typ, size, hash⟩) 26 (0, 0))) := hy
        obtain ⟨c0, c1, c2, c3, c4, c5, c6, c7, c8, c9, c10, c11, -, -⟩ := HX.out _ HB6.out
        obtain ⟨d0, d1, d2, d3, d4, d5, d6, d7, d8, d9, d10, d11⟩ := cells_of HY.out
        simp only [] at c0 c1 c2 c3 c4 c5 c6 c7 c8 c9 c10 c11 d0 d1 d2 d3 d4 d5 d6 d7 d8 d9 d10 d11
        clear hy ha6 hb6 HB5 HBw5 HRa HY
        go_wp2_with fail
        refine (HSz.out _ (HK.out _ HBw6.out)).mono ?_
        rintro e w7 ⟨rfl, hb7⟩
        have HBw7 := Lib.hid (HBw6.out.trans (hb7.mono HBw6.out.size))
        clear c0 c1 c2 c3 c4 c5 c6 c7 c8 c9 c10 c11 d0 d1 d2 d3 d4 d5 d6 d7 d8 d9 d10 d11 hb7 HB6 HBw6
        go_wp2_with fail
        refine (HD.out _ (HK.out _ HBw7.out) HBw7.out).mono ?_
        rintro e wa ⟨rfl, hba⟩
        have hy := heap_alloc_new wa (.cells #[.int .i64 0, .int .i64 0, .bool false, .int .i64 0, .int .u32 0, .int .u32 0, .int .u32 0, .int .u32 0, .int .u64 0, .int .u16 0, .int .i64 0, .int .u32 0] 26)
        have haa := hba.trans ((below_made wa (.cells #[.int .i64 0, .int .i64 0, .bool false, .int .i64 0, .int .u32 0, .int .u32 0, .int .u32 0, .int .u32 0, .int .u64 0, .int .u16 0, .int .i64 0, .int .u32 0] 26)).mono hba.size)
        have HBb := Lib.hid (HBw7.out.trans (haa.mono HBw7.out.size))
        have HYb : Hid ((wa.alloc (.cells #[.int .i64 0, .int .i64 0, .bool false, .int .i64 0, .int .u32 0, .int .u32 0, .int .u32 0, .int .u32 0, .int .u64 0, .int .u16 0, .int .i64 0, .int .u32 0] 26)).heap[wa.heap.size]? = some (.cells (cellsA Blk.zero) 26 (0, 0))) := hy
        obtain ⟨d0, d1, d2, d3, d4, d5, d6, d7, d8, d9, d10, d11⟩ := cells_of HYb.out
        simp only [Blk.zero] at d0 d1 d2 d3 d4 d5 d6 d7 d8 d9 d10 d11
        clear hy haa hba HD HYb
        go_wp2_with fail
        refine (HH.out _ (HK.out _ HBb.out)).mono ?_
        rintro e wc ⟨rfl, hbc⟩
        have HEn := Lib.hid (HBb.out.trans (hbc.mono HBb.out.size))
        clear hbc d0 d1 d2 d3 d4 d5 d6 d7 d8 d9 d10 d11
        go_wp2
        go_ret
        exact ⟨rfl, HEn.out⟩
      · have hri' : rightF b = false := by simpa using hri
        rw [encF_no hri'] at HE
        rw [hri'] at HRi
        clear hri hri' HDa HS hx hb0 q4 q5
        unfold BW at HB0 HX c0 c1 c2 c3 c4 c5 c6 c7 c8 c9 c10 c11
        unfold Blk.agg at HE HRi ⊢
        obtain ⟨tag, cls, used, lab, name, next, prev, refs, exp, typ, size, hash⟩ := b
        simp only [] at HE HRi HX HB0 c0 c1 c2 c3 c4 c5 c6 c7 c8 c9 c10 c11
        clear D hb
        go_enter Tryd.func5, Tryd.ntmps5
        go_wp2_with fail
        refine (HE.out _ (HK.out _ HB0.out)).mono ?_
        rintro e w1 ⟨u1, rfl, hb1, hr1⟩
        have HB1 := Lib.hid hb1
        have HBw1 := Lib.hid (HB0.out.trans (hb1.mono HB0.out.size))
        obtain ⟨a1, k1, rfl, -, -, -, -⟩ := hr1
        clear c0 c1 c2 c3 c4 c5 c6 c7 c8 c9 c10 c11 hb1
        obtain ⟨c0, c1, c2, c3, c4, c5, c6, c7, c8, c9, c10, c11, -, -⟩ := HX.out _ HB1.out
        simp only [] at c0 c1 c2 c3 c4 c5 c6 c7 c8 c9 c10 c11
        go_wp2_with fail
        refine (HRi.out _ (HK.out _ HBw1.out)).mono ?_
        rintro e w2 ⟨rfl, hb2⟩
        have HBw2 := Lib.hid (HBw1.out.trans (hb2.mono HBw1.out.size))
        clear c0 c1 c2 c3 c4 c5 c6 c7 c8 c9 c10 c11 hb2 HB1 HBw1
        go_wp2_with fail
        refine (HD.out _ (HK.out _ HBw2.out) HBw2.out).mono ?_
        rintro e wa ⟨rfl, hba⟩
        have hy := heap_alloc_new wa (.cells #[.int .i64 0, .int .i64 0, .bool false, .int .i64 0, .int .u32 0, .int .u32 0, .int .u32 0, .int .u32 0, .int .u64 0, .int .u16 0, .int .i64 0, .int .u32 0] 26)
        have haa := hba.trans ((below_made wa (.cells #[.int .i64 0, .int .i64 0, .bool false, .int .i64 0, .int .u32 0, .int .u32 0, .int .u32 0, .int .u32 0, .int .u64 0, .int .u16 0, .int .i64 0, .int .u32 0] 26)).mono hba.size)
        have HBb := Lib.hid (HBw2.out.trans (haa.mono HBw2.out.size))
        have HYb : Hid ((wa.alloc (.cells #[.int .i64 0, .int .i64 0, .bool false, .int .i64 0, .int .u32 0, .int .u32 0, .int .u32 0, .int .u32 0, .int .u64 0, .int .u16 0, .int .i64 0, .int .u32 0] 26)).heap[wa.heap.size]? = some (.cells (cellsA Blk.zero) 26 (0, 0))) := hy
        obtain ⟨d0, d1, d2, d3, d4, d5, d6, d7, d8, d9, d10, d11⟩ := cells_of HYb.out
        simp only [Blk.zero] at d0 d1 d2 d3 d4 d5 d6 d7 d8 d9 d10 d11
        clear hy haa hba HD HYb
        go_wp2_with fail
        refine (HH.out _ (HK.out _ HBb.out)).mono ?_
        rintro e wc ⟨rfl, hbc⟩
        have HEn := Lib.hid (HBb.out.trans (hbc.mono HBb.out.size))
        clear hbc d0 d1 d2 d3 d4 d5 d6 d7 d8 d9 d10 d11
        go_wp2
        go_ret
        exact ⟨rfl, HEn.out⟩
end Go.Proofs.YtkknegnipodcnaaDoor.Hea
