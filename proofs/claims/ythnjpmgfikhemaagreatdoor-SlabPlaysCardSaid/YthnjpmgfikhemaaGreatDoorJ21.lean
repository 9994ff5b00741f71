/- Plain mathematics of runs: proper ones, joined ones, tiles, kinds of places. Plain mathematics of the map of an arena: what each slab's bytes tell. Runs, one by one: proper, their ends; what goes on where another one ends. A map of numbers to true: which numbers are in it. A slab as it is read from an image: numbers, blocks, a free slab. A free slab: no byte that isn't nought. The blocks of a slab to which no link leads. What goes on where another run ends. The landed Joined. The runs of a slab of a class. A slab is read from an image; its runs. The runs of a slab. The runs of an arena's bytes, slab by slab. The landed Map and Agree, of bytes that tell their kinds. Slabs that hang together: what their bytes tell is what the kinds are. The map of a memory whose slabs hang together. Tiles and At, the landed ones. The document's Tiles and At. The document's Joined. Agree; the page's example; the walk of RegionRuns. -/
import Derived.Test.YthnjpmgfikhemaaGreatDoorJ6
import Derived.Test.YthnjpmgfikhemaaGreatDoorJ3
import Derived.Test.YthnjpmgfikhemaaGreatDoorJ17
import Derived.Laws.StructEq
import Derived.Maps.OwnSet
import Derived.Test.YthnjpmgfikhemaaGreatDoorJ2
import Derived.Test.YthnjpmgfikhemaaGreatDoorJ10
import Derived.Test.YthnjpmgfikhemaaGreatDoorJ1
import Derived.Deep.RegionWith
import Derived.Deep.DeepCutAuto
import Derived.Test.YthnjpmgfikhemaaGreatDoorJ11
import Derived.Test.YthnjpmgfikhemaaGreatDoorJ13
import Derived.Test.YthnjpmgfikhemaaGreatDoorJ18
import Derived.Test.YthnjpmgfikhemaaGreatDoorJ5
import Derived.Test.YthnjpmgfikhemaaGreatDoorJ7
namespace Go.Proofs.YthnjpmgfikhemaaGreatDoor.Reg
open Go.RowKit
set_option linter.unusedVariables false

/-- A run: where, how long, of which kind. -/
abbrev RZ := Int × Int × Int
def encZ (r : RZ) : List Value := [.int .i64 r.1, .int .i64 r.2.1, .int .i64 r.2.2]
abbrev rz0 : RZ := (0, 0, 0)
def prZ (r : RZ) : Bool := decide (0 ≤ r.1) && (decide (r.1 ≤ 1099511627776) && (decide (0 ≤ r.2.1) && decide (r.2.1 ≤ 1099511627776)))
theorem prZ_iff {r : RZ} : prZ r = true ↔ 0 ≤ r.1 ∧ r.1 ≤ 1099511627776 ∧ 0 ≤ r.2.1 ∧ r.2.1 ≤ 1099511627776 := by simp [prZ]
/-- Does r go on where q ends? -/
def cnZ (q r : RZ) : Bool := prZ q && (prZ r && (decide (r.1 = q.1 + q.2.1) && decide (r.2.2 = q.2.2)))
theorem cnZ_iff {q r : RZ} : cnZ q r = true ↔ prZ q = true ∧ prZ r = true ∧ r.1 = q.1 + q.2.1 ∧ r.2.2 = q.2.2 := by simp [cnZ]
def jnZ (out : List RZ) (r : RZ) : List RZ := match out.getLast? with
  | none => out ++ [r]
  | some q => if cnZ q r then out.dropLast ++ [(q.1, q.2.1 + r.2.1, q.2.2)] else out ++ [r]
def joinZ (P : List RZ) : List RZ := P.foldl jnZ []
theorem jnZ_nil (r : RZ) : jnZ [] r = [r] := rfl
theorem jnZ_snoc (M : List RZ) (q r : RZ) : jnZ (M ++ [q]) r = if cnZ q r then M ++ [(q.1, q.2.1 + r.2.1, q.2.2)] else M ++ [q] ++ [r] := by
  unfold jnZ
  simp
theorem jnZ_len (L : List RZ) (r : RZ) : (jnZ L r).length ≤ L.length + 1 := by
  rcases List.eq_nil_or_concat L with rfl | ⟨M, q, rfl⟩
  · simp [jnZ_nil]
  · rw [List.concat_eq_append, jnZ_snoc]
    split <;> simp
theorem joinZ_take (P : List RZ) (k : Nat) (h : k < P.length) : joinZ (P.take (k + 1)) = jnZ (joinZ (P.take k)) (P.getD k rz0) := by
  unfold joinZ
  rw [List.take_succ_eq_append_getElem h, List.foldl_append, List.getD, List.getElem?_eq_getElem h, Option.getD_some]
  rfl
theorem joinZ_len (P : List RZ) : ∀ k, (joinZ (P.take k)).length ≤ k := by
  intro k
  induction k with
  | zero => simp [joinZ]
  | succ k ih =>
    by_cases h : k < P.length
    · rw [joinZ_take P k h]
      exact Nat.le_trans (jnZ_len _ _) (by omega)
    · rw [List.take_of_length_le (by omega)]
      rw [List.take_of_length_le (by omega)] at ih
      omega
abbrev ZRow := ARow 3 encZ rz0
theorem encZ_length (r : RZ) : (encZ r).length = 3 := rfl
theorem ZRow.cells {w : World} {b o n c : Nat} {P : List RZ} (h : ZRow w (.slice (some ⟨b, o, none⟩) n c) P) {k : Nat} (hk : k < P.length) :
    w.cell? ⟨b, o + k * 3, none⟩ = some (.int .i64 (P.getD k rz0).1) ∧ w.cell? ⟨b, o + k * 3 + 1, none⟩ = some (.int .i64 (P.getD k rz0).2.1) ∧ w.cell? ⟨b, o + k * 3 + 2, none⟩ = some (.int .i64 (P.getD k rz0).2.2) := by
  obtain ⟨a, cap, e, h2, h3, h5⟩ := h
  obtain ⟨b', o', rfl, hlt, hc⟩ := h5 (by rintro rfl; simp at hk)
  injection e with e
  injection e with e
  injection e with e1 e2
  subst e1 e2
  exact ⟨hc k hk 0 _ rfl, hc k hk 1 _ rfl, hc k hk 2 _ rfl⟩
/-- The last run of a row that a call owns, so long. -/
theorem own_set {w : World} {base cap g : Nat} {q : RZ} {t : TypeId} {M : List RZ} (h : w.ownsRow base t 3 (.slice (some ⟨g, 0, none⟩) (M.length + 1) cap) (M.length + 1) (valsA encZ (M ++ [q]))) (y : Int) :
    (w.setCell ⟨g, M.length * 3 + 1, none⟩ (.int .i64 y)).ownsRow base t 3 (.slice (some ⟨g, 0, none⟩) (M.length + 1) cap) (M.length + 1) (valsA encZ (M ++ [(q.1, y, q.2.2)])) := by
  obtain ⟨h1, h2⟩ := h
  rcases h2 with ⟨e, h0⟩ | ⟨g', cap', cur, e, hg, hh, hle, hm, hsz, htk⟩
  · omega
  · injection e with e1 e2 e3
    injection e1 with e1
    injection e1 with e1
    subst e1 e3
    have hvl : (valsA encZ M).length = M.length * 3 := valsA_length (k := 3) (enc := encZ) encZ_length M
    refine ⟨?_, .inr ⟨g, cap, cur.setIfInBounds (M.length * 3 + 1) (.int .i64 y), rfl, hg, Hea.heap_setCell_own hh _, hle, hm, by rw [Array.size_setIfInBounds]; exact hsz, ?_⟩⟩
    · rw [valsA_length (k := 3) encZ_length]
      simp
    · rw [Array.toList_setIfInBounds, List.take_set, htk, valsA_snoc, valsA_snoc, List.set_append_right _ _ (by omega), hvl]
      simp [encZ]
theorem own_three {w : World} {base cap g : Nat} {q : RZ} {t : TypeId} {M : List RZ} (h : w.ownsRow base t 3 (.slice (some ⟨g, 0, none⟩) (M.length + 1) cap) (M.length + 1) (valsA encZ (M ++ [q]))) :
    base ≤ g ∧ (w.cell? ⟨g, M.length * 3, none⟩ = some (.int .i64 q.1) ∧ w.cell? ⟨g, M.length * 3 + 1, none⟩ = some (.int .i64 q.2.1) ∧ w.cell? ⟨g, M.length * 3 + 2, none⟩ = some (.int .i64 q.2.2)) ∧ w.frozen? ⟨g, M.length * 3 + 1, none⟩ = false ∧ g < w.heap.size := by
  obtain ⟨h1, h2⟩ := h
  rcases h2 with ⟨e, h0⟩ | ⟨g', cap', cur, e, hg, hh, hle, hm, hsz, htk⟩
  · omega
  · injection e with e1 e2 e3
    injection e1 with e1
    injection e1 with e1
    subst e1 e3
    have hvl : (valsA encZ M).length = M.length * 3 := valsA_length (k := 3) (enc := encZ) encZ_length M
    have key : ∀ j v, j < 3 → (encZ q)[j]? = some v → w.cell? ⟨g, M.length * 3 + j, none⟩ = some v := fun j v hj hv => by
      have e : (valsA encZ (M ++ [q]))[M.length * 3 + j]? = some v := by
        rw [valsA_snoc, List.getElem?_append_right (by omega), hvl, show M.length * 3 + j - M.length * 3 = j by omega]
        exact hv
      rw [← htk, List.getElem?_take_of_lt (by omega)] at e
      rw [cell_block hh]
      simpa using e
    exact ⟨hg, ⟨key 0 _ (by omega) rfl, key 1 _ (by omega) rfl, key 2 _ (by omega) rfl⟩, by simp [World.frozen?, hh], (Array.getElem?_eq_some_iff.1 hh).1⟩
theorem own_some {w : World} {base n : Nat} {t : TypeId} {v : Value} {xs : List Value} (h : w.ownsRow base t 3 v (n + 1) xs) : ∃ g cap, v = .slice (some ⟨g, 0, none⟩) (n + 1) cap ∧ n + 1 ≤ cap := by
  obtain ⟨h1, h2⟩ := h
  rcases h2 with ⟨e, h0⟩ | ⟨g, cap, cur, rfl, hg, hh, hle, rest⟩
  · omega
  · exact ⟨g, cap, rfl, hle⟩
end Go.Proofs.YthnjpmgfikhemaaGreatDoor.Reg

namespace Go.Proofs.YthnjpmgfikhemaaGreatDoor.Reg
open Go.RowKit
open Cls (szC blC pdC)
open Sla (pl aT Sl bl_in bl_apart)
open Mem (rd)
set_option linter.unusedVariables false

/-- Which block begins there. -/
def ixP (A : Nat) (c : Int) (a : Int) : Option Nat := (List.range (blC c)).find? fun k => decide ((pl A c k : Int) = a)
theorem ixP_some {A : Nat} {c a : Int} {k : Nat} (h : ixP A c a = some k) : k < blC c ∧ (pl A c k : Int) = a := by
  have h1 := List.mem_of_find?_eq_some h
  have h2 := List.find?_some h
  exact ⟨List.mem_range.1 h1, by simpa using h2⟩
theorem pl_one {A : Nat} {c : Int} {k j : Nat} (hk : k < blC c) (hj : j < blC c) (h : pl A c k = pl A c j) : k = j := by
  have h1 := bl_in hk
  rcases Nat.lt_trichotomy k j with q | q | q
  · have := bl_apart c q
    unfold pl at h; omega
  · exact q
  · have := bl_apart c q
    unfold pl at h; omega
theorem ixP_at {A : Nat} {c : Int} {k : Nat} (hk : k < blC c) : ixP A c (pl A c k : Int) = some k := by
  cases h : ixP A c (pl A c k : Int) with
  | none =>
    have := List.find?_eq_none.1 h k (List.mem_range.2 hk)
    simp at this
  | some j =>
    obtain ⟨h1, h2⟩ := ixP_some h
    rw [pl_one (A := A) h1 hk (by omega)]
/-- The blocks to which links lead, from a place on. -/
def flw (l : List Int) (A : Nat) (c : Int) : Nat → Int → List Nat → Option (List Nat)
  | 0, _, _ => none
  | n + 1, a, seen => if a = 0 then some seen else match ixP A c a with
    | none => none
    | some k => if k ∈ seen then none else flw l A c n (rd l (pl A c k + 4) 4) (k :: seen)
/-- The runs of a slab of a class. -/
def blkR (A : Nat) (c : Int) (F : List Nat) (k : Nat) : RZ := ((pl A c k : Int), ((szC c : Nat) : Int), if k ∈ F then 6 else 5)
def padR (A : Nat) (c : Int) : List RZ := if 0 < pdC c then [((A + 1024 - pdC c : Nat), ((pdC c : Nat) : Int), 8)] else []
def dvR (A : Nat) (c : Int) (F : List Nat) : List RZ := (List.range (blC c)).map (blkR A c F) ++ padR A c
/-- So many bytes are noughts. -/
def zer (l : List Int) (A n : Nat) : Bool := (List.range n).all fun i => l.getD (A + i) 0 == 0
theorem zer_iff {l : List Int} {A n : Nat} : zer l A n = true ↔ ∀ i, i < n → l.getD (A + i) 0 = 0 := by simp [zer]
/-- What a slab's bytes tell; none: that they are none. -/
def slR (l : List Int) (A : Nat) (cl lv fr : Int) : Option (List RZ) :=
  if 9 < cl then none
  else if cl = 0 then (if lv = 0 ∧ fr = 0 ∧ zer l A 1024 = true then some [((A : Int), 1024, 7)] else none)
  else match flw l A cl (blC cl + 1) fr [] with
    | none => none
    | some F => if F.length = blC cl ∨ lv ≠ ((blC cl - F.length : Nat) : Int) then none else some (dvR A cl F)
def slJ (S N : Nat) (l : List Int) (j : Nat) : Option (List RZ) := slR l (aT S N j) (rd l (128 + 16 * j) 2) (rd l (128 + 16 * j + 2) 2) (rd l (128 + 16 * j + 4) 4)
def mapS (S N : Nat) (l : List Int) : Nat → Option (List RZ)
  | 0 => some []
  | j + 1 => match mapS S N l j with
    | none => none
    | some P => match slJ S N l j with
      | none => none
      | some Q => some (P ++ Q)
/-- Runs ahead of the slabs. -/
def headR (S N : Nat) : List RZ := (Lay.runsT S N).dropLast.map fun r => ((r.1 : Int), (r.2.1 : Int), (r.2.2 : Int))
end Go.Proofs.YthnjpmgfikhemaaGreatDoor.Reg

namespace Go.Proofs.YthnjpmgfikhemaaGreatDoor.Reg
open Go.RowKit
set_option linter.unusedVariables false

theorem wrap_id {n : Int} (h0 : -9223372036854775808 ≤ n) (h1 : n ≤ 9223372036854775807) : IntKind.i64.wrap n = n := by
  rw [IntWalk.i64_left]; exact IntWalk.wrap64_in _ ⟨h0, h1⟩
end Go.Proofs.YthnjpmgfikhemaaGreatDoor.Reg

namespace Go.Proofs.YthnjpmgfikhemaaGreatDoor.Reg
open Go.RowKit
set_option linter.unusedVariables false

def w64 (x : Int) : Prop := (Lit.int .i64 x).wf = true
/-- The block's map has just these numbers, each with true. -/
structure SetM (w : World) (b : Nat) (L : List Int) : Prop where
  nd : L.Nodup
  bd : ∀ x ∈ L, w64 x
  ex : ∃ (n : Nat) (D : DataW Unit), n ≤ 100000 + L.length ∧ w.ownsMap Tryz.prog 3 (plainElem Tryz.prog 4) b n D ∧ Maps.size D = L.length ∧
    ∀ x : Int, w64 x → Maps.has D (.int .i64 x) = decide (x ∈ L) ∧ D.atKey (.int .i64 x) (.lit (.bool false)) = .lit (.bool (decide (x ∈ L)))
theorem SetM.lt {w : World} {b : Nat} {L : List Int} (h : SetM w b L) : b < w.heap.size := by
  obtain ⟨n, D, h1, h2, -⟩ := h.ex
  exact h2.lt
theorem SetM.grown {w w' : World} {b : Nat} {L : List Int} {r : Option Nat} (h : SetM w b L) (hg : w.grownBy w' r) (hne : some b ≠ r) : SetM w' b L := by
  obtain ⟨n, D, h1, h2, h3⟩ := h.ex
  exact ⟨h.nd, h.bd, n, D, h1, h2.kept hg hne, h3⟩
theorem SetM.below {w w' : World} {b : Nat} {L : List Int} (h : SetM w b L) (hb : Below w.heap.size w w') : SetM w' b L :=
  h.grown (r := none) ⟨hb.os, hb.tape, hb.output, hb.size, fun k hk _ => hb.block k hk⟩ (by simp)
theorem SetM.made (w : World) : SetM (w.alloc (.map #[] 0)) w.heap.size [] :=
  ⟨List.nodup_nil, fun x hx => (by cases hx), 0, _, by omega, World.ownsMap_made w _ _ _, rfl, fun x _ => ⟨rfl, rfl⟩⟩
end Go.Proofs.YthnjpmgfikhemaaGreatDoor.Reg

namespace Go.Proofs.YthnjpmgfikhemaaGreatDoor.Reg
open Go.RowKit
open Cls (szC blC pdC)
open Sla (pl aT Sl bl_in bl_apart)
open Mem (rd)
set_option linter.unusedVariables false

end Go.Proofs.YthnjpmgfikhemaaGreatDoor.Reg

namespace Go.Proofs.YthnjpmgfikhemaaGreatDoor.Reg
open Go.RowKit
open Cls (szC blC pdC)
open Sla (pl aT Sl bl_in bl_apart)
open Mem (rd)
set_option linter.unusedVariables false

end Go.Proofs.YthnjpmgfikhemaaGreatDoor.Reg

namespace Go.Proofs.YthnjpmgfikhemaaGreatDoor.Reg
open Go.RowKit
open Cls (szC blC pdC)
open Sla (pl aT Sl bl_in bl_apart)
open Mem (rd)
set_option linter.unusedVariables false

/-- The first k blocks' places. -/
def plsL (A : Nat) (c : Int) (k : Nat) : List Int := (List.range k).map fun i => (pl A c i : Int)
theorem plsL_len (A : Nat) (c : Int) (k : Nat) : (plsL A c k).length = k := by simp [plsL]
theorem plsL_mem {A : Nat} {c : Int} {k : Nat} {x : Int} : x ∈ plsL A c k ↔ ∃ i, i < k ∧ x = (pl A c i : Int) := by
  simp only [plsL, List.mem_map, List.mem_range]
  constructor
  · rintro ⟨i, h1, h2⟩; exact ⟨i, h1, h2.symm⟩
  · rintro ⟨i, h1, h2⟩; exact ⟨i, h1, h2.symm⟩
/-- What is left: the blocks that are not seen yet. -/
structure LeftL (A : Nat) (c : Int) (seen : List Nat) (L : List Int) : Prop where
  mem : ∀ x, x ∈ L ↔ ∃ k, k < blC c ∧ k ∉ seen ∧ x = (pl A c k : Int)
  len : L.length + seen.length = blC c
theorem LeftL.start (A : Nat) (c : Int) : LeftL A c [] (plsL A c (blC c)) :=
  ⟨fun x => by rw [plsL_mem]; simp, by rw [plsL_len]; simp⟩
theorem LeftL.step {A : Nat} {c : Int} {seen : List Nat} {L : List Int} (h : LeftL A c seen L) (hn : L.Nodup) {k : Nat} (hk : k < blC c) (hs : k ∉ seen) : (pl A c k : Int) ∈ L ∧ LeftL A c (k :: seen) (L.erase (pl A c k : Int)) := by
  have hm : (pl A c k : Int) ∈ L := (h.mem _).2 ⟨k, hk, hs, rfl⟩
  refine ⟨hm, fun x => ?_, ?_⟩
  · rw [hn.mem_erase_iff, h.mem]
    constructor
    · rintro ⟨h1, i, h2, h3, h4⟩
      refine ⟨i, h2, ?_, h4⟩
      rintro q
      rcases List.mem_cons.1 q with rfl | q
      · exact h1 h4
      · exact h3 q
    · rintro ⟨i, h2, h3, h4⟩
      simp only [List.mem_cons, not_or] at h3
      refine ⟨?_, i, h2, h3.2, h4⟩
      rintro q
      exact h3.1 (pl_one (A := A) h2 hk (by omega))
  · have := List.length_erase_of_mem hm
    have := List.length_pos_of_mem hm
    have := h.len
    rw [List.length_cons]
    omega
end Go.Proofs.YthnjpmgfikhemaaGreatDoor.Reg

namespace Go.Proofs.YthnjpmgfikhemaaGreatDoor.Reg
open Go.RowKit
set_option linter.unusedVariables false

end Go.Proofs.YthnjpmgfikhemaaGreatDoor.Reg

namespace Go.Proofs.YthnjpmgfikhemaaGreatDoor.Reg
open Go.RowKit
set_option linter.unusedVariables false

theorem own_shape {w : World} {base n k : Nat} {t : TypeId} {v : Value} {xs : List Value} (h : w.ownsRow base t k v n xs) : ∃ p c, v = .slice p n c := by
  rcases h.2 with ⟨rfl, rfl⟩ | ⟨g, cap, cur, rfl, rest⟩
  · exact ⟨none, 0, rfl⟩
  · exact ⟨_, _, rfl⟩
/-- The cells of one run, and the box it was laid into. -/
theorem box_run (w : World) (a n k : Int) : (w.alloc (.cells #[.int .i64 a, .int .i64 n, .int .i64 k] 92)).cell? ⟨w.heap.size, 0, none⟩ = some (.int .i64 a) ∧ (w.alloc (.cells #[.int .i64 a, .int .i64 n, .int .i64 k] 92)).cell? ⟨w.heap.size, 1, none⟩ = some (.int .i64 n) ∧ (w.alloc (.cells #[.int .i64 a, .int .i64 n, .int .i64 k] 92)).cell? ⟨w.heap.size, 2, none⟩ = some (.int .i64 k) := by
  have hb := heap_alloc_new w (.cells #[.int .i64 a, .int .i64 n, .int .i64 k] 92)
  exact ⟨(cell_block hb 0).trans rfl, (cell_block hb 1).trans rfl, (cell_block hb 2).trans rfl⟩
theorem size_alloc1 (w : World) (o : Obj) : w.heap.size < (w.alloc o).heap.size := by
  have : (w.alloc o).heap.size = w.heap.size + 1 := Array.size_push _
  omega
/-- Runs that lie in new memory. -/
def ZOwn (w : World) (P : List RZ) (e : Ending) (w' : World) : Prop := ∃ u, e = .returned u ∧ Below w.heap.size w w' ∧ w'.ownsRow w.heap.size 92 3 u P.length (valsA encZ P)
end Go.Proofs.YthnjpmgfikhemaaGreatDoor.Reg

namespace Go.Proofs.YthnjpmgfikhemaaGreatDoor.Reg
open Go.RowKit
open Cls (szC blC pdC)
open Sla (pl aT Sl bl_in bl_apart)
open Mem (rd)
set_option linter.unusedVariables false

def blkL (A : Nat) (c : Int) (F : List Nat) (k : Nat) : List RZ := (List.range k).map (blkR A c F)
theorem blkL_succ (A : Nat) (c : Int) (F : List Nat) (k : Nat) : blkL A c F (k + 1) = blkL A c F k ++ [blkR A c F k] := by simp [blkL, List.range_succ]
end Go.Proofs.YthnjpmgfikhemaaGreatDoor.Reg

namespace Go.Proofs.YthnjpmgfikhemaaGreatDoor.Reg
open Go.RowKit
open Cls (szC blC pdC)
open Sla (pl aT Sl bl_in bl_apart)
open Mem (rd)
set_option linter.unusedVariables false

def S5 (w : World) (o : Nat) (u : Value) (a b c d : Int) : World :=
  ((((w.setCell ⟨o, 0, none⟩ u).setCell ⟨o, 1, none⟩ (.int .i64 a)).setCell ⟨o, 2, none⟩ (.int .i64 b)).setCell ⟨o, 3, none⟩ (.int .i64 c)).setCell ⟨o, 4, none⟩ (.int .i64 d)
end Go.Proofs.YthnjpmgfikhemaaGreatDoor.Reg

namespace Go.Proofs.YthnjpmgfikhemaaGreatDoor.Reg
open Go.RowKit
open Cls (szC blC pdC)
open Sla (pl aT Sl bl_in bl_apart)
open Mem (rd)
set_option linter.unusedVariables false

end Go.Proofs.YthnjpmgfikhemaaGreatDoor.Reg

namespace Go.Proofs.YthnjpmgfikhemaaGreatDoor.Lay
open Go.RowKit
set_option linter.unusedVariables false

end Go.Proofs.YthnjpmgfikhemaaGreatDoor.Lay
namespace Go.Proofs.YthnjpmgfikhemaaGreatDoor.Reg
open Go.RowKit
open Cls (szC blC pdC)
open Sla (pl aT Sl bl_in bl_apart)
open Mem (rd)
set_option linter.unusedVariables false

end Go.Proofs.YthnjpmgfikhemaaGreatDoor.Reg

namespace Go.Proofs.YthnjpmgfikhemaaGreatDoor.Reg
open Go.RowKit
open Cls (szC blC pdC)
open Mem (Mm MemC Hm rd blkM)
set_option linter.unusedVariables false

end Go.Proofs.YthnjpmgfikhemaaGreatDoor.Reg

namespace Go.Proofs.YthnjpmgfikhemaaGreatDoor.Reg
open Go.RowKit
open Cls (szC blC pdC)
open Sla (pl aT lk Sl Lks FB SlabOk bl_in bl_apart)
open Mem (rd)
open Wat (Rn rl rl_good rl_block)
set_option linter.unusedVariables false

theorem good_nil {x : List Int} {p : Nat} (h : Wat.Good x p []) : p = 0 := by
  generalize hL : ([] : List Rn) = L at h
  cases h with
  | nil => rfl
  | snoc a b c d => simp at hL
theorem good_rl {x : List Int} {p : Nat} {L : List Rn} (h : Wat.Good x p L) : L = rl x p := by
  induction h with
  | nil => rfl
  | snoc h1 h2 h3 h4 ih =>
    rename_i p n L k
    obtain ⟨m, rfl⟩ : ∃ m, n = m + 1 := ⟨n - 1, by omega⟩
    have e0 : x.getD p 0 = k := by have := h3 0 (by omega); rwa [Nat.add_zero] at this
    have hp : p = 0 ∨ x.getD (p - 1) 0 ≠ x.getD p 0 := by
      rcases List.eq_nil_or_concat L with rfl | ⟨M, q, rfl⟩
      · exact .inl (good_nil h1)
      · right
        rw [List.concat_eq_append] at h1 h4
        obtain ⟨g1, g2, g3⟩ := h1.last (r := q) (by simp)
        have g4 := h4 q (by simp)
        have g5 := g3 (q.2.1 - 1) (by omega)
        rw [show q.1 + (q.2.1 - 1) = p - 1 by omega] at g5
        rw [g5, e0]
        exact g4
    have hb := rl_block x p m hp (fun j hj => by rw [h3 j (by omega), e0])
    rw [← ih, e0] at hb
    exact hb.symm
theorem good_inv {x : List Int} {p : Nat} {M : List Rn} {q : Rn} (h : Wat.Good x p (M ++ [q])) : Wat.Good x q.1 M ∧ 1 ≤ q.2.1 ∧ (∀ j, j < q.2.1 → x.getD (q.1 + j) 0 = q.2.2) ∧ (∀ r, M.getLast? = some r → r.2.2 ≠ q.2.2) ∧ p = q.1 + q.2.1 := by
  generalize hL : M ++ [q] = L at h
  cases h with
  | nil => simp at hL
  | snoc a b c d =>
    rename_i p' n' L' k'
    obtain ⟨h1, h2⟩ := List.append_inj' hL rfl
    injection h2 with h2
    subst h1 h2
    exact ⟨a, b, c, d, rfl⟩
/-- Runs one behind the other, each of one kind. -/
inductive Til (x : List Int) : Nat → List RZ → Prop
  | nil : Til x 0 []
  | snoc {p n : Nat} {P : List RZ} {k : Int} : Til x p P → 1 ≤ n → (∀ j, j < n → x.getD (p + j) 0 = k) → Til x (p + n) (P ++ [((p : Int), (n : Int), k)])
def cstW (r : Rn) : RZ := ((r.1 : Int), (r.2.1 : Int), r.2.2)
theorem joinZ_snoc (P : List RZ) (r : RZ) : joinZ (P ++ [r]) = jnZ (joinZ P) r := by
  unfold joinZ
  rw [List.foldl_append]
  rfl
theorem til_join {x : List Int} {p : Nat} {P : List RZ} (h : Til x p P) (hp : p ≤ 1000000) : ∃ L, joinZ P = L.map cstW ∧ Wat.Good x p L := by
  induction h with
  | nil => exact ⟨[], rfl, .nil⟩
  | snoc h1 h2 h3 ih =>
    rename_i p n P k
    obtain ⟨L, hL, hg⟩ := ih (by omega)
    rw [joinZ_snoc, hL]
    rcases List.eq_nil_or_concat L with rfl | ⟨M, q, rfl⟩
    · exact ⟨[(p, n, k)], rfl, Wat.Good.snoc hg h2 h3 (fun r hr => by simp at hr)⟩
    · rw [List.concat_eq_append] at hg ⊢
      obtain ⟨g1, g2, g3⟩ := hg.last (r := q) (by simp)
      rw [List.map_append, List.map_cons, List.map_nil, jnZ_snoc]
      by_cases hk : k = q.2.2
      · have hc : cnZ (cstW q) ((p : Int), (n : Int), k) = true := by
          rw [cnZ_iff, prZ_iff, prZ_iff]
          simp only [cstW]
          omega
        rw [if_pos hc]
        refine ⟨M ++ [(q.1, q.2.1 + n, q.2.2)], by simp [cstW], ?_⟩
        obtain ⟨a, b, c, d, e⟩ := good_inv hg
        have := Wat.Good.snoc (n := q.2.1 + n) (k := q.2.2) a (by omega) (fun j hj => by
          by_cases hjq : j < q.2.1
          · exact c j hjq
          · rw [← hk, show q.1 + j = p + (j - q.2.1) by omega]
            exact h3 _ (by omega)) d
        rw [show q.1 + (q.2.1 + n) = p + n by omega] at this
        exact this
      · have hc : cnZ (cstW q) ((p : Int), (n : Int), k) = false := by
          rw [Bool.eq_false_iff]
          intro q2
          obtain ⟨-, -, -, q3⟩ := cnZ_iff.1 q2
          exact hk q3
        rw [if_neg (by rw [hc]; decide)]
        refine ⟨M ++ [q] ++ [(p, n, k)], by simp [cstW], Wat.Good.snoc hg h2 h3 (fun r hr => ?_)⟩
        simp at hr
        rw [← hr]
        exact fun e => hk e.symm
end Go.Proofs.YthnjpmgfikhemaaGreatDoor.Reg

namespace Go.Proofs.YthnjpmgfikhemaaGreatDoor.Reg
open Go.RowKit
open Cls (szC blC pdC)
open Sla (pl aT lk Sl Lks FB SlabOk bl_in bl_apart St Sb Co)
open Mem (rd Hm)
open Lis (Cf)
set_option linter.unusedVariables false

theorem flw_free {l : List Int} {A : Nat} {c : Int} (hA : 0 < A) (hl : A + 1024 ≤ l.length) (hl2 : l.length ≤ 1000000) : ∀ (f seen : List Nat) (n : Nat), f.Nodup → (∀ k ∈ f, k < blC c ∧ k ∉ seen) → Lks l A c f → f.length + 1 ≤ n →
    flw l A c n (lk A c f : Int) seen = some (f.reverse ++ seen) := by
  intro f
  induction f with
  | nil =>
    intro seen n _ _ _ hn
    obtain ⟨m, rfl⟩ : ∃ m, n = m + 1 := ⟨n - 1, by simp at hn; omega⟩
    rw [flw, if_pos (by rfl)]
    rfl
  | cons k f ih =>
    intro seen n hnd hk hL hn
    obtain ⟨m, rfl⟩ : ∃ m, n = m + 1 := ⟨n - 1, by simp at hn; omega⟩
    obtain ⟨hk1, hk2⟩ := hk k (by simp)
    obtain ⟨hd1, hd2⟩ := List.nodup_cons.1 hnd
    have hin := bl_in hk1
    have hne : ((lk A c (k :: f) : Nat) : Int) ≠ 0 := by
      show ((pl A c k : Nat) : Int) ≠ 0
      unfold pl
      omega
    have hbf : lk A c f ≤ 1000000 := by
      cases f with
      | nil => show 0 ≤ 1000000; omega
      | cons i r =>
        have := bl_in (hk i (by simp)).1
        show pl A c i ≤ 1000000
        unfold pl
        omega
    have hrd : rd l (pl A c k + 4) 4 = (lk A c f : Int) := Sla.fb_rd hL.1 (by omega) (by unfold pl; omega) (by omega) (by omega)
    rw [flw, if_neg hne]
    show (match ixP A c ((pl A c k : Nat) : Int) with | none => none | some k => _) = _
    rw [ixP_at hk1]
    simp only
    rw [if_neg hk2, hrd, ih (k :: seen) m hd2 (fun i hi => ⟨(hk i (by simp [hi])).1, fun q => by
      rcases List.mem_cons.1 q with rfl | q
      · exact hd1 hi
      · exact (hk i (by simp [hi])).2 q⟩) hL.2 (by simp at hn; omega)]
    simp
/-- The runs of a slab. -/
def slT (A : Nat) (s : Sl) : List RZ := if s.c = 0 then [((A : Int), 1024, 7)] else dvR A s.c s.f.reverse
theorem slR_ok {l x : List Int} {A : Nat} {s : Sl} (d : SlabOk l x A s) (hA : 0 < A) (hl : A + 1024 ≤ l.length) (hl2 : l.length ≤ 1000000) (hv : s.c ≠ 0 → s.v ≠ []) :
    slR l A (s.c : Int) (s.v.length : Int) (lk A s.c s.f : Int) = some (slT A s) := by
  have hc9 := d.ok.c
  unfold slR slT
  rw [if_neg (by omega)]
  by_cases h0 : s.c = 0
  · have hb : blC (s.c : Int) = 0 := by rw [h0]; decide
    have hf : s.f = [] := by
      rcases List.eq_nil_or_concat s.f with q | ⟨M, k, q⟩
      · exact q
      · have := d.ok.lt k (by rw [q]; simp)
        omega
    have hv0 : s.v = [] := Sla.zero_v h0
    rw [if_pos (by rw [h0]; rfl), if_pos h0, hv0, hf, if_pos]
    refine ⟨rfl, rfl, zer_iff.2 fun i hi => ?_⟩
    exact (d.p (A + i) (by rw [hb]; omega) (by omega)).2
  · rw [if_neg (by omega), if_neg h0]
    have hfl := flw_free hA hl hl2 s.f [] (blC (s.c : Int) + 1) d.ok.nd (fun k hk => ⟨d.ok.lt k hk, by simp⟩) d.f (by have := d.ok.len; omega)
    rw [List.append_nil] at hfl
    rw [hfl]
    simp only
    have hln := d.ok.len
    have hvp := List.length_pos_iff.2 (hv h0)
    rw [if_neg]
    rw [List.length_reverse]
    omega
theorem til_blocks {x : List Int} {A : Nat} {c : Int} {F : List Nat} {P : List RZ} (hT : Til x A P) (hx : ∀ k, k < blC c → ∀ i, i < szC c → x.getD (pl A c k + i) 0 = if k ∈ F then 6 else 5) :
    ∀ k, k ≤ blC c → Til x (A + k * szC c) (P ++ blkL A c F k) := by
  intro k
  induction k with
  | zero => intro _; rw [Nat.zero_mul, Nat.add_zero, show blkL A c F 0 = [] from rfl, List.append_nil]; exact hT
  | succ k ih =>
    intro hk
    have hin := bl_in (show k < blC c by omega)
    have h1 := ih (by omega)
    rw [blkL_succ, ← List.append_assoc, show A + (k + 1) * szC c = (A + k * szC c) + szC c by rw [Nat.add_mul]; omega]
    exact Til.snoc h1 (by omega) (fun j hj => hx k (by omega) j hj)
theorem til_slab {l x : List Int} {A : Nat} {s : Sl} {P : List RZ} (d : SlabOk l x A s) (hT : Til x A P) : Til x (A + 1024) (P ++ slT A s) := by
  unfold slT
  by_cases h0 : s.c = 0
  · rw [if_pos h0]
    have hb : blC (s.c : Int) = 0 := by rw [h0]; decide
    exact Til.snoc (n := 1024) hT (by omega) (fun j hj => by
      have := (d.p (A + j) (by rw [hb]; omega) (by omega)).1
      rw [if_pos h0] at this
      exact this)
  · rw [if_neg h0]
    have hz : ¬ szC (s.c : Int) = 0 := fun e => by have := Cls.szC_zero.1 e; have := d.ok.c; omega
    have hpe := Sla.pd_end (s.c : Int) hz
    have h1 := til_blocks (F := s.f.reverse) hT (fun k hk i hi => by rw [d.k k hk i hi]; simp) (blC (s.c : Int)) (Nat.le_refl _)
    unfold dvR padR
    rw [← List.append_assoc]
    change Til x (A + 1024) (P ++ blkL A (s.c : Int) s.f.reverse (blC (s.c : Int)) ++ _)
    by_cases hp : 0 < pdC (s.c : Int)
    · rw [if_pos hp, show A + 1024 - pdC (s.c : Int) = A + blC (s.c : Int) * szC (s.c : Int) by omega, show A + 1024 = (A + blC (s.c : Int) * szC (s.c : Int)) + pdC (s.c : Int) by omega]
      exact Til.snoc h1 (by omega) (fun j hj => by
        have := (d.p (A + blC (s.c : Int) * szC (s.c : Int) + j) (by omega) (by omega)).1
        rw [if_neg h0] at this
        exact this)
    · rw [if_neg hp, List.append_nil, show A + 1024 = A + blC (s.c : Int) * szC (s.c : Int) by omega]
      exact h1
theorem til_head {x : List Int} {S N : Nat} (hS : 7 ≤ S) (hN : 32 * S ≤ N) (h2 : N % 2 = 0) (hx : ∀ t, t < Lay.baseT S N → x.getD t 0 = Mem.kindT S N t) : Til x (Lay.baseT S N) (headR S N) := by
  have hk : ∀ t, t < Lay.baseT S N → x.getD t 0 = if t < 8 then 1 else if t < 128 then 2 else if t < 128 + 16 * S then 3 else if t < 128 + 16 * S + 4 * N then 4 else 8 := fun t ht => by
    rw [hx t ht]
    unfold Mem.kindT Lay.slT Lay.endT
    by_cases q1 : t < 8
    · rw [if_pos q1, if_pos q1]
    rw [if_neg q1, if_neg q1]
    by_cases q2 : t < 128
    · rw [if_pos q2, if_pos q2]
    rw [if_neg q2, if_neg q2]
    by_cases q3 : t < 128 + 16 * S
    · rw [if_pos q3, if_pos q3]
    rw [if_neg q3, if_neg q3]
    by_cases q4 : t < 128 + 16 * S + 4 * N
    · rw [if_pos q4, if_pos q4]
    rw [if_neg q4, if_neg q4, if_pos ht]
  have he : Lay.endT S N = 128 + 16 * S + 4 * N := rfl
  have hp := Lay.pad_two (s := S) h2
  have hbt : Lay.baseT S N = Lay.endT S N + Lay.padT S N := rfl
  have t0 : Til x 0 [] := .nil
  have t1 := Til.snoc (n := 8) (k := 1) t0 (by omega) (fun j hj => by rw [hk _ (by omega), if_pos (by omega)])
  have t2 := Til.snoc (n := 120) (k := 2) t1 (by omega) (fun j hj => by rw [hk _ (by omega), if_neg (by omega), if_pos (by omega)])
  have t3 := Til.snoc (n := 16 * S) (k := 3) t2 (by omega) (fun j hj => by rw [hk _ (by omega), if_neg (by omega), if_neg (by omega), if_pos (by omega)])
  have t4 := Til.snoc (n := 4 * N) (k := 4) t3 (by omega) (fun j hj => by rw [hk _ (by omega), if_neg (by omega), if_neg (by omega), if_neg (by omega), if_pos (by omega)])
  rcases hp with ⟨-, hp⟩ | ⟨-, hp⟩
  · have e : headR S N = [(((0 : Nat) : Int), ((8 : Nat) : Int), (1 : Int)), (((0 + 8 : Nat) : Int), ((120 : Nat) : Int), 2), (((0 + 8 + 120 : Nat) : Int), ((16 * S : Nat) : Int), 3), (((0 + 8 + 120 + 16 * S : Nat) : Int), ((4 * N : Nat) : Int), 4)] := by
      unfold headR Lay.runsT
      rw [if_pos hp]
      simp [Lay.slT]
    rw [e, show Lay.baseT S N = 0 + 8 + 120 + 16 * S + 4 * N by omega]
    exact t4
  · have t5 := Til.snoc (n := 8) (k := 8) t4 (by omega) (fun j hj => by rw [hk _ (by omega), if_neg (by omega), if_neg (by omega), if_neg (by omega), if_neg (by omega)])
    have e : headR S N = [(((0 : Nat) : Int), ((8 : Nat) : Int), (1 : Int)), (((0 + 8 : Nat) : Int), ((120 : Nat) : Int), 2), (((0 + 8 + 120 : Nat) : Int), ((16 * S : Nat) : Int), 3), (((0 + 8 + 120 + 16 * S : Nat) : Int), ((4 * N : Nat) : Int), 4), (((0 + 8 + 120 + 16 * S + 4 * N : Nat) : Int), ((8 : Nat) : Int), 8)] := by
      unfold headR Lay.runsT
      rw [if_neg (by omega)]
      simp [Lay.slT, Lay.endT]
    rw [e, show Lay.baseT S N = 0 + 8 + 120 + 16 * S + 4 * N + 8 by omega]
    exact t5
/-- All slabs' runs. -/
def allT (S N : Nat) (T : List Sl) : Nat → List RZ
  | 0 => []
  | j + 1 => allT S N T j ++ slT (aT S N j) (T.getD j Sl.zero)
/-- What the map of such a memory is: what its watch says. -/
theorem st_mapx {h : Hm} {S N : Nat} {l0 l : List Int} {T : List Sl} {W : World} (d : St h S N l0 l T W) : ∃ (C : Cf) (H : List Lis.Hx) (L : List Int) (lk : Int), C.s = S ∧ C.n = N ∧ (h.z = false → C.ft = 0) ∧ Sla.SM h C l W ∧ Sla.Sx l0 C l H L T ∧ Co S N H L T ∧ Mem.MemC h W (Sla.pV h) (C.mm l lk) ∧
    mapS S N l S = some (allT S N T S) ∧ Til C.x C.x.length (headR S N ++ allT S N T S) ∧ C.x.length ≤ 100000 := by
  obtain ⟨H, L, ⟨C, rfl, rfl, h3, h4, h5⟩, d2⟩ := d
  obtain ⟨b1, b2, b3, b4⟩ := Sla.ok_base h5.ok
  obtain ⟨q1, q2, q3, q4, q5⟩ := Lay.right_out h5.ok.right
  obtain ⟨ht, lk0, hm⟩ := id h4.m
  have key : ∀ j, j ≤ C.s → mapS C.s C.n l j = some (allT C.s C.n T j) ∧ Til C.x (Lay.baseT C.s C.n + 1024 * j) (headR C.s C.n ++ allT C.s C.n T j) := by
    intro j
    induction j with
    | zero => intro _; exact ⟨rfl, by rw [show allT C.s C.n T 0 = [] from rfl, List.append_nil, Nat.mul_zero, Nat.add_zero]; exact til_head (by omega) (by omega) (by omega) h5.xlow⟩
    | succ j ih =>
      intro hj
      obtain ⟨i1, i2⟩ := ih (by omega)
      have hh := h5.rep.head j (by omega)
      rw [d2.h j (by omega)] at hh
      simp only [] at hh
      have hsl := h5.sl j (by omega)
      have hr : slJ C.s C.n l j = some (slT (aT C.s C.n j) (T.getD j Sl.zero)) := by
        unfold slJ
        rw [Nat.add_zero] at hh
        rw [hh.1, hh.2.1, hh.2.2]
        exact slR_ok hsl (by unfold aT; omega) (by rw [h5.ll]; unfold aT; omega) (by rw [h5.ll]; omega) (d2.v j (by omega))
      refine ⟨?_, ?_⟩
      · rw [mapS, i1]
        simp only
        rw [hr]
        rfl
      · have := til_slab hsl (P := headR C.s C.n ++ allT C.s C.n T j) i2
        rw [List.append_assoc] at this
        rw [show Lay.baseT C.s C.n + 1024 * (j + 1) = aT C.s C.n j + 1024 by unfold aT; omega]
        exact this
  obtain ⟨k1, k2⟩ := key C.s (Nat.le_refl _)
  refine ⟨C, H, L, lk0, rfl, rfl, h3, h4, h5, d2, hm, k1, ?_, ?_⟩
  · show Til C.x C.x.length _
    rw [h5.xl, b3]
    exact k2
  · show C.x.length ≤ 100000
    rw [h5.xl]
    exact b4
theorem st_map {h : Hm} {S N : Nat} {l0 l : List Int} {T : List Sl} {W : World} (d : St h S N l0 l T W) : ∃ M : Mem.Mm, Mem.MemC h W (Sla.pV h) M ∧ Cls.Tab W ∧ M.s = (S : Int) ∧ M.n = (N : Int) ∧ M.l = l ∧ (h.z = false → M.ft = 0) ∧
    mapS S N l S = some (allT S N T S) ∧ Til M.x M.x.length (headR S N ++ allT S N T S) ∧ M.x.length ≤ 100000 := by
  obtain ⟨C, H, L, lk, rfl, rfl, h3, h4, h5, h6, h7, h8, h9, h10⟩ := st_mapx d
  exact ⟨_, h7, h4.m.1.c, rfl, rfl, rfl, h3, h8, h9, h10⟩
end Go.Proofs.YthnjpmgfikhemaaGreatDoor.Reg

namespace Go.Proofs.YthnjpmgfikhemaaGreatDoor.Reg
open Go.RowKit
set_option linter.unusedVariables false

end Go.Proofs.YthnjpmgfikhemaaGreatDoor.Reg

namespace Go.Proofs.YthnjpmgfikhemaaGreatDoor.Reg
open Go.RowKit
set_option linter.unusedVariables false

end Go.Proofs.YthnjpmgfikhemaaGreatDoor.Reg

namespace Go.Proofs.YthnjpmgfikhemaaGreatDoor.Reg
open Go.RowKit
set_option linter.unusedVariables false

end Go.Proofs.YthnjpmgfikhemaaGreatDoor.Reg

namespace Go.Proofs.YthnjpmgfikhemaaGreatDoor.Reg
open Go.RowKit
open Cls (szC blC pdC)
open Sla (pl aT lk Sl St Wd Ts pV)
open Mem (rd Hm blkM)
set_option linter.unusedVariables false

set_option maxRecDepth 100000 in
theorem sameZ_any (v1 v2 : Value) (P : List RZ) (w : World) (h1 : ZRow w v1 P) (h2 : ZRow w v2 P) :
    Calls Tryz.prog 20 #[v1, v2] w fun e w' => e = .returned (.bool true) ∧ ∃ m, w' = w.drewN m := by
  obtain ⟨a1, k1, rfl, q1, q2, g1⟩ := h1
  obtain ⟨a2, k2, rfl, -, -, g2⟩ := h2
  have G1 := Lib.hid g1
  have G2 := Lib.hid g2
  have hPl : (P.length : Int) ≤ 9223372036854775807 := by omega
  clear g1 g2
  go_enter Tryz.func20, Tryz.ntmps20
  go_wp2
  go_loopw [5] (fun i wr => ∃ k : Nat, k ≤ P.length ∧ i = .int .i64 k ∧ Hid (∃ m, wr = w.drewN m)) (fun i _ => P.length - (intOf i).toNat)
  case atStart => exact ⟨0, Nat.zero_le _, rfl, 0, rfl⟩
  case round =>
    obtain ⟨k, hk, rfl, HW⟩ := hrel
    by_cases hlt : k < P.length
    · have hlt1 : (k : Int) < (P.length : Int) := by omega
      have hlt0 : (0 : Int) ≤ (k : Int) := by omega
      have hbel := Lay.below_drawn (Below.refl w.heap.size w) HW.out
      obtain ⟨b1, o1, rfl, hb1, hc1⟩ := G1.out (by rintro rfl; simp at hlt)
      obtain ⟨b2, o2, rfl, hb2, hc2⟩ := G2.out (by rintro rfl; simp at hlt)
      have c1 : wr.cell? ⟨b1, o1 + k * 3, none⟩ = _ := (hbel.cell (p := ⟨b1, o1 + k * 3, none⟩) hb1).trans (hc1 k hlt 0 _ rfl)
      have c2 := (hbel.cell (p := ⟨b1, o1 + k * 3 + 1, none⟩) hb1).trans (hc1 k hlt 1 _ rfl)
      have c3 := (hbel.cell (p := ⟨b1, o1 + k * 3 + 2, none⟩) hb1).trans (hc1 k hlt 2 _ rfl)
      have c4 : wr.cell? ⟨b2, o2 + k * 3, none⟩ = _ := (hbel.cell (p := ⟨b2, o2 + k * 3, none⟩) hb2).trans (hc2 k hlt 0 _ rfl)
      have c5 := (hbel.cell (p := ⟨b2, o2 + k * 3 + 1, none⟩) hb2).trans (hc2 k hlt 1 _ rfl)
      have c6 := (hbel.cell (p := ⟨b2, o2 + k * 3 + 2, none⟩) hb2).trans (hc2 k hlt 2 _ rfl)
      obtain ⟨x, hx⟩ : ∃ x, x = P.getD k rz0 := ⟨_, rfl⟩
      rw [← hx] at c1 c2 c3 c4 c5 c6
      obtain ⟨x1, x2, x3⟩ := x
      simp only [] at c1 c2 c3 c4 c5 c6
      clear hc1 hc2 hx hbel
      go_wp2_with fail
      go_quiet (fail)
      go_wp2
      go_roundw
      case rel => exact ⟨k + 1, by omega, by go_num, Lay.drewN_more HW.out _⟩
      case measure => simp [intOf]; omega
    · obtain rfl : k = P.length := by omega
      go_wp2
      go_ret
      exact ⟨rfl, HW.out⟩

theorem zrow_of_row {w : World} {u : Value} {L : List Wat.Rn} (h : Wat.RowR w u L) : ZRow w u (L.map cstW) := by
  obtain ⟨a, cap, h1, h2, h3, h5⟩ := h
  refine ⟨a, cap, by rw [List.length_map]; exact h1, by rw [List.length_map]; exact h2, h3, fun hne => ?_⟩
  obtain ⟨b, off, e, hlt, hc⟩ := h5 (by rintro rfl; exact hne rfl)
  refine ⟨b, off, e, hlt, fun i hi j x hx => hc i (by rw [List.length_map] at hi; exact hi) j x ?_⟩
  rw [List.length_map] at hi
  have e2 : (L.map cstW).getD i rz0 = cstW (L.getD i (0, 0, 0)) := by simp [List.getD, hi]
  rw [e2] at hx
  exact hx
/-- The runs of such a memory, as its bytes tell them. -/
def stJ (S N : Nat) (T : List Sl) : List RZ := joinZ (headR S N ++ allT S N T S)
section
variable {h : Hm} {S N : Nat} {l0 l : List Int} {T : List Sl} {W : World}
theorem st_runs_any (d : St h S N l0 l T W) : Calls Tryz.prog 21 #[pV h] W fun e W' => ∃ u, e = .returned u ∧ ZRow W' u (stJ S N T) ∧ Below W.heap.size W W' := by
  obtain ⟨M, h1, h2, h3, h4, h5, h6, h7, h8, h9⟩ := st_map d
  obtain ⟨L, hL, hg⟩ := til_join h8 (by omega)
  rw [good_rl hg] at hL
  refine (Mem.runs_any h (pV h) M W h1).mono ?_
  rintro e W' ⟨u, rfl, hr, hb⟩
  refine ⟨u, rfl, ?_, hb⟩
  have := zrow_of_row hr
  rw [← hL] at this
  exact this
end
end Go.Proofs.YthnjpmgfikhemaaGreatDoor.Reg
