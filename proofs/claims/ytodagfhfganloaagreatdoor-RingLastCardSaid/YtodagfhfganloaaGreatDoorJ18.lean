/- Slabs within a statement: the memory, rows of places, what calls come to. Places of live blocks; rows of bytes between two bounds. Rows of one's own: what they are; a live block lies in its memory. Plain mathematics of SlabOnce: blocks that are live, each with its size and its bytes. Three rows of one's own, each in a block of its own; a row of bytes that is written. -/
import Derived.Test.YtodagfhfganloaaGreatDoorJ17
import Derived.Lib.SlBytesConst
namespace Go.Proofs.YtodagfhfganloaaGreatDoor.Sla
open Go.RowKit Num
open Mem (Mm MemC MRet Hm rd blkM)
open Lis (Cf LM LR Tb at_ Nx Pv Rep Hx valsN)
open Cls (szC blC pdC)
open Arn (wrL is64)
set_option linter.unusedVariables false

structure Wd (w0 : World) (h : Hm) (n S N : Nat) (l0 l : List Int) (T : List Sl) (W : World) : Prop where
  st : St h S N l0 l T W
  b : Below w0.heap.size w0 W
  kk : ∀ k, blkM h k → w0.heap.size ≤ k
  lo : Lo h n
  nn : n ≤ W.heap.size
  n0 : w0.heap.size ≤ n
  z : h.z = false
section
variable {w0 W W' : World} {h : Hm} {n S N : Nat} {l0 l l' : List Int} {T T' : List Sl}
theorem Wd.below (d : Wd w0 h n S N l0 l T W) (hb : Below W.heap.size W W') : Wd w0 h n S N l0 l T W' :=
  ⟨d.st.below hb, d.b.trans (hb.mono d.b.size), d.kk, d.lo, Nat.le_trans d.nn hb.size, d.n0, d.z⟩
theorem Wd.drew (d : Wd w0 h n S N l0 l T W) : Wd w0 h n S N l0 l T W.drew := d.below (Below.refl _ _).drew
theorem Wd.low (d : Wd w0 h n S N l0 l T W) (hb : Below n W W') : Wd w0 h n S N l0 l T W' :=
  ⟨d.st.stay hb d.lo, d.b.trans (hb.mono d.n0), d.kk, d.lo, Nat.le_trans d.nn hb.size, d.n0, d.z⟩
theorem Wd.fr (d : Wd w0 h n S N l0 l T W) (hs : St h S N l0 l' T' W') (hf : Fr W.heap.size (blkM h) W W') : Wd w0 h n S N l0 l' T' W' :=
  ⟨hs, d.b.trans (hf.toBelow d.b.size (fun k hk q => by have := d.kk k q; omega)), d.kk, d.lo, Nat.le_trans d.nn hf.size, d.n0, d.z⟩

/-! ### Rows of one's own -/
def RowG (k : IntKind) (n : Nat) (W : World) (u : Value) (X : List Int) : Prop := Row k W u X ∧ ∀ b, u.ownBlock = some b → n ≤ b
theorem RowG.below {k : IntKind} {u : Value} {X : List Int} (r : RowG k n W u X) (hb : Below W.heap.size W W') : RowG k n W' u X := ⟨r.1.mono hb (Nat.le_refl _), r.2⟩
theorem RowG.fr {k : IntKind} {u : Value} {X : List Int} (r : RowG k n W u X) (hf : Fr W.heap.size (blkM h) W W') (hl : Lo h n) : RowG k n W' u X := by
  refine ⟨r.1.fr hf (fun hX b hb => ⟨?_, fun q => by have := hl.m b q; have := r.2 b hb; omega⟩), r.2⟩
  obtain ⟨a, cap, rfl, -, -, -, q⟩ := r.1
  obtain ⟨b', off, rfl, hlt, -⟩ := q hX
  simp only [Value.ownBlock, Option.some.injEq] at hb
  omega
def OwnI (n : Nat) (W : World) (u : Value) (A : List Nat) : Prop := W.ownsRow n 3 1 u A.length (valsN A)
theorem OwnI.below {u : Value} {A : List Nat} (r : OwnI n W u A) (hb : Below W.heap.size W W') : OwnI n W' u A := ownsRow_stays r hb
theorem OwnI.fr {u : Value} {A : List Nat} (r : OwnI n W u A) (hf : Fr W.heap.size (blkM h) W W') (hl : Lo h n) : OwnI n W' u A := by
  refine ⟨r.1, ?_⟩
  rcases r.2 with hn | ⟨g, cap, cur, rfl, hb, hgg, rest⟩
  · exact .inl hn
  · exact .inr ⟨g, cap, cur, rfl, hb, (hf.block g (Array.getElem?_eq_some_iff.1 hgg).1 (fun q => by have := hl.m g q; omega)).trans hgg, rest⟩
theorem OwnI.row {u : Value} {A : List Nat} (r : OwnI n W u A) (hA : ∀ x ∈ A, x ≤ 100000) : RowG .i64 n W u (Lis.ints A) := ⟨Lis.rowN_of_owns r rfl hA, Lis.owns_base r⟩
theorem OwnI.nil (n : Nat) (W : World) : OwnI n W (.slice none 0 0) [] := World.ownsRow_nil _ _ _ _
theorem newrow_own {B : Nat} {u : Value} {X : List Int} (r : Arn.NewRow B W u X) (hX : X ≠ []) : RowG .u8 B W u X := by
  refine ⟨r.1, fun b hb => ?_⟩
  obtain ⟨a, cap, rfl, -, -, -, q⟩ := r.1
  obtain ⟨b', off, rfl, hlt, -⟩ := q hX
  simp only [Value.ownBlock, Option.some.injEq] at hb
  have := (r.2 b' off _ _ rfl hX).1
  omega
theorem RowG.wide {k : IntKind} {m : Nat} {u : Value} {X : List Int} (r : RowG k m W u X) (h : n ≤ m) : RowG k n W u X := ⟨r.1, fun b hb => Nat.le_trans h (r.2 b hb)⟩

/-! ### What calls come to -/
theorem Wd.take (d : Wd w0 h n S N l0 l T W) (c : Int) : Calls Tryz.prog 14 #[pV h, .int .i64 c] W fun e W' =>
    (∃ l' x er, er ≠ 0 ∧ e = .returned (.tuple #[.int .i64 x, .int .i64 er]) ∧ Wd w0 h n S N l0 l' T W' ∧ Fr W.heap.size (blkM h) W W' ∧ Kp S N T T l l') ∨
    (∃ l' T' j k, e = .returned (.tuple #[.int .i64 (pl (aT S N j) c k : Int), .int .i64 0]) ∧ Tkn S N T T' c j k ∧ Wd w0 h n S N l0 l' T' W' ∧ Fr W.heap.size (blkM h) W W' ∧ Kp S N T T' l l' ∧ ∀ i, i < szC c → l'.getD (pl (aT S N j) c k + i) 0 = 0) := by
  refine (d.st.take c).mono ?_
  rintro e W' ⟨l', he, hs, hf, hk, hz⟩
  rcases tk_spec (N := N) d.st.tk c with ⟨h1, h2⟩ | ⟨h1, j, k, h2, h3⟩
  · rw [h2] at hs hk
    exact .inl ⟨l', _, _, h1, he, d.fr hs hf, hf, hk⟩
  · refine .inr ⟨l', _, j, k, ?_, h3, d.fr hs hf, hf, hk, fun i hi => ?_⟩
    · rw [he, h1, h2]
    · have := hz h1 i hi
      rw [h2, Int.toNat_natCast] at this
      exact this
theorem Wd.write (d : Wd w0 h n S N l0 l T W) {j k : Nat} (hj : j < S) (hk : k ∈ (T.getD j Sl.zero).v) {u : Value} {X : List Int} (hX : X.length ≤ szC (T.getD j Sl.zero).c) (hu : Row .u8 W u X) (hub : ∀ b, u.ownBlock = some b → n ≤ b) :
    Calls Tryz.prog 29 #[pV h, .int .i64 (pl (aT S N j) (T.getD j Sl.zero).c k : Int), u, .int .i64 5] W fun e W' => e = .returned (.bool true) ∧ Wd w0 h n S N l0 (wrL l (pl (aT S N j) (T.getD j Sl.zero).c k) X) T W' ∧ Fr W.heap.size (blkM h) W W' := by
  refine (d.st.write hj hk hX hu (fun b hb q => by have := hub b hb; have := d.lo.m b q; omega)).mono ?_
  rintro e W' ⟨rfl, hs, hf⟩
  exact ⟨rfl, d.fr hs hf, hf⟩
theorem lv_bd (d : St h S N l0 l T W) {x : Nat} (hx : Lv S N T x) : x ≤ 100000 := by
  obtain ⟨j, k, hj, hk, rfl⟩ := hx
  obtain ⟨H, L, ⟨C, rfl, rfl, h3, h4, h5⟩, d2⟩ := d
  have := pl_bd (S := 0) (N := 0) h5.ok hj (mem_lt hk).1
  omega
end
/-- The rows' length, of a value. -/
def slLen : Value → Nat
  | .slice _ n _ => n
  | _ => 0
/-! ### One of a row is left out -/
theorem OwnI.len {B : Nat} {W : World} {v : Value} {A : List Nat} (h : OwnI B W v A) : slLen v = A.length := by
  rcases h.2 with ⟨rfl, h0⟩ | ⟨g, cap, cur, rfl, -⟩
  · exact h0.symm
  · rfl
end Go.Proofs.YtodagfhfganloaaGreatDoor.Sla

namespace Go.Proofs.YtodagfhfganloaaGreatDoor.Sla
open Go.RowKit Num
open Mem (Mm MemC MRet Hm rd blkM)
open Lis (Cf LM LR Tb at_ Nx Pv Rep Hx valsN)
open Cls (szC blC pdC)
open Arn (wrL is64)
set_option linter.unusedVariables false

/-- All places of live blocks, each once. -/
structure AI (S N : Nat) (T : List Sl) (A : List Nat) : Prop where
  nd : A.Nodup
  mem : ∀ x, x ∈ A ↔ Lv S N T x
theorem AI.start (S N : Nat) : AI S N (List.replicate S Sl.zero) [] := by
  refine ⟨List.nodup_nil, fun x => ⟨fun h => (by cases h), ?_⟩⟩
  rintro ⟨j, k, hj, hk, -⟩
  rw [getD_rep _ _ _ hj, zero_v (s := Sl.zero) rfl] at hk
  cases hk
theorem AI.take {S N : Nat} {T T' : List Sl} {A : List Nat} {c : Int} {j k : Nat} (h : AI S N T A) (hT : Tk S T) (t : Tkn S N T T' c j k) : AI S N T' (A ++ [pl (aT S N j) c k]) := by
  refine ⟨?_, fun x => ?_⟩
  · rw [List.nodup_append]
    refine ⟨h.nd, by simp, fun x hx y hy => ?_⟩
    simp only [List.mem_singleton] at hy
    rintro rfl
    subst hy
    exact t.fresh ((h.mem _).1 hx)
  · rw [t.lv hT, List.mem_append, h.mem, List.mem_singleton]
    exact Or.comm
theorem AI.at {S N : Nat} {T : List Sl} {A : List Nat} (h : AI S N T A) {i : Nat} (hi : i < A.length) : Lv S N T (A.getD i 0) := by
  rw [← h.mem, List.getD, List.getElem?_eq_getElem hi, Option.getD_some]
  exact List.getElem_mem hi
theorem AI.bd {w0 W : World} {h : Hm} {n S N : Nat} {l0 l : List Int} {T : List Sl} {A : List Nat} (k : AI S N T A) (d : Wd w0 h n S N l0 l T W) : ∀ x ∈ A, x ≤ 100000 := fun x hx => lv_bd d.st ((k.mem x).1 hx)
/-- A row in a block between two bounds. -/
structure RowM (k : IntKind) (n m : Nat) (W : World) (u : Value) (X : List Int) : Prop where
  r : Row k W u X
  lo : ∀ b, u.ownBlock = some b → n ≤ b
  hi : ∀ b, u.ownBlock = some b → b < m
theorem RowM.low {k : IntKind} {n m : Nat} {W W' : World} {u : Value} {X : List Int} (d : RowM k n m W u X) (hb : Below m W W') : RowM k n m W' u X := ⟨d.r.fr (Fr.of_below (S := fun _ => False) hb) (fun _ b q => ⟨d.hi b q, fun q => q⟩), d.lo, d.hi⟩
theorem RowM.fr {h : Hm} {k : IntKind} {n m : Nat} {W W' : World} {u : Value} {X : List Int} (d : RowM k n m W u X) (hf : Fr W.heap.size (blkM h) W W') (hl : Lo h n) (hm : m ≤ W.heap.size) : RowM k n m W' u X :=
  ⟨d.r.fr hf (fun _ b q => ⟨Nat.lt_of_lt_of_le (d.hi b q) hm, fun z => by have := hl.m b z; have := d.lo b q; omega⟩), d.lo, d.hi⟩
theorem OwnI.up {n m : Nat} {h : Hm} (hl : Lo h n) (hm : n ≤ m) : Lo h m := hl.wide hm
theorem neg_lt_self' (k : Nat) (h : -(k : Int) < 0) : -(k : Int) < (k : Int) := by omega
theorem not_lt_neg (k : Nat) : ¬ (k : Int) < -(k : Int) := by omega
theorem w_in (k : Nat) (h : k < 1000) : wrap64 (k : Int) = (k : Int) := IntWalk.wrap64_in _ (by omega)
theorem w_neg (k : Nat) (h : k < 1000) : wrap64 (-(k : Int)) = -(k : Int) := IntWalk.wrap64_in _ (by omega)
end Go.Proofs.YtodagfhfganloaaGreatDoor.Sla

namespace Go.Proofs.YtodagfhfganloaaGreatDoor.Sla
open Go.RowKit Num
open Mem (Mm MemC MRet Hm rd blkM)
open Lis (Cf LM LR Tb at_ Nx Pv Rep Hx valsN)
open Cls (szC blC pdC)
open Arn (wrL is64)
set_option linter.unusedVariables false

section
variable {W W' : World} {u u' : Value} {A A' : List Nat} {x : Nat}
theorem OwnI.shape {m : Nat} (d : OwnI m W u A) : ∃ p c, u = .slice p A.length c ∧ A.length ≤ c ∧ c ≤ 9223372036854775807 := by
  rcases d.2 with ⟨rfl, h0⟩ | ⟨g, cap, cur, rfl, hg, hgg, hc1, hc2, rest⟩
  · rw [h0]; exact ⟨none, 0, rfl, Nat.le_refl _, by omega⟩
  · exact ⟨_, _, rfl, hc1, by unfold maxLen at hc2; omega⟩
theorem OwnI.cells {m : Nat} {p : Option Addr} {k c : Nat} (d : OwnI m W (.slice p k c) A) (hA : A ≠ []) : ∃ g, p = some ⟨g, 0, none⟩ ∧ ∀ i, i < A.length → W.cell? ⟨g, i, none⟩ = some (.int .i64 ((A.getD i 0 : Nat) : Int)) := by
  rcases d.2 with ⟨h1, h0⟩ | ⟨g, cap, cur, h1, hg, hgg, hc1, hc2, hc3, hc4⟩
  · exact absurd (List.length_eq_zero_iff.1 h0) hA
  · injection h1 with h1 _ _
    subst h1
    refine ⟨g, rfl, fun i hi => ?_⟩
    rw [cell_block hgg]
    have e : (valsN A)[i]? = some (.int .i64 ((A.getD i 0 : Nat) : Int)) := by
      unfold valsN List.getD
      rw [List.getElem?_map, List.getElem?_eq_getElem hi]
      rfl
    rw [← hc4, List.getElem?_take_of_lt (by omega)] at e
    rw [← e, Array.getElem?_toList]
theorem OwnI.snoc {n k : Nat} {u : Value} (h : W.ownsRow n 3 1 u (k + 1) (valsN A ++ [.int .i64 (x : Int)])) (hk : k = A.length) : OwnI n W u (A ++ [x]) := by
  subst hk
  unfold OwnI
  rw [Lis.valsN_snoc, List.length_append]
  exact h
end
end Go.Proofs.YtodagfhfganloaaGreatDoor.Sla

namespace Go.Proofs.YtodagfhfganloaaGreatDoor.Sla
open Go.RowKit Num
open Cls (szC blC pdC)
open Mem (Mm MemC MRet Hm rd blkM)
open Arn (wrL is64)
set_option linter.unusedVariables false

/-- One of a list is left out. -/
def del {α : Type} (A : List α) (i : Nat) : List α := A.take i ++ A.drop (i + 1)
theorem del_len {α : Type} (A : List α) {i : Nat} (h : i < A.length) : (del A i).length + 1 = A.length := by
  unfold del
  rw [List.length_append, List.length_take, List.length_drop]
  omega
theorem del_get (A : List Nat) {i p : Nat} (h : i < A.length) (hp : p < (del A i).length) : (del A i).getD p 0 = A.getD (if p < i then p else p + 1) 0 := by
  have := del_len A h
  unfold del List.getD
  rw [List.getElem?_append, List.length_take, Nat.min_eq_left (by omega)]
  split
  · rw [List.getElem?_take_of_lt (by omega)]
  · rw [List.getElem?_drop, show i + 1 + (p - i) = p + 1 by omega]
theorem add_get (A : List Nat) (x p : Nat) : (A ++ [x]).getD p 0 = if p < A.length then A.getD p 0 else if p = A.length then x else 0 := by
  unfold List.getD
  rw [List.getElem?_append]
  split
  · rfl
  · split
    · rename_i h1 h2; subst h2; simp
    · rename_i h1 h2
      rw [List.getElem?_eq_none (by simp; omega)]
      rfl
/-- Two blocks at two places lie apart. -/
theorem blk_apart {S N : Nat} {T : List Sl} {j j' k k' : Nat} (hk : k < blC (T.getD j Sl.zero).c) (hk' : k' < blC (T.getD j' Sl.zero).c)
    (hne : ¬ (j = j' ∧ k = k')) : pl (aT S N j) (T.getD j Sl.zero).c k + szC (T.getD j Sl.zero).c ≤ pl (aT S N j') (T.getD j' Sl.zero).c k' ∨ pl (aT S N j') (T.getD j' Sl.zero).c k' + szC (T.getD j' Sl.zero).c ≤ pl (aT S N j) (T.getD j Sl.zero).c k := by
  have h1 := bl_in hk
  have h2 := bl_in hk'
  rcases Nat.lt_trichotomy j j' with q | q | q
  · left; unfold pl aT; omega
  · subst q
    rcases Nat.lt_trichotomy k k' with r | r | r
    · have := bl_apart ((T.getD j Sl.zero).c : Int) r
      left; unfold pl; omega
    · exact absurd ⟨rfl, r⟩ hne
    · have := bl_apart ((T.getD j Sl.zero).c : Int) r
      right; unfold pl; omega
  · right; unfold pl aT; omega
/-- A block that is live, of so many bytes, each of them the mark's. -/
structure El (N : Nat) (T : List Sl) (l : List Int) (a z m : Nat) (j k : Nat) : Prop where
  hj : j < 7
  hk : k ∈ (T.getD j Sl.zero).v
  ha : a = pl (aT 7 N j) (T.getD j Sl.zero).c k
  hz : z = szC (T.getD j Sl.zero).c
  hl : ∀ t, t < z → l.getD (a + t) 0 = ((m % 256 : Nat) : Int)
structure OI (N : Nat) (T : List Sl) (l : List Int) (A Z M : List Nat) : Prop where
  ai : AI 7 N T A
  zl : Z.length = A.length
  ml : M.length = A.length
  el : ∀ i, i < A.length → ∃ j k, El N T l (A.getD i 0) (Z.getD i 0) (M.getD i 0) j k
section
variable {N : Nat} {T T' : List Sl} {l l' : List Int} {A Z M : List Nat}
theorem OI.start (l : List Int) : OI N (List.replicate 7 Sl.zero) l [] [] [] := ⟨AI.start _ _, rfl, rfl, fun i hi => absurd hi (Nat.not_lt_zero _)⟩
theorem OI.same (h : OI N T l A Z M) (hk : Kp 7 N T T l l') : OI N T l' A Z M := by
  refine ⟨h.ai, h.zl, h.ml, fun i hi => ?_⟩
  obtain ⟨j, k, e⟩ := h.el i hi
  refine ⟨j, k, e.hj, e.hk, e.ha, e.hz, fun t ht => ?_⟩
  rw [← e.hl t ht, e.ha]
  exact hk j k e.hj e.hk e.hk rfl t (by rw [← e.hz]; exact ht)
theorem OI.take (h : OI N T l A Z M) (hT : Tk 7 T) {c : Int} {j k : Nat} (t : Tkn 7 N T T' c j k) (hk : Kp 7 N T T' l l') {n : Nat} (hn : n = szC c) {X : List Int} {m : Nat} (hX : X.length = n) (hXm : ∀ i, i < n → X.getD i 0 = ((m % 256 : Nat) : Int))
    (hlen : pl (aT 7 N j) c k + n ≤ l'.length) : OI N T' (wrL l' (pl (aT 7 N j) c k) X) (A ++ [pl (aT 7 N j) c k]) (Z ++ [n]) (M ++ [m]) := by
  have hz := h.zl
  have hm := h.ml
  refine ⟨h.ai.take hT t, by simp [hz], by simp [hm], fun i hi => ?_⟩
  rw [List.length_append, List.length_singleton] at hi
  rw [add_get, add_get, add_get, hz, hm]
  have hkj : k ∈ (T'.getD j Sl.zero).v := (t.mem k).2 (.inl rfl)
  by_cases hlt : i < A.length
  · rw [if_pos hlt, if_pos hlt, if_pos hlt]
    obtain ⟨j', k', e⟩ := h.el i hlt
    have hcc : k' ∈ (T'.getD j' Sl.zero).v ∧ (T'.getD j' Sl.zero).c = (T.getD j' Sl.zero).c := by
      by_cases hjj : j' = j
      · subst hjj
        refine ⟨(t.mem k').2 (.inr e.hk), ?_⟩
        rcases t.old with q | q
        · have := t.cls; omega
        · have := e.hk; rw [zero_v q] at this; cases this
      · rw [t.oth j' hjj]
        exact ⟨e.hk, rfl⟩
    refine ⟨j', k', e.hj, hcc.1, by rw [hcc.2]; exact e.ha, by rw [hcc.2]; exact e.hz, fun s hs => ?_⟩
    have hne : ¬ (j = j' ∧ k = k') := by
      rintro ⟨rfl, rfl⟩
      exact t.new e.hk
    have hap := blk_apart (S := 7) (N := N) (mem_lt hkj).1 (mem_lt hcc.1).1 hne
    rw [t.cls, hcc.2, ← e.ha, ← e.hz, ← hn] at hap
    rw [Mem.wr_get _ _ _ _ (by rw [hX]; exact hlen), if_neg (by rw [hX]; omega), ← e.hl s hs, e.ha]
    exact hk j' k' e.hj e.hk hcc.1 hcc.2 s (by rw [← e.hz]; exact hs)
  · have hi' : i = A.length := by omega
    subst hi'
    rw [if_neg hlt, if_neg hlt, if_neg hlt, if_pos rfl, if_pos rfl, if_pos rfl]
    refine ⟨j, k, t.hj, hkj, by rw [t.cls], by rw [t.cls]; exact hn, fun s hs => ?_⟩
    rw [Mem.wr_get _ _ _ _ (by rw [hX]; exact hlen), if_pos (by rw [hX]; omega), show pl (aT 7 N j) c k + s - pl (aT 7 N j) c k = s by omega]
    exact hXm s hs
/-- The new block lies apart from all others. -/
theorem OI.apart (h : OI N T l A Z M) {c : Int} {j k : Nat} (t : Tkn 7 N T T' c j k) {i : Nat} (hi : i < A.length) :
    ¬ (pl (aT 7 N j) c k < A.getD i 0 + Z.getD i 0 ∧ A.getD i 0 < pl (aT 7 N j) c k + szC c) := by
  obtain ⟨j', k', e⟩ := h.el i hi
  have hkj : k ∈ (T'.getD j Sl.zero).v := (t.mem k).2 (.inl rfl)
  have hcc : k' ∈ (T'.getD j' Sl.zero).v ∧ (T'.getD j' Sl.zero).c = (T.getD j' Sl.zero).c := by
    by_cases hjj : j' = j
    · subst hjj
      refine ⟨(t.mem k').2 (.inr e.hk), ?_⟩
      rcases t.old with q | q
      · have := t.cls; omega
      · have := e.hk; rw [zero_v q] at this; cases this
    · rw [t.oth j' hjj]
      exact ⟨e.hk, rfl⟩
  have hne : ¬ (j = j' ∧ k = k') := by
    rintro ⟨rfl, rfl⟩
    exact t.new e.hk
  have hap := blk_apart (S := 7) (N := N) (mem_lt hkj).1 (mem_lt hcc.1).1 hne
  rw [t.cls, hcc.2, ← e.ha, ← e.hz] at hap
  omega
theorem El.bytes {a z m j k : Nat} (e : El N T l a z m j k) (hlen : a + z ≤ l.length) : (l.drop a).take z = List.replicate z ((m % 256 : Nat) : Int) := by
  apply List.ext_getElem?
  intro i
  by_cases hi : i < z
  · rw [List.getElem?_take_of_lt hi, List.getElem?_drop]
    have := e.hl i hi
    unfold List.getD at this
    rw [List.getElem?_eq_getElem (by omega), Option.getD_some] at this
    rw [List.getElem?_eq_getElem (by omega), this]
    simp [hi]
  · rw [List.getElem?_eq_none (by rw [List.length_take]; omega), List.getElem?_eq_none (by simp; omega)]
theorem zeros_bytes {a z : Nat} (h : ∀ i, i < z → l.getD (a + i) 0 = 0) (hlen : a + z ≤ l.length) : (l.drop a).take z = List.replicate z 0 := by
  apply List.ext_getElem?
  intro i
  by_cases hi : i < z
  · rw [List.getElem?_take_of_lt hi, List.getElem?_drop]
    have := h i hi
    unfold List.getD at this
    rw [List.getElem?_eq_getElem (by omega), Option.getD_some] at this
    rw [List.getElem?_eq_getElem (by omega), this]
    simp [hi]
  · rw [List.getElem?_eq_none (by rw [List.length_take]; omega), List.getElem?_eq_none (by simp; omega)]
end
end Go.Proofs.YtodagfhfganloaaGreatDoor.Sla

namespace Go.Proofs.YtodagfhfganloaaGreatDoor.Sla
open Go.RowKit Num
open Mem (Mm MemC MRet Hm rd blkM)
open Lis (Cf LM LR Tb at_ Nx Pv Rep Hx valsN)
open Cls (szC blC pdC)
open Arn (wrL is64)
set_option linter.unusedVariables false

section
variable {n : Nat} {W W' : World} {u u' : Value} {A A' : List Nat}
theorem OwnI.grown {r : Option Nat} (d : OwnI n W u A) (hg : W.grownBy W' r) (hne : ∀ b, u.ownBlock = some b → some b ≠ r) : OwnI n W' u A := by
  refine ⟨d.1, ?_⟩
  rcases d.2 with hn | ⟨g, cap, cur, rfl, hb, hgg, rest⟩
  · exact .inl hn
  · exact .inr ⟨g, cap, cur, rfl, hb, (hg.block g (Array.getElem?_eq_some_iff.1 hgg).1 (hne g rfl)).trans hgg, rest⟩
theorem OwnI.lower {m : Nat} (d : OwnI m W u A) (h : n ≤ m) : OwnI n W u A := by
  refine ⟨d.1, ?_⟩
  rcases d.2 with hn | ⟨g, cap, cur, rfl, hb, rest⟩
  · exact .inl hn
  · exact .inr ⟨g, cap, cur, rfl, by omega, rest⟩
theorem OwnI.base {m : Nat} (d : OwnI m W u A) : ∀ b, u.ownBlock = some b → m ≤ b := by
  intro b hb
  rcases d.2 with ⟨rfl, -⟩ | ⟨g, cap, cur, rfl, hg, rest⟩
  · cases hb
  · cases hb; exact hg
theorem OwnI.lt {m : Nat} (d : OwnI m W u A) : ∀ b, u.ownBlock = some b → b < W.heap.size := by
  intro b hb
  rcases d.2 with ⟨rfl, -⟩ | ⟨g, cap, cur, rfl, hg, hgg, rest⟩
  · cases hb
  · cases hb; exact (Array.getElem?_eq_some_iff.1 hgg).1
theorem OwnI.cell_at {m g k c i : Nat} (d : OwnI m W (.slice (some ⟨g, 0, none⟩) k c) A) (hi : i < A.length) : W.cell? ⟨g, i, none⟩ = some (.int .i64 ((A.getD i 0 : Nat) : Int)) := by
  obtain ⟨g', e, hc⟩ := d.cells (by rintro rfl; simp at hi)
  injection e with e
  injection e with e
  subst e
  exact hc i hi
/-- Two rows in two blocks. -/
def Dj (u v : Value) : Prop := ∀ b, u.ownBlock = some b → v.ownBlock ≠ some b
theorem Dj.symm {u v : Value} (h : Dj u v) : Dj v u := fun b h1 h2 => h b h2 h1
theorem Dj.nil (v : Value) : Dj (.slice none 0 0) v := fun b hb => by cases hb
/-- What a row is behind a step that touches it alone. -/
def At1 (B : Nat) (u u' : Value) : Prop := u'.ownBlock = u.ownBlock ∨ ∀ b, u'.ownBlock = some b → B ≤ b
theorem Dj.step {v : Value} (h : Dj u v) (hv : ∀ b, v.ownBlock = some b → b < W.heap.size) (ha : At1 W.heap.size u u') : Dj u' v := by
  rcases ha with ha | ha
  · intro b hb hv2
    rw [ha] at hb
    exact h b hb hv2
  · intro b hb hv2
    have := ha b hb
    have := hv b hv2
    omega
structure Ow3 (n : Nat) (W : World) (a z m : Value) (A Z M : List Nat) : Prop where
  ra : OwnI n W a A
  rz : OwnI n W z Z
  rm : OwnI n W m M
  az : Dj a z
  am : Dj a m
  zm : Dj z m
variable {a a' z z' m m' : Value} {Z Z' M M' : List Nat}
theorem Ow3.nil (n : Nat) (W : World) : Ow3 n W (.slice none 0 0) (.slice none 0 0) (.slice none 0 0) [] [] [] := ⟨OwnI.nil _ _, OwnI.nil _ _, OwnI.nil _ _, Dj.nil _, Dj.nil _, Dj.nil _⟩
theorem Ow3.below (d : Ow3 n W a z m A Z M) (hb : Below W.heap.size W W') : Ow3 n W' a z m A Z M := ⟨d.ra.below hb, d.rz.below hb, d.rm.below hb, d.az, d.am, d.zm⟩
theorem Ow3.fr {h : Hm} (d : Ow3 n W a z m A Z M) (hf : Fr W.heap.size (blkM h) W W') (hl : Lo h n) : Ow3 n W' a z m A Z M := ⟨d.ra.fr hf hl, d.rz.fr hf hl, d.rm.fr hf hl, d.az, d.am, d.zm⟩
theorem Ow3.setA (d : Ow3 n W a z m A Z M) (hg : W.grownBy W' a.ownBlock) (ho : OwnI n W' a' A') (ha : At1 W.heap.size a a') : Ow3 n W' a' z m A' Z M :=
  ⟨ho, d.rz.grown hg (fun b hb q => d.az b q.symm hb), d.rm.grown hg (fun b hb q => d.am b q.symm hb), d.az.step d.rz.lt ha, d.am.step d.rm.lt ha, d.zm⟩
theorem Ow3.setZ (d : Ow3 n W a z m A Z M) (hg : W.grownBy W' z.ownBlock) (ho : OwnI n W' z' Z') (ha : At1 W.heap.size z z') : Ow3 n W' a z' m A Z' M :=
  ⟨d.ra.grown hg (fun b hb q => d.az b hb q.symm), ho, d.rm.grown hg (fun b hb q => d.zm b q.symm hb), (d.az.symm.step d.ra.lt ha).symm, d.am, d.zm.step d.rm.lt ha⟩
theorem Ow3.grown {g : Nat} (d : Ow3 n W a z m A Z M) (hg : W.grownBy W' (some g)) (h : a.ownBlock ≠ some g ∧ z.ownBlock ≠ some g ∧ m.ownBlock ≠ some g) : Ow3 n W' a z m A Z M :=
  ⟨d.ra.grown hg (fun b hb q => h.1 (by rw [hb, q])), d.rz.grown hg (fun b hb q => h.2.1 (by rw [hb, q])), d.rm.grown hg (fun b hb q => h.2.2 (by rw [hb, q])), d.az, d.am, d.zm⟩
theorem grown_below {r : Option Nat} (hb : Below W.heap.size W W') : W.grownBy W' r := ⟨hb.os, hb.tape, hb.output, hb.size, fun k hk _ => hb.block k hk⟩
theorem below_grown {r : Option Nat} {B : Nat} (hg : W.grownBy W' r) (hB : B ≤ W.heap.size) (hr : ∀ k, r = some k → B ≤ k) : Below B W W' := (Below.refl B W).grown hg hB hr

/-! ### A row of bytes that is written -/
structure BRow (w : World) (b off cap : Nat) (X : List Int) : Prop where
  r : Row .u8 w (.slice (some ⟨b, off, none⟩) X.length cap) X
  f : ∀ i, i < X.length → w.frozen? ⟨b, off + i, none⟩ = false
  lt : b < w.heap.size
theorem BRow.cell {b off cap : Nat} {X : List Int} (h : BRow W b off cap X) {i : Nat} (hi : i < X.length) : W.cell? ⟨b, off + i, none⟩ = some (.int .u8 (X.getD i 0)) := by
  obtain ⟨p, c, e, h2, h3, h4, h5⟩ := h.r
  injection e with e1 e2 e3
  obtain ⟨b', off', rfl, hlt, hc⟩ := h5 (by rintro rfl; simp at hi)
  injection e1 with e1
  injection e1 with e1 e2
  subst e1 e2
  exact hc i hi
theorem BRow.set {b off cap : Nat} {X : List Int} (h : BRow W b off cap X) {i : Nat} {y : Int} (hi : i < X.length) (h0 : 0 ≤ y) (h1 : y < 256) : BRow (W.setCell ⟨b, off + i, none⟩ (.int .u8 y)) b off cap (X.set i y) := by
  have hcell := fun j (hj : j < X.length) => h.cell hj
  obtain ⟨p, c, e, h2, h3, h4, h5⟩ := h.r
  injection e with e1 e2 e3
  subst e3
  have hlt := h.lt
  refine ⟨⟨some ⟨b, off, none⟩, cap, by rw [List.length_set], by rw [List.length_set]; exact h2, h3, fun j hj => ?_, fun _ => ⟨b, off, rfl, by simpa using hlt, fun j hj => ?_⟩⟩, fun j hj => ?_, by simpa using hlt⟩
  · rw [List.length_set] at hj
    by_cases q : j = i
    · subst q
      have : (X.set j y).getD j 0 = y := by simp [List.getD, hj]
      rw [this]
      simp [Lit.wf, IntKind.min, IntKind.max, IntKind.signed, IntKind.bits]
      omega
    · have : (X.set i y).getD j 0 = X.getD j 0 := by simp [List.getD, Ne.symm q]
      rw [this]
      exact h4 j hj
  · rw [List.length_set] at hj
    by_cases q : j = i
    · subst q
      rw [World.cell?_setCell_same' _ _ _ (by rw [hcell j hj]; rfl)]
      simp [List.getD, hj]
    · rw [World.cell?_setCell_other _ _ _ _ (by intro e; injection e; omega)]
      have : (X.set i y).getD j 0 = X.getD j 0 := by simp [List.getD, Ne.symm q]
      rw [this]
      exact hcell j hj
  · rw [List.length_set] at hj
    rw [World.frozen?_setCell]
    exact h.f j hj
theorem BRow.grown {b off cap : Nat} {X : List Int} {r : Option Nat} (h : BRow W b off cap X) (hg : W.grownBy W' r) (hne : some b ≠ r) : BRow W' b off cap X := by
  have hblk := hg.block b h.lt hne
  refine ⟨h.r.grown hg (fun _ => hne), fun i hi => ?_, Nat.lt_of_lt_of_le h.lt hg.size⟩
  rw [World.frozen?_of_block (w := W) hblk]
  exact h.f i hi
theorem grown_trans {W2 : World} {r : Option Nat} (h : W.grownBy W' r) (k : W'.grownBy W2 r) : W.grownBy W2 r :=
  ⟨k.os.trans h.os, k.tape.trans h.tape, k.output.trans h.output, Nat.le_trans h.size k.size, fun i hi hr => (k.block i (Nat.lt_of_lt_of_le hi h.size) hr).trans (h.block i hi hr)⟩
theorem Wd.grown {w0 : World} {h : Hm} {k S N : Nat} {l0 l : List Int} {T : List Sl} {r : Option Nat} (d : Wd w0 h k S N l0 l T W) (hg : W.grownBy W' r) (hr : ∀ b, r = some b → k ≤ b) : Wd w0 h k S N l0 l T W' := d.low (below_grown hg d.nn hr)
end
/-! ### What is appended -/
section
variable {n : Nat} {W W' : World} {a a' z m : Value} {A Z M : List Nat} {x : Nat} {o : Obj}
theorem grown_alloc {r : Option Nat} (hg : (W.alloc o).grownBy W' r) : W.grownBy W' r := grown_trans (grown_below (below_made W o)) hg
theorem at1_of (hat : a'.ownBlock = a.ownBlock ∨ a'.ownBlock = some (W.heap.size + 1)) : At1 W.heap.size a a' := by
  rcases hat with q | q
  · exact .inl q
  · refine .inr fun b hb => ?_
    rw [q] at hb
    injection hb with hb
    omega
end
/-! ### A box of an act -/
def Bx (n g : Nat) (a b : Int) (W : World) : Prop := W.heap[g]? = some (.cells #[.int .i64 a, .int .i64 b] 34 (0, 0)) ∧ n ≤ g
theorem Bx.fr {n g : Nat} {a b : Int} {W W' : World} {h : Hm} (d : Bx n g a b W) (hf : Fr W.heap.size (blkM h) W W') (hl : Lo h n) : Bx n g a b W' :=
  ⟨(hf.block g (Array.getElem?_eq_some_iff.1 d.1).1 (fun q => by have := hl.m g q; have := d.2; omega)).trans d.1, d.2⟩
theorem Bx.cells {n g : Nat} {a b : Int} {W : World} (d : Bx n g a b W) : W.cell? ⟨g, 0, none⟩ = some (.int .i64 a) ∧ W.cell? ⟨g, 1, none⟩ = some (.int .i64 b) :=
  ⟨(cell_block d.1 0).trans rfl, (cell_block d.1 1).trans rfl⟩
theorem Bx.new {n : Nat} {a b : Int} {W : World} (hn : n ≤ W.heap.size) : Bx n W.heap.size a b (W.alloc (.cells #[.int .i64 a, .int .i64 b] 34)) := ⟨heap_alloc_new _ _, hn⟩
end Go.Proofs.YtodagfhfganloaaGreatDoor.Sla
