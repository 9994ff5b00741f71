/- Slabs within a statement: the memory, rows of places, what calls come to. Places of live blocks; rows of bytes between two bounds. Rows of one's own: what they are; a live block lies in its memory. Plain mathematics of SlabOnce: blocks that are live, each with its size and its bytes. -/
import Derived.Test.YtcpfnmphcndmjaaGreatDoorJ16
import Derived.Lib.SlBytesConst
namespace Go.Proofs.YtcpfnmphcndmjaaGreatDoor.Sla
open Go.RowKit Num
open Mem (Mm MemC MRet Hm rd blkM)
open Lis (Cf LM LR Tb at_ Nx Pv Rep Hx valsN)
open Cls (szC blC pdC)
open Arn (wrL is64)
set_option linter.unusedVariables false

structure Wd (w0 : World) (h : Hm) (n S N : Nat) (l0 l : List Int) (T : List Sl) (W : World) : Prop where
  st : St h S N l0 l T W
  b : Below w0.heap.size w0 W
  kk : ∀ k, blkM h k → w0.heap.size ≤ k
  lo : Lo h n
  nn : n ≤ W.heap.size
  n0 : w0.heap.size ≤ n
  z : h.z = false
section
variable {w0 W W' : World} {h : Hm} {n S N : Nat} {l0 l l' : List Int} {T T' : List Sl}
theorem Wd.below (d : Wd w0 h n S N l0 l T W) (hb : Below W.heap.size W W') : Wd w0 h n S N l0 l T W' :=
  ⟨d.st.below hb, d.b.trans (hb.mono d.b.size), d.kk, d.lo, Nat.le_trans d.nn hb.size, d.n0, d.z⟩
theorem Wd.drew (d : Wd w0 h n S N l0 l T W) : Wd w0 h n S N l0 l T W.drew := d.below (Below.refl _ _).drew
theorem Wd.low (d : Wd w0 h n S N l0 l T W) (hb : Below n W W') : Wd w0 h n S N l0 l T W' :=
  ⟨d.st.stay hb d.lo, d.b.trans (hb.mono d.n0), d.kk, d.lo, Nat.le_trans d.nn hb.size, d.n0, d.z⟩
theorem Wd.fr (d : Wd w0 h n S N l0 l T W) (hs : St h S N l0 l' T' W') (hf : Fr W.heap.size (blkM h) W W') : Wd w0 h n S N l0 l' T' W' :=
  ⟨hs, d.b.trans (hf.toBelow d.b.size (fun k hk q => by have := d.kk k q; omega)), d.kk, d.lo, Nat.le_trans d.nn hf.size, d.n0, d.z⟩

/-! ### Rows of one's own -/
def RowG (k : IntKind) (n : Nat) (W : World) (u : Value) (X : List Int) : Prop := Row k W u X ∧ ∀ b, u.ownBlock = some b → n ≤ b
theorem RowG.below {k : IntKind} {u : Value} {X : List Int} (r : RowG k n W u X) (hb : Below W.heap.size W W') : RowG k n W' u X := ⟨r.1.mono hb (Nat.le_refl _), r.2⟩
theorem RowG.fr {k : IntKind} {u : Value} {X : List Int} (r : RowG k n W u X) (hf : Fr W.heap.size (blkM h) W W') (hl : Lo h n) : RowG k n W' u X := by
  refine ⟨r.1.fr hf (fun hX b hb => ⟨?_, fun q => by have := hl.m b q; have := r.2 b hb; omega⟩), r.2⟩
  obtain ⟨a, cap, rfl, -, -, -, q⟩ := r.1
  obtain ⟨b', off, rfl, hlt, -⟩ := q hX
  simp only [Value.ownBlock, Option.some.injEq] at hb
  omega
def OwnI (n : Nat) (W : World) (u : Value) (A : List Nat) : Prop := W.ownsRow n 3 1 u A.length (valsN A)
theorem OwnI.below {u : Value} {A : List Nat} (r : OwnI n W u A) (hb : Below W.heap.size W W') : OwnI n W' u A := ownsRow_stays r hb
theorem OwnI.fr {u : Value} {A : List Nat} (r : OwnI n W u A) (hf : Fr W.heap.size (blkM h) W W') (hl : Lo h n) : OwnI n W' u A := by
  refine ⟨r.1, ?_⟩
  rcases r.2 with hn | ⟨g, cap, cur, rfl, hb, hgg, rest⟩
  · exact .inl hn
  · exact .inr ⟨g, cap, cur, rfl, hb, (hf.block g (Array.getElem?_eq_some_iff.1 hgg).1 (fun q => by have := hl.m g q; omega)).trans hgg, rest⟩
theorem OwnI.row {u : Value} {A : List Nat} (r : OwnI n W u A) (hA : ∀ x ∈ A, x ≤ 100000) : RowG .i64 n W u (Lis.ints A) := ⟨Lis.rowN_of_owns r rfl hA, Lis.owns_base r⟩
theorem OwnI.nil (n : Nat) (W : World) : OwnI n W (.slice none 0 0) [] := World.ownsRow_nil _ _ _ _
theorem newrow_own {B : Nat} {u : Value} {X : List Int} (r : Arn.NewRow B W u X) (hX : X ≠ []) : RowG .u8 B W u X := by
  refine ⟨r.1, fun b hb => ?_⟩
  obtain ⟨a, cap, rfl, -, -, -, q⟩ := r.1
  obtain ⟨b', off, rfl, hlt, -⟩ := q hX
  simp only [Value.ownBlock, Option.some.injEq] at hb
  have := (r.2 b' off _ _ rfl hX).1
  omega
theorem RowG.wide {k : IntKind} {m : Nat} {u : Value} {X : List Int} (r : RowG k m W u X) (h : n ≤ m) : RowG k n W u X := ⟨r.1, fun b hb => Nat.le_trans h (r.2 b hb)⟩

/-! ### What calls come to -/
theorem Wd.take (d : Wd w0 h n S N l0 l T W) (c : Int) : Calls Tryz.prog 54 #[pV h, .int .i64 c] W fun e W' =>
    (∃ l' x er, er ≠ 0 ∧ e = .returned (.tuple #[.int .i64 x, .int .i64 er]) ∧ Wd w0 h n S N l0 l' T W' ∧ Fr W.heap.size (blkM h) W W' ∧ Kp S N T T l l') ∨
    (∃ l' T' j k, e = .returned (.tuple #[.int .i64 (pl (aT S N j) c k : Int), .int .i64 0]) ∧ Tkn S N T T' c j k ∧ Wd w0 h n S N l0 l' T' W' ∧ Fr W.heap.size (blkM h) W W' ∧ Kp S N T T' l l' ∧ ∀ i, i < szC c → l'.getD (pl (aT S N j) c k + i) 0 = 0) := by
  refine (d.st.take c).mono ?_
  rintro e W' ⟨l', he, hs, hf, hk, hz⟩
  rcases tk_spec (N := N) d.st.tk c with ⟨h1, h2⟩ | ⟨h1, j, k, h2, h3⟩
  · rw [h2] at hs hk
    exact .inl ⟨l', _, _, h1, he, d.fr hs hf, hf, hk⟩
  · refine .inr ⟨l', _, j, k, ?_, h3, d.fr hs hf, hf, hk, fun i hi => ?_⟩
    · rw [he, h1, h2]
    · have := hz h1 i hi
      rw [h2, Int.toNat_natCast] at this
      exact this
theorem Wd.write (d : Wd w0 h n S N l0 l T W) {j k : Nat} (hj : j < S) (hk : k ∈ (T.getD j Sl.zero).v) {u : Value} {X : List Int} (hX : X.length ≤ szC (T.getD j Sl.zero).c) (hu : Row .u8 W u X) (hub : ∀ b, u.ownBlock = some b → n ≤ b) :
    Calls Tryz.prog 56 #[pV h, .int .i64 (pl (aT S N j) (T.getD j Sl.zero).c k : Int), u, .int .i64 5] W fun e W' => e = .returned (.bool true) ∧ Wd w0 h n S N l0 (wrL l (pl (aT S N j) (T.getD j Sl.zero).c k) X) T W' ∧ Fr W.heap.size (blkM h) W W' := by
  refine (d.st.write hj hk hX hu (fun b hb q => by have := hub b hb; have := d.lo.m b q; omega)).mono ?_
  rintro e W' ⟨rfl, hs, hf⟩
  exact ⟨rfl, d.fr hs hf, hf⟩
end
/-- The rows' length, of a value. -/
def slLen : Value → Nat
  | .slice _ n _ => n
  | _ => 0
/-! ### One of a row is left out -/
theorem OwnI.len {B : Nat} {W : World} {v : Value} {A : List Nat} (h : OwnI B W v A) : slLen v = A.length := by
  rcases h.2 with ⟨rfl, h0⟩ | ⟨g, cap, cur, rfl, -⟩
  · exact h0.symm
  · rfl
end Go.Proofs.YtcpfnmphcndmjaaGreatDoor.Sla

namespace Go.Proofs.YtcpfnmphcndmjaaGreatDoor.Sla
open Go.RowKit Num
open Mem (Mm MemC MRet Hm rd blkM)
open Lis (Cf LM LR Tb at_ Nx Pv Rep Hx valsN)
open Cls (szC blC pdC)
open Arn (wrL is64)
set_option linter.unusedVariables false

/-- All places of live blocks, each once. -/
structure AI (S N : Nat) (T : List Sl) (A : List Nat) : Prop where
  nd : A.Nodup
  mem : ∀ x, x ∈ A ↔ Lv S N T x
theorem AI.start (S N : Nat) : AI S N (List.replicate S Sl.zero) [] := by
  refine ⟨List.nodup_nil, fun x => ⟨fun h => (by cases h), ?_⟩⟩
  rintro ⟨j, k, hj, hk, -⟩
  rw [getD_rep _ _ _ hj, zero_v (s := Sl.zero) rfl] at hk
  cases hk
theorem AI.take {S N : Nat} {T T' : List Sl} {A : List Nat} {c : Int} {j k : Nat} (h : AI S N T A) (hT : Tk S T) (t : Tkn S N T T' c j k) : AI S N T' (A ++ [pl (aT S N j) c k]) := by
  refine ⟨?_, fun x => ?_⟩
  · rw [List.nodup_append]
    refine ⟨h.nd, by simp, fun x hx y hy => ?_⟩
    simp only [List.mem_singleton] at hy
    rintro rfl
    subst hy
    exact t.fresh ((h.mem _).1 hx)
  · rw [t.lv hT, List.mem_append, h.mem, List.mem_singleton]
    exact Or.comm
theorem AI.at {S N : Nat} {T : List Sl} {A : List Nat} (h : AI S N T A) {i : Nat} (hi : i < A.length) : Lv S N T (A.getD i 0) := by
  rw [← h.mem, List.getD, List.getElem?_eq_getElem hi, Option.getD_some]
  exact List.getElem_mem hi
/-- A row in a block between two bounds. -/
structure RowM (k : IntKind) (n m : Nat) (W : World) (u : Value) (X : List Int) : Prop where
  r : Row k W u X
  lo : ∀ b, u.ownBlock = some b → n ≤ b
  hi : ∀ b, u.ownBlock = some b → b < m
theorem RowM.low {k : IntKind} {n m : Nat} {W W' : World} {u : Value} {X : List Int} (d : RowM k n m W u X) (hb : Below m W W') : RowM k n m W' u X := ⟨d.r.fr (Fr.of_below (S := fun _ => False) hb) (fun _ b q => ⟨d.hi b q, fun q => q⟩), d.lo, d.hi⟩
theorem RowM.fr {h : Hm} {k : IntKind} {n m : Nat} {W W' : World} {u : Value} {X : List Int} (d : RowM k n m W u X) (hf : Fr W.heap.size (blkM h) W W') (hl : Lo h n) (hm : m ≤ W.heap.size) : RowM k n m W' u X :=
  ⟨d.r.fr hf (fun _ b q => ⟨Nat.lt_of_lt_of_le (d.hi b q) hm, fun z => by have := hl.m b z; have := d.lo b q; omega⟩), d.lo, d.hi⟩
theorem OwnI.up {n m : Nat} {h : Hm} (hl : Lo h n) (hm : n ≤ m) : Lo h m := hl.wide hm
end Go.Proofs.YtcpfnmphcndmjaaGreatDoor.Sla

namespace Go.Proofs.YtcpfnmphcndmjaaGreatDoor.Sla
open Go.RowKit Num
open Mem (Mm MemC MRet Hm rd blkM)
open Lis (Cf LM LR Tb at_ Nx Pv Rep Hx valsN)
open Cls (szC blC pdC)
open Arn (wrL is64)
set_option linter.unusedVariables false

section
variable {W W' : World} {u u' : Value} {A A' : List Nat} {x : Nat}
theorem OwnI.cells {m : Nat} {p : Option Addr} {k c : Nat} (d : OwnI m W (.slice p k c) A) (hA : A ≠ []) : ∃ g, p = some ⟨g, 0, none⟩ ∧ ∀ i, i < A.length → W.cell? ⟨g, i, none⟩ = some (.int .i64 ((A.getD i 0 : Nat) : Int)) := by
  rcases d.2 with ⟨h1, h0⟩ | ⟨g, cap, cur, h1, hg, hgg, hc1, hc2, hc3, hc4⟩
  · exact absurd (List.length_eq_zero_iff.1 h0) hA
  · injection h1 with h1 _ _
    subst h1
    refine ⟨g, rfl, fun i hi => ?_⟩
    rw [cell_block hgg]
    have e : (valsN A)[i]? = some (.int .i64 ((A.getD i 0 : Nat) : Int)) := by
      unfold valsN List.getD
      rw [List.getElem?_map, List.getElem?_eq_getElem hi]
      rfl
    rw [← hc4, List.getElem?_take_of_lt (by omega)] at e
    rw [← e, Array.getElem?_toList]
theorem OwnI.snoc {n k : Nat} {u : Value} (h : W.ownsRow n 3 1 u (k + 1) (valsN A ++ [.int .i64 (x : Int)])) (hk : k = A.length) : OwnI n W u (A ++ [x]) := by
  subst hk
  unfold OwnI
  rw [Lis.valsN_snoc, List.length_append]
  exact h
end
end Go.Proofs.YtcpfnmphcndmjaaGreatDoor.Sla

namespace Go.Proofs.YtcpfnmphcndmjaaGreatDoor.Sla
open Go.RowKit Num
open Cls (szC blC pdC)
open Mem (Mm MemC MRet Hm rd blkM)
open Arn (wrL is64)
set_option linter.unusedVariables false

/-- One of a list is left out. -/
def del {α : Type} (A : List α) (i : Nat) : List α := A.take i ++ A.drop (i + 1)
theorem del_len {α : Type} (A : List α) {i : Nat} (h : i < A.length) : (del A i).length + 1 = A.length := by
  unfold del
  rw [List.length_append, List.length_take, List.length_drop]
  omega
theorem del_get (A : List Nat) {i p : Nat} (h : i < A.length) (hp : p < (del A i).length) : (del A i).getD p 0 = A.getD (if p < i then p else p + 1) 0 := by
  have := del_len A h
  unfold del List.getD
  rw [List.getElem?_append, List.length_take, Nat.min_eq_left (by omega)]
  split
  · rw [List.getElem?_take_of_lt (by omega)]
  · rw [List.getElem?_drop, show i + 1 + (p - i) = p + 1 by omega]
theorem add_get (A : List Nat) (x p : Nat) : (A ++ [x]).getD p 0 = if p < A.length then A.getD p 0 else if p = A.length then x else 0 := by
  unfold List.getD
  rw [List.getElem?_append]
  split
  · rfl
  · split
    · rename_i h1 h2; subst h2; simp
    · rename_i h1 h2
      rw [List.getElem?_eq_none (by simp; omega)]
      rfl
/-- Two blocks at two places lie apart. -/
theorem blk_apart {S N : Nat} {T : List Sl} {j j' k k' : Nat} (hk : k < blC (T.getD j Sl.zero).c) (hk' : k' < blC (T.getD j' Sl.zero).c)
    (hne : ¬ (j = j' ∧ k = k')) : pl (aT S N j) (T.getD j Sl.zero).c k + szC (T.getD j Sl.zero).c ≤ pl (aT S N j') (T.getD j' Sl.zero).c k' ∨ pl (aT S N j') (T.getD j' Sl.zero).c k' + szC (T.getD j' Sl.zero).c ≤ pl (aT S N j) (T.getD j Sl.zero).c k := by
  have h1 := bl_in hk
  have h2 := bl_in hk'
  rcases Nat.lt_trichotomy j j' with q | q | q
  · left; unfold pl aT; omega
  · subst q
    rcases Nat.lt_trichotomy k k' with r | r | r
    · have := bl_apart ((T.getD j Sl.zero).c : Int) r
      left; unfold pl; omega
    · exact absurd ⟨rfl, r⟩ hne
    · have := bl_apart ((T.getD j Sl.zero).c : Int) r
      right; unfold pl; omega
  · right; unfold pl aT; omega
/-- A block that is live, of so many bytes, each of them the mark's. -/
structure El (N : Nat) (T : List Sl) (l : List Int) (a z m : Nat) (j k : Nat) : Prop where
  hj : j < 7
  hk : k ∈ (T.getD j Sl.zero).v
  ha : a = pl (aT 7 N j) (T.getD j Sl.zero).c k
  hz : z = szC (T.getD j Sl.zero).c
  hl : ∀ t, t < z → l.getD (a + t) 0 = ((m % 256 : Nat) : Int)
structure OI (N : Nat) (T : List Sl) (l : List Int) (A Z M : List Nat) : Prop where
  ai : AI 7 N T A
  zl : Z.length = A.length
  ml : M.length = A.length
  el : ∀ i, i < A.length → ∃ j k, El N T l (A.getD i 0) (Z.getD i 0) (M.getD i 0) j k
section
variable {N : Nat} {T T' : List Sl} {l l' : List Int} {A Z M : List Nat}
theorem OI.start (l : List Int) : OI N (List.replicate 7 Sl.zero) l [] [] [] := ⟨AI.start _ _, rfl, rfl, fun i hi => absurd hi (Nat.not_lt_zero _)⟩
theorem OI.same (h : OI N T l A Z M) (hk : Kp 7 N T T l l') : OI N T l' A Z M := by
  refine ⟨h.ai, h.zl, h.ml, fun i hi => ?_⟩
  obtain ⟨j, k, e⟩ := h.el i hi
  refine ⟨j, k, e.hj, e.hk, e.ha, e.hz, fun t ht => ?_⟩
  rw [← e.hl t ht, e.ha]
  exact hk j k e.hj e.hk e.hk rfl t (by rw [← e.hz]; exact ht)
theorem OI.take (h : OI N T l A Z M) (hT : Tk 7 T) {c : Int} {j k : Nat} (t : Tkn 7 N T T' c j k) (hk : Kp 7 N T T' l l') {n : Nat} (hn : n = szC c) {X : List Int} {m : Nat} (hX : X.length = n) (hXm : ∀ i, i < n → X.getD i 0 = ((m % 256 : Nat) : Int))
    (hlen : pl (aT 7 N j) c k + n ≤ l'.length) : OI N T' (wrL l' (pl (aT 7 N j) c k) X) (A ++ [pl (aT 7 N j) c k]) (Z ++ [n]) (M ++ [m]) := by
  have hz := h.zl
  have hm := h.ml
  refine ⟨h.ai.take hT t, by simp [hz], by simp [hm], fun i hi => ?_⟩
  rw [List.length_append, List.length_singleton] at hi
  rw [add_get, add_get, add_get, hz, hm]
  have hkj : k ∈ (T'.getD j Sl.zero).v := (t.mem k).2 (.inl rfl)
  by_cases hlt : i < A.length
  · rw [if_pos hlt, if_pos hlt, if_pos hlt]
    obtain ⟨j', k', e⟩ := h.el i hlt
    have hcc : k' ∈ (T'.getD j' Sl.zero).v ∧ (T'.getD j' Sl.zero).c = (T.getD j' Sl.zero).c := by
      by_cases hjj : j' = j
      · subst hjj
        refine ⟨(t.mem k').2 (.inr e.hk), ?_⟩
        rcases t.old with q | q
        · have := t.cls; omega
        · have := e.hk; rw [zero_v q] at this; cases this
      · rw [t.oth j' hjj]
        exact ⟨e.hk, rfl⟩
    refine ⟨j', k', e.hj, hcc.1, by rw [hcc.2]; exact e.ha, by rw [hcc.2]; exact e.hz, fun s hs => ?_⟩
    have hne : ¬ (j = j' ∧ k = k') := by
      rintro ⟨rfl, rfl⟩
      exact t.new e.hk
    have hap := blk_apart (S := 7) (N := N) (mem_lt hkj).1 (mem_lt hcc.1).1 hne
    rw [t.cls, hcc.2, ← e.ha, ← e.hz, ← hn] at hap
    rw [Mem.wr_get _ _ _ _ (by rw [hX]; exact hlen), if_neg (by rw [hX]; omega), ← e.hl s hs, e.ha]
    exact hk j' k' e.hj e.hk hcc.1 hcc.2 s (by rw [← e.hz]; exact hs)
  · have hi' : i = A.length := by omega
    subst hi'
    rw [if_neg hlt, if_neg hlt, if_neg hlt, if_pos rfl, if_pos rfl, if_pos rfl]
    refine ⟨j, k, t.hj, hkj, by rw [t.cls], by rw [t.cls]; exact hn, fun s hs => ?_⟩
    rw [Mem.wr_get _ _ _ _ (by rw [hX]; exact hlen), if_pos (by rw [hX]; omega), show pl (aT 7 N j) c k + s - pl (aT 7 N j) c k = s by omega]
    exact hXm s hs
/-- The new block lies apart from all others. -/
theorem OI.apart (h : OI N T l A Z M) {c : Int} {j k : Nat} (t : Tkn 7 N T T' c j k) {i : Nat} (hi : i < A.length) :
    ¬ (pl (aT 7 N j) c k < A.getD i 0 + Z.getD i 0 ∧ A.getD i 0 < pl (aT 7 N j) c k + szC c) := by
  obtain ⟨j', k', e⟩ := h.el i hi
  have hkj : k ∈ (T'.getD j Sl.zero).v := (t.mem k).2 (.inl rfl)
  have hcc : k' ∈ (T'.getD j' Sl.zero).v ∧ (T'.getD j' Sl.zero).c = (T.getD j' Sl.zero).c := by
    by_cases hjj : j' = j
    · subst hjj
      refine ⟨(t.mem k').2 (.inr e.hk), ?_⟩
      rcases t.old with q | q
      · have := t.cls; omega
      · have := e.hk; rw [zero_v q] at this; cases this
    · rw [t.oth j' hjj]
      exact ⟨e.hk, rfl⟩
  have hne : ¬ (j = j' ∧ k = k') := by
    rintro ⟨rfl, rfl⟩
    exact t.new e.hk
  have hap := blk_apart (S := 7) (N := N) (mem_lt hkj).1 (mem_lt hcc.1).1 hne
  rw [t.cls, hcc.2, ← e.ha, ← e.hz] at hap
  omega
theorem El.bytes {a z m j k : Nat} (e : El N T l a z m j k) (hlen : a + z ≤ l.length) : (l.drop a).take z = List.replicate z ((m % 256 : Nat) : Int) := by
  apply List.ext_getElem?
  intro i
  by_cases hi : i < z
  · rw [List.getElem?_take_of_lt hi, List.getElem?_drop]
    have := e.hl i hi
    unfold List.getD at this
    rw [List.getElem?_eq_getElem (by omega), Option.getD_some] at this
    rw [List.getElem?_eq_getElem (by omega), this]
    simp [hi]
  · rw [List.getElem?_eq_none (by rw [List.length_take]; omega), List.getElem?_eq_none (by simp; omega)]
theorem zeros_bytes {a z : Nat} (h : ∀ i, i < z → l.getD (a + i) 0 = 0) (hlen : a + z ≤ l.length) : (l.drop a).take z = List.replicate z 0 := by
  apply List.ext_getElem?
  intro i
  by_cases hi : i < z
  · rw [List.getElem?_take_of_lt hi, List.getElem?_drop]
    have := h i hi
    unfold List.getD at this
    rw [List.getElem?_eq_getElem (by omega), Option.getD_some] at this
    rw [List.getElem?_eq_getElem (by omega), this]
    simp [hi]
  · rw [List.getElem?_eq_none (by rw [List.length_take]; omega), List.getElem?_eq_none (by simp; omega)]
end
end Go.Proofs.YtcpfnmphcndmjaaGreatDoor.Sla
