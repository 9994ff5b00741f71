/- The document's slabs: the memory that holds them; Begin, Block. The document's slabs: a free block is taken. The document's slabs: a slab's first free block is taken. The document's slabs: a slab's first free block is taken: the walk. The document's slabs: what Take comes to. The document's slabs: Take, walked. The walk of SlabBlocks. The walk of SlabBlocks. The document's slabs: Free, Room, Is. Plain mathematics of a block that is given back. The document's Give of a live block. SlabPlays: both sides' state, step by step. -/
import Derived.Test.YthnjpmgfikhemaaGreatDoorJ19
import Derived.Test.YthnjpmgfikhemaaGreatDoorJ6
import Derived.Test.YthnjpmgfikhemaaGreatDoorJ16
import Derived.Deep.RegionHeld3
import Derived.Deep.DeepCutAuto
namespace Go.Proofs.YthnjpmgfikhemaaGreatDoor.Sla
open Go.RowKit Num
open Mem (Mm MemC MRet Hm rd blkM)
open Lis (Cf LM LR Tb at_ Nx Pv Rep Hx valsN)
open Cls (szC blC pdC)
open Arn (wrL is64)
set_option linter.unusedVariables false

/-- A row of places in a block of its own. -/
structure RowD (n : Nat × Nat) (q a : Nat) (W : World) (u : Value) (X : List Nat) : Prop where
  r : Row .i64 W u (Lis.ints X)
  o : ∀ b, u.ownBlock = some b → n.1 ≤ b ∧ b ≠ n.2 ∧ b < W.heap.size ∧ b ≠ q ∧ b ≠ a
def fA (S N : Nat) (T : List Sl) (j : Nat) : List Nat := (T.getD j Sl.zero).f.map (pl (aT S N j) (T.getD j Sl.zero).c)
def vA (S N : Nat) (T : List Sl) (j : Nat) : List Nat := (T.getD j Sl.zero).v.map (pl (aT S N j) (T.getD j Sl.zero).c)
structure Dq (n : Nat × Nat) (W : World) (q a S N : Nat) (T : List Sl) : Prop where
  fq : W.heap[q]? = some (.cells #[.int .i64 (S : Int), .int .i64 (N : Int), .slice (some ⟨a, 0, none⟩) S S] 50 (0, 0))
  fa : ∃ c : Array Value, W.heap[a]? = some (.cells c 47 (0, 0)) ∧ c.size = S * 3 ∧ ∀ j, j < S → ∃ u v, c[j * 3]? = some (.int .i64 ((T.getD j Sl.zero).c : Int)) ∧ c[j * 3 + 1]? = some u ∧ c[j * 3 + 2]? = some v ∧ RowD n q a W u (fA S N T j) ∧ RowD n q a W v (vA S N T j)
  ne : a ≠ q
  nq : n.1 ≤ W.heap.size ∧ n.2 < W.heap.size
  tk : Tk S T
  hi : S ≤ 64
  right : Lay.rightC (S : Int) (N : Int) = true
section
variable {n : Nat × Nat} {q a S N : Nat} {T T' : List Sl} {W W' : World} {h : Hm}
theorem Dq.lt (d : Dq n W q a S N T) : q < W.heap.size ∧ a < W.heap.size := by
  obtain ⟨c, hc, -⟩ := d.fa
  exact ⟨(Array.getElem?_eq_some_iff.1 d.fq).1, (Array.getElem?_eq_some_iff.1 hc).1⟩
theorem row_lt {k : IntKind} {u : Value} {X : List Int} (r : Row k W u X) (hX : X ≠ []) : ∀ b, u.ownBlock = some b → b < W.heap.size := fun b hb => by
  obtain ⟨ad, cap, rfl, -, -, -, z⟩ := r
  obtain ⟨b', off, rfl, hlt, -⟩ := z hX
  simp only [Value.ownBlock, Option.some.injEq] at hb
  omega
theorem RowD.fr {Z : Nat → Prop} {u : Value} {X : List Nat} (r : RowD n q a W u X) (hf : Fr W.heap.size Z W W') (hZ : ∀ b, n.1 ≤ b → b ≠ n.2 → b ≠ q → b ≠ a → ¬ Z b) : RowD n q a W' u X :=
  ⟨r.r.fr hf (fun hX b hb => ⟨row_lt r.r hX b hb, hZ b (r.o b hb).1 (r.o b hb).2.1 (r.o b hb).2.2.2.1 (r.o b hb).2.2.2.2⟩), fun b hb => by
    have h1 := r.o b hb
    have h2 := hf.size
    omega⟩
theorem Dq.fr {Z : Nat → Prop} (d : Dq n W q a S N T) (hf : Fr W.heap.size Z W W') (hZ : ∀ b, (n.1 ≤ b ∧ b ≠ n.2) ∨ b = q ∨ b = a → ¬ Z b) : Dq n W' q a S N T := by
  obtain ⟨c, h1, h2, h3⟩ := d.fa
  refine ⟨(hf.block q d.lt.1 (hZ q (.inr (.inl rfl)))).trans d.fq, ⟨c, (hf.block a d.lt.2 (hZ a (.inr (.inr rfl)))).trans h1, h2, fun j hj => ?_⟩, d.ne, ⟨Nat.le_trans d.nq.1 hf.size, Nat.lt_of_lt_of_le d.nq.2 hf.size⟩, d.tk, d.hi, d.right⟩
  obtain ⟨u, v, k1, k2, k3, k4, k5⟩ := h3 j hj
  exact ⟨u, v, k1, k2, k3, k4.fr hf (fun b hb hn _ _ => hZ b (.inl ⟨hb, hn⟩)), k5.fr hf (fun b hb hn _ _ => hZ b (.inl ⟨hb, hn⟩))⟩
/-- Another block is left out from now on: a new one. -/
theorem Dq.renew {m x y : Nat} {Z : Nat → Prop} (d : Dq (m, x) W q a S N T) (hf : Fr W.heap.size Z W W') (hZ : ∀ b, (m ≤ b ∧ b ≠ x) ∨ b = q ∨ b = a → ¬ Z b) (hy : y = x ∨ W.heap.size ≤ y) (hl : y < W'.heap.size) : Dq (m, y) W' q a S N T := by
  have d2 := d.fr hf hZ
  obtain ⟨c, h1, h2, h3⟩ := d.fa
  have hrow : ∀ u X, RowD (m, x) q a W u X → RowD (m, y) q a W' u X := fun u X r => by
    have r2 := r.fr hf (fun b hb hn _ _ => hZ b (.inl ⟨hb, hn⟩))
    refine ⟨r2.r, fun b hb => ?_⟩
    have h1 := r.o b hb
    have h2 := hf.size
    simp only at h1 ⊢
    omega
  refine ⟨d2.fq, ⟨c, (hf.block a d.lt.2 (hZ a (.inr (.inr rfl)))).trans h1, h2, fun j hj => ?_⟩, d.ne, ⟨d2.nq.1, hl⟩, d.tk, d.hi, d.right⟩
  obtain ⟨u, v, k1, k2, k3, k4, k5⟩ := h3 j hj
  exact ⟨u, v, k1, k2, k3, hrow _ _ k4, hrow _ _ k5⟩
theorem Dq.mem (d : Dq n W q a S N T) (hf : Fr W.heap.size (blkM h) W W') (hl : Lo h n.1) (hq : ¬ blkM h q) (ha : ¬ blkM h a) : Dq n W' q a S N T := d.fr hf (fun b hb z => by
  rcases hb with hb | rfl | rfl
  · have := hl.m b z
    omega
  · exact hq z
  · exact ha z)
theorem Dq.below (d : Dq n W q a S N T) (hb : Below W.heap.size W W') : Dq n W' q a S N T := d.fr (Fr.of_below (S := fun _ => False) hb) (fun _ _ z => z)
theorem Dq.drew (d : Dq n W q a S N T) : Dq n W.drew q a S N T := d.below (Below.refl _ _).drew
theorem Dq.cells (d : Dq n W q a S N T) : W.cell? ⟨q, 0, none⟩ = some (.int .i64 (S : Int)) ∧ W.cell? ⟨q, 1, none⟩ = some (.int .i64 (N : Int)) ∧ W.cell? ⟨q, 2, none⟩ = some (.slice (some ⟨a, 0, none⟩) S S) :=
  ⟨(cell_block d.fq 0).trans rfl, (cell_block d.fq 1).trans rfl, (cell_block d.fq 2).trans rfl⟩
theorem Dq.at (d : Dq n W q a S N T) {j : Nat} (hj : j < S) : ∃ u v, W.cell? ⟨a, j * 3, none⟩ = some (.int .i64 ((T.getD j Sl.zero).c : Int)) ∧ W.cell? ⟨a, j * 3 + 1, none⟩ = some u ∧ W.cell? ⟨a, j * 3 + 2, none⟩ = some v ∧ RowD n q a W u (fA S N T j) ∧ RowD n q a W v (vA S N T j) := by
  obtain ⟨c, h1, h2, h3⟩ := d.fa
  obtain ⟨u, v, k1, k2, k3, k4, k5⟩ := h3 j hj
  exact ⟨u, v, by rw [cell_block h1]; exact k1, by rw [cell_block h1]; exact k2, by rw [cell_block h1]; exact k3, k4, k5⟩
end

/-! ### Begin -/
theorem infoSl : (Tryz.prog.info? 47).map (fun i => (i.zero, i.size, i.bytes)) = some (some (.agg #[.int .i64 0, .slice none 0 0, .slice none 0 0]), 3, 56) := by kernel_rfl
theorem run_make_sl {P : Program} (t e : TypeId) (i : TypeInfo) (z : Value) (ht : P.underlying t = some (.slice e)) (hi : P.info? e = some i) (hz : i.zero = some z) (n : Nat) (hb : i.bytes ≤ 64) (hn : n ≤ 64) (w : World) :
    (Instr.makeSlice t (.int .i64 (n : Int)) (.int .i64 (n : Int))).run P w = .ok (.slice (some ⟨w.heap.size, 0, none⟩) n n) (w.alloc (.cells (madeCells z.cells (n * i.size)) e)) := by
  have hbb : (i.bytes : Int) * (n : Int) ≤ 281474976710656 := by
    have h : ((i.bytes * n : Nat) : Int) ≤ 281474976710656 := by
      have := Nat.mul_le_mul hb hn
      omega
    rwa [Int.natCast_mul] at h
  have hr := run_make (P := P) w t e i z ht hi hz .i64 .i64 n n (by omega) (by omega) hbb (by omega)
  simp only [Int.toNat_natCast] at hr
  exact hr
def MS (n : Nat) : Array Value := madeCells #[.int .i64 0, .slice none 0 0, .slice none 0 0] (n * 3)
theorem ms_at (n j i : Nat) (hj : j < n) (hi : i < 3) : (MS n)[j * 3 + i]? = (#[.int .i64 0, .slice none 0 0, .slice none 0 0] : Array Value)[i]? := by
  have h1 : (j * 3 + i) % 3 = i := by omega
  have h2 : j * 3 + i < n * 3 := by omega
  unfold MS madeCells
  simp [h2, h1]
  rcases (show i = 0 ∨ i = 1 ∨ i = 2 by omega) with rfl | rfl | rfl <;> rfl
theorem dq_new {n : Nat × Nat} {S N q a : Nat} {w : World} (hr : Lay.rightC (S : Int) (N : Int) = true) (h1 : w.heap[q]? = some (.cells #[.int .i64 (S : Int), .int .i64 (N : Int), .slice (some ⟨a, 0, none⟩) S S] 50 (0, 0))) (h2 : w.heap[a]? = some (.cells (MS S) 47 (0, 0))) (ne : a ≠ q) (hn : n.1 ≤ w.heap.size ∧ n.2 < w.heap.size) :
    Dq n w q a S N (List.replicate S Sl.zero) := by
  obtain ⟨q1, q2, q3, q4, q5⟩ := Lay.right_out hr
  refine ⟨h1, ⟨_, h2, size_madeCells _ _, fun j hj => ?_⟩, ne, hn, ⟨List.length_replicate .., fun j hj => by rw [getD_rep _ _ _ hj]; exact Sl.zero_ok⟩, by omega, hr⟩
  have e1 : fA S N (List.replicate S Sl.zero) j = [] := by unfold fA; rw [getD_rep _ _ _ hj]; rfl
  have e2 : vA S N (List.replicate S Sl.zero) j = [] := by unfold vA; rw [getD_rep _ _ _ hj, zero_v (s := Sl.zero) rfl]; rfl
  rw [e1, e2, getD_rep _ _ _ hj]
  exact ⟨.slice none 0 0, .slice none 0 0, ms_at S j 0 hj (by omega), ms_at S j 1 hj (by omega), ms_at S j 2 hj (by omega), ⟨Row.nil _ _, fun b hb => by cases hb⟩, ⟨Row.nil _ _, fun b hb => by cases hb⟩⟩
set_option maxRecDepth 100000 in
set_option maxHeartbeats 2000000 in
theorem refBegin_any (S N : Nat) (w : World) (hr : Lay.rightC (S : Int) (N : Int) = true) :
    Calls Tryz.prog 6 #[.agg #[.int .i64 (S : Int), .int .i64 (N : Int)]] w fun e w' => ∃ q a, e = .returned (.pointer (some ⟨q, 0, none⟩)) ∧ Below w.heap.size w w' ∧ w.heap.size ≤ q ∧ w.heap.size ≤ a ∧ q < w'.heap.size ∧ a < w'.heap.size ∧ ∀ W', Below w'.heap.size w' W' → ∀ n : Nat × Nat, n.1 ≤ W'.heap.size → n.2 < W'.heap.size → Dq n W' q a S N (List.replicate S Sl.zero) := by
  obtain ⟨q1, q2, q3, q4, q5⟩ := Lay.right_out hr
  obtain ⟨i1, gi, gz0, gz1, gz2⟩ := info_parts infoSl
  have hm1 : ∀ W : World, (Instr.makeSlice 48 (.int .i64 (S : Int)) (.int .i64 (S : Int))).run Tryz.prog W = .ok (.slice (some ⟨W.heap.size, 0, none⟩) S S) (W.alloc (.cells (MS S) 47)) := fun W => by
    have := run_make_sl 48 47 i1 _ Tryz.underlying48 gi gz0 S (by omega) (by omega) W
    rw [gz1] at this
    exact this
  have HDn : Hid (∀ (n : Nat × Nat) q a W, W.heap[q]? = some (.cells #[.int .i64 (S : Int), .int .i64 (N : Int), .slice (some ⟨a, 0, none⟩) S S] 50 (0, 0)) → W.heap[a]? = some (.cells (MS S) 47 (0, 0)) → a ≠ q → n.1 ≤ W.heap.size ∧ n.2 < W.heap.size → Dq n W q a S N (List.replicate S Sl.zero)) := fun n q a W h1 h2 ne hn => dq_new hr h1 h2 ne hn
  generalize MS S = M0 at hm1 HDn
  have hbx := heap_alloc_new w (.cells #[.int .i64 (S : Int), .int .i64 (N : Int)] 25)
  have c0 := (cell_block hbx 0).trans (show _ = some (Value.int .i64 (S : Int)) from rfl)
  have c1 := (cell_block hbx 1).trans (show _ = some (Value.int .i64 (N : Int)) from rfl)
  clear gi gz0 gz1 gz2 hr q1 q2 q3 q4 q5 hbx
  go_enter Tryz.func6, Tryz.ntmps6
  go_wp2_with fail
  go_region
  go_wp2
  go_ret
  obtain ⟨t0, t1, t2, t3⟩ := Lis.three_blocks w (.cells #[.int .i64 (S : Int), .int .i64 (N : Int)] 25) (.cells M0 47) (.cells #[.int .i64 (S : Int), .int .i64 (N : Int), .slice (some ⟨w.heap.size + 1, 0, none⟩) S S] 50)
  have l1 := (Array.getElem?_eq_some_iff.1 t1).1
  have l2 := (Array.getElem?_eq_some_iff.1 t2).1
  exact ⟨_, _, rfl, t3, by omega, by omega, l2, l1, fun W' hb n hn hn2 => HDn.out _ _ _ _ ((hb.block _ l2).trans t2) ((hb.block _ l1).trans t1) (by omega) ⟨hn, hn2⟩⟩

/-! ### Block -/
section
variable {n : Nat × Nat} {q a S N : Nat} {T T' : List Sl} {W W' : World} {h : Hm}
theorem refSlabAt (hr : Lay.rightC (S : Int) (N : Int) = true) {j : Nat} (hj : j < S) (W : World) : Calls Tryz.prog 41 #[.agg #[.int .i64 (S : Int), .int .i64 (N : Int)], .int .i64 (j : Int)] W fun e W' => e = .returned (.int .i64 (aT S N j : Int)) ∧ Below W.heap.size W W' := by
  obtain ⟨q1, q2, q3, q4, q5⟩ := Lay.right_out hr
  have := Lay.refSlabAt_any S N j W (by omega) (by omega)
  rw [slabC_at hr hj] at this
  exact this
end
end Go.Proofs.YthnjpmgfikhemaaGreatDoor.Sla

namespace Go.Proofs.YthnjpmgfikhemaaGreatDoor.Sla
open Go.RowKit Num
open Mem (Mm MemC MRet Hm rd blkM)
open Lis (Cf LM LR Tb at_ Nx Pv Rep Hx valsN)
open Cls (szC blC pdC)
open Arn (wrL is64)
set_option linter.unusedVariables false

/-! ### A sorted list with one more -/
/-- What a round over a list has put together. -/
def insT (x : Nat) (L : List Nat) (k : Nat) : List Nat × Bool :=
  match k with
  | 0 => ([], false)
  | k + 1 => let p := insT x L k
    let y := L.getD k 0
    if p.2 = false ∧ x < y then (p.1 ++ [x, y], true) else (p.1 ++ [y], p.2)
def insE (x : Nat) (L : List Nat) : List Nat := let p := insT x L L.length; if p.2 then p.1 else p.1 ++ [x]
theorem insT_mem (x : Nat) (L : List Nat) : ∀ k, k ≤ L.length → ∀ z, z ∈ (insT x L k).1 ↔ z ∈ L.take k ∨ ((insT x L k).2 = true ∧ z = x)
  | 0, _, z => by simp [insT]
  | k + 1, hk, z => by
    have ih := insT_mem x L k (by omega) z
    have hy : L.take (k + 1) = L.take k ++ [L.getD k 0] := by
      rw [List.take_add_one, List.getElem?_eq_getElem (by omega), List.getD, List.getElem?_eq_getElem (by omega)]
      rfl
    unfold insT
    simp only
    split
    · rename_i h
      rw [hy]
      simp only [List.mem_append, List.mem_cons, List.not_mem_nil, or_false, ih, h.1]
      constructor
      · rintro ((q | ⟨q, -⟩) | q | q)
        · exact .inl (.inl q)
        · cases q
        · exact .inr ⟨trivial, q⟩
        · exact .inl (.inr q)
      · rintro ((q | q) | ⟨-, q⟩)
        · exact .inl (.inl q)
        · exact .inr (.inr q)
        · exact .inr (.inl q)
    · rw [hy]
      simp only [List.mem_append, List.mem_singleton, ih]
      constructor
      · rintro ((q | q) | q)
        · exact .inl (.inl q)
        · exact .inr q
        · exact .inl (.inr q)
      · rintro ((q | q) | q)
        · exact .inl (.inl q)
        · exact .inr q
        · exact .inl (.inr q)
theorem insT_len (x : Nat) (L : List Nat) : ∀ k, (insT x L k).1.length ≤ 2 * k
  | 0 => by simp [insT]
  | k + 1 => by
    have := insT_len x L k
    unfold insT
    simp only
    split
    · simp; omega
    · simp; omega
/-- Rising. -/
def Up2 (L : List Nat) : Prop := L.Pairwise (· < ·)
theorem insT_up {x : Nat} {L : List Nat} (hL : Up2 L) (hx : x ∉ L) : ∀ k, k ≤ L.length → Up2 (insT x L k).1 ∧ (∀ z ∈ (insT x L k).1, ∀ i, k ≤ i → i < L.length → z < L.getD i 0 ∨ (z = x ∧ (insT x L k).2 = true)) ∧ ((insT x L k).2 = false → ∀ z ∈ (insT x L k).1, z < x) ∧ ((insT x L k).2 = true → ∀ i, k ≤ i → i < L.length → x < L.getD i 0)
  | 0, _ => ⟨List.Pairwise.nil, (fun z hz => by cases hz), (fun _ z hz => by cases hz), (fun q => by cases q)⟩
  | k + 1, hk => by
    obtain ⟨h1, h2, h3, h4⟩ := insT_up hL hx k (by omega)
    have hlt : ∀ i, k < i → i < L.length → L.getD k 0 < L.getD i 0 := fun i h5 h6 => by
      have := List.pairwise_iff_getElem.1 hL k i (by omega) h6 h5
      rw [List.getD, List.getElem?_eq_getElem (by omega), List.getD, List.getElem?_eq_getElem h6]
      exact this
    have hne : L.getD k 0 ≠ x := by
      rintro q
      refine hx ?_
      rw [← q, List.getD, List.getElem?_eq_getElem (by omega)]
      exact List.getElem_mem (by omega)
    unfold insT
    simp only
    split
    · rename_i hc
      obtain ⟨c1, c2⟩ := hc
      refine ⟨?_, ?_, (fun q => by cases q), fun _ i h5 h6 => ?_⟩
      · refine List.pairwise_append.2 ⟨h1, ?_, fun z hz y hy => ?_⟩
        · refine List.pairwise_cons.2 ⟨fun y hy => ?_, List.pairwise_singleton _ _⟩
          simp only [List.mem_singleton] at hy
          subst hy
          exact c2
        · have hzx := h3 c1 z hz
          simp only [List.mem_cons, List.not_mem_nil, or_false] at hy
          rcases hy with rfl | rfl
          · exact hzx
          · omega
      · intro z hz i h5 h6
        have := hlt i (by omega) h6
        simp only [List.mem_append, List.mem_cons, List.not_mem_nil, or_false] at hz
        rcases hz with hz | rfl | rfl
        · have := h3 c1 z hz
          exact .inl (by omega)
        · exact .inl (by omega)
        · exact .inl this
      · have := hlt i (by omega) h6
        omega
    · rename_i hc
      have hc' : (insT x L k).2 = false → L.getD k 0 < x := fun q => by
        have : ¬ x < L.getD k 0 := fun z => hc ⟨q, z⟩
        omega
      refine ⟨?_, ?_, ?_, ?_⟩
      · refine List.pairwise_append.2 ⟨h1, List.pairwise_singleton _ _, fun z hz y hy => ?_⟩
        simp only [List.mem_singleton] at hy
        subst hy
        rcases h2 z hz k (Nat.le_refl _) (by omega) with q | ⟨rfl, q⟩
        · exact q
        · exact h4 q k (Nat.le_refl _) (by omega)
      · intro z hz i h5 h6
        simp only [List.mem_append, List.mem_singleton] at hz
        rcases hz with hz | rfl
        · exact h2 z hz i (by omega) h6
        · exact .inl (hlt i (by omega) h6)
      · intro q z hz
        simp only [List.mem_append, List.mem_singleton] at hz
        rcases hz with hz | rfl
        · exact h3 q z hz
        · exact hc' q
      · intro q i h5 h6
        exact h4 q i (by omega) h6
theorem insE_up {x : Nat} {L : List Nat} (hL : Up2 L) (hx : x ∉ L) : Up2 (insE x L) := by
  obtain ⟨h1, -, h3, -⟩ := insT_up hL hx L.length (Nat.le_refl _)
  unfold insE
  simp only
  split
  · exact h1
  · rename_i h
    have h' : (insT x L L.length).2 = false := by simpa using h
    refine List.pairwise_append.2 ⟨h1, List.pairwise_singleton _ _, fun z hz y hy => ?_⟩
    simp only [List.mem_singleton] at hy
    subst hy
    exact h3 h' z hz
theorem insE_mem (x : Nat) (L : List Nat) (z : Nat) : z ∈ insE x L ↔ z = x ∨ z ∈ L := by
  have h := insT_mem x L L.length (Nat.le_refl _) z
  rw [List.take_length] at h
  unfold insE
  simp only
  split
  · rename_i h2
    rw [h, h2]
    simp only [true_and]
    exact Or.comm
  · rename_i h2
    have h' : (insT x L L.length).2 = false := by simpa using h2
    rw [List.mem_append, h, h', List.mem_singleton]
    constructor
    · rintro ((q | ⟨q, -⟩) | q)
      · exact .inr q
      · cases q
      · exact .inl q
    · rintro (q | q)
      · exact .inr q
      · exact .inl (.inl q)
theorem up_ext : ∀ {A B : List Nat}, Up2 A → Up2 B → (∀ z, z ∈ A ↔ z ∈ B) → A = B
  | [], [], _, _, _ => rfl
  | [], y :: B, _, _, h => by have := (h y).2 (by simp); cases this
  | x :: A, [], _, _, h => by have := (h x).1 (by simp); cases this
  | x :: A, y :: B, hA, hB, h => by
    obtain ⟨a1, a2⟩ := List.pairwise_cons.1 hA
    obtain ⟨b1, b2⟩ := List.pairwise_cons.1 hB
    have e : x = y := by
      rcases List.mem_cons.1 ((h x).1 (by simp)) with q | q
      · exact q
      · rcases List.mem_cons.1 ((h y).2 (by simp)) with p | p
        · exact p.symm
        · have := a1 y p
          have := b1 x q
          omega
    subst e
    rw [up_ext a2 b2 (fun z => ?_)]
    constructor
    · intro q
      rcases List.mem_cons.1 ((h z).1 (List.mem_cons_of_mem _ q)) with p | p
      · subst p
        have := a1 z q
        omega
      · exact p
    · intro q
      rcases List.mem_cons.1 ((h z).2 (List.mem_cons_of_mem _ q)) with p | p
      · subst p
        have := b1 z q
        omega
      · exact p
/-- The live blocks' places rise. -/
theorem vA_up (S N : Nat) (T : List Sl) (j : Nat) : Up2 (vA S N T j) := by
  unfold vA Up2
  rw [List.pairwise_map]
  refine List.Pairwise.imp_of_mem ?_ (List.Pairwise.filter _ (List.pairwise_lt_range (n := blC ((T.getD j Sl.zero).c : Int))))
  intro x y hx hy hlt
  have hx1 : x ∈ (T.getD j Sl.zero).v := hx
  have h1 := bl_apart ((T.getD j Sl.zero).c : Int) hlt
  have h2 := (bl_in (mem_lt hx1).1).2.2
  unfold pl
  omega
end Go.Proofs.YthnjpmgfikhemaaGreatDoor.Sla

namespace Go.Proofs.YthnjpmgfikhemaaGreatDoor.Sla
open Go.RowKit Num
open Mem (Mm MemC MRet Hm rd blkM)
open Lis (Cf LM LR Tb at_ Nx Pv Rep Hx valsN)
open Cls (szC blC pdC)
open Arn (wrL is64)
set_option linter.unusedVariables false

/-- The document's slabs, whatever they hold. -/
structure Dg (n : Nat × Nat) (W : World) (q a S N : Nat) (C : Nat → Nat) (F V : Nat → List Nat) : Prop where
  fq : W.heap[q]? = some (.cells #[.int .i64 (S : Int), .int .i64 (N : Int), .slice (some ⟨a, 0, none⟩) S S] 50 (0, 0))
  fa : ∃ c : Array Value, W.heap[a]? = some (.cells c 47 (0, 0)) ∧ c.size = S * 3 ∧ ∀ j, j < S → ∃ u v, c[j * 3]? = some (.int .i64 (C j : Int)) ∧ c[j * 3 + 1]? = some u ∧ c[j * 3 + 2]? = some v ∧ RowD n q a W u (F j) ∧ RowD n q a W v (V j)
  ne : a ≠ q
  nq : n.1 ≤ W.heap.size ∧ n.2 < W.heap.size
def up1 {α : Type} (f : Nat → α) (j : Nat) (x : α) : Nat → α := fun i => if i = j then x else f i
theorem up1_self {α : Type} (f : Nat → α) (j : Nat) (x : α) : up1 f j x j = x := if_pos rfl
theorem up1_ne {α : Type} (f : Nat → α) {i j : Nat} (x : α) (h : i ≠ j) : up1 f j x i = f i := if_neg h
section
variable {n : Nat × Nat} {q a S N : Nat} {T T' : List Sl} {W W' : World} {C : Nat → Nat} {F V : Nat → List Nat}
theorem Dq.g (d : Dq n W q a S N T) : Dg n W q a S N (fun j => (T.getD j Sl.zero).c) (fA S N T) (vA S N T) := ⟨d.fq, d.fa, d.ne, d.nq⟩
theorem Dg.dq (d : Dg n W q a S N C F V) (hT : Tk S T) (hi : S ≤ 64) (hr : Lay.rightC (S : Int) (N : Int) = true) (hC : ∀ j, j < S → C j = (T.getD j Sl.zero).c ∧ F j = fA S N T j ∧ V j = vA S N T j) : Dq n W q a S N T := by
  obtain ⟨c, h1, h2, h3⟩ := d.fa
  refine ⟨d.fq, ⟨c, h1, h2, fun j hj => ?_⟩, d.ne, d.nq, hT, hi, hr⟩
  obtain ⟨e1, e2, e3⟩ := hC j hj
  rw [← e1, ← e2, ← e3]
  exact h3 j hj
theorem Dg.lt (d : Dg n W q a S N C F V) : q < W.heap.size ∧ a < W.heap.size := by
  obtain ⟨c, hc, -⟩ := d.fa
  exact ⟨(Array.getElem?_eq_some_iff.1 d.fq).1, (Array.getElem?_eq_some_iff.1 hc).1⟩
theorem Dg.below (d : Dg n W q a S N C F V) (hb : Below W.heap.size W W') : Dg n W' q a S N C F V := by
  obtain ⟨c, h1, h2, h3⟩ := d.fa
  refine ⟨(hb.block q d.lt.1).trans d.fq, ⟨c, (hb.block a d.lt.2).trans h1, h2, fun j hj => ?_⟩, d.ne, ⟨Nat.le_trans d.nq.1 hb.size, Nat.lt_of_lt_of_le d.nq.2 hb.size⟩⟩
  obtain ⟨u, v, k1, k2, k3, k4, k5⟩ := h3 j hj
  have hf : Fr W.heap.size (fun _ => False) W W' := Fr.of_below hb
  exact ⟨u, v, k1, k2, k3, k4.fr hf (fun b _ _ _ _ q => q), k5.fr hf (fun b _ _ _ _ q => q)⟩
theorem Dg.cells (d : Dg n W q a S N C F V) : W.cell? ⟨q, 0, none⟩ = some (.int .i64 (S : Int)) ∧ W.cell? ⟨q, 1, none⟩ = some (.int .i64 (N : Int)) ∧ W.cell? ⟨q, 2, none⟩ = some (.slice (some ⟨a, 0, none⟩) S S) :=
  ⟨(cell_block d.fq 0).trans rfl, (cell_block d.fq 1).trans rfl, (cell_block d.fq 2).trans rfl⟩
theorem Dg.at (d : Dg n W q a S N C F V) {j : Nat} (hj : j < S) : ∃ u v, W.cell? ⟨a, j * 3, none⟩ = some (.int .i64 (C j : Int)) ∧ W.cell? ⟨a, j * 3 + 1, none⟩ = some u ∧ W.cell? ⟨a, j * 3 + 2, none⟩ = some v ∧ RowD n q a W u (F j) ∧ RowD n q a W v (V j) := by
  obtain ⟨c, h1, h2, h3⟩ := d.fa
  obtain ⟨u, v, k1, k2, k3, k4, k5⟩ := h3 j hj
  exact ⟨u, v, by rw [cell_block h1]; exact k1, by rw [cell_block h1]; exact k2, by rw [cell_block h1]; exact k3, k4, k5⟩
theorem set_fr (W : World) (a i : Nat) (v : Value) : Fr W.heap.size (fun b => b = a) W (W.setCell ⟨a, i, none⟩ v) := Fr.setCell (S := fun b => b = a) (Fr.refl _ _ _) (p := ⟨a, i, none⟩) (.inr rfl) v
theorem Dg.setC (d : Dg n W q a S N C F V) {j : Nat} (hj : j < S) (x : Nat) : Dg n (W.setCell ⟨a, j * 3, none⟩ (.int .i64 (x : Int))) q a S N (up1 C j x) F V := by
  obtain ⟨c, h1, h2, h3⟩ := d.fa
  have hf := set_fr W a (j * 3) (.int .i64 (x : Int))
  refine ⟨?_, ⟨_, Hea.heap_setCell_own h1 _, by rw [Array.size_setIfInBounds]; exact h2, fun i hi => ?_⟩, d.ne, by rw [World.size_setCell]; exact d.nq⟩
  · exact (hf.block q d.lt.1 (fun e => d.ne e.symm)).trans d.fq
  · obtain ⟨u1, v1, k1, k2, k3, k4, k5⟩ := h3 i hi
    have R4 := k4.fr hf (fun b _ _ _ h => h)
    have R5 := k5.fr hf (fun b _ _ _ h => h)
    by_cases e : i = j
    · subst e
      refine ⟨u1, v1, ?_, ?_, ?_, R4, R5⟩
      · rw [up1_self, Array.getElem?_setIfInBounds_self_of_lt (by omega)]
      · rw [Array.getElem?_setIfInBounds_ne (by omega)]; exact k2
      · rw [Array.getElem?_setIfInBounds_ne (by omega)]; exact k3
    · refine ⟨u1, v1, ?_, ?_, ?_, R4, R5⟩
      · rw [up1_ne _ _ e, Array.getElem?_setIfInBounds_ne (by omega)]; exact k1
      · rw [Array.getElem?_setIfInBounds_ne (by omega)]; exact k2
      · rw [Array.getElem?_setIfInBounds_ne (by omega)]; exact k3
theorem Dg.setF (d : Dg n W q a S N C F V) {j : Nat} (hj : j < S) {u : Value} {X : List Nat} (hu : RowD n q a W u X) : Dg n (W.setCell ⟨a, j * 3 + 1, none⟩ u) q a S N C (up1 F j X) V := by
  obtain ⟨c, h1, h2, h3⟩ := d.fa
  have hf := set_fr W a (j * 3 + 1) u
  refine ⟨?_, ⟨_, Hea.heap_setCell_own h1 _, by rw [Array.size_setIfInBounds]; exact h2, fun i hi => ?_⟩, d.ne, by rw [World.size_setCell]; exact d.nq⟩
  · exact (hf.block q d.lt.1 (fun e => d.ne e.symm)).trans d.fq
  · obtain ⟨u1, v1, k1, k2, k3, k4, k5⟩ := h3 i hi
    have R4 := k4.fr hf (fun b _ _ _ h => h)
    have R5 := k5.fr hf (fun b _ _ _ h => h)
    have Ru := hu.fr hf (fun b _ _ _ h => h)
    by_cases e : i = j
    · subst e
      refine ⟨u, v1, ?_, ?_, ?_, ?_, R5⟩
      · rw [Array.getElem?_setIfInBounds_ne (by omega)]; exact k1
      · rw [Array.getElem?_setIfInBounds_self_of_lt (by omega)]
      · rw [Array.getElem?_setIfInBounds_ne (by omega)]; exact k3
      · rw [up1_self]; exact Ru
    · refine ⟨u1, v1, ?_, ?_, ?_, ?_, R5⟩
      · rw [Array.getElem?_setIfInBounds_ne (by omega)]; exact k1
      · rw [Array.getElem?_setIfInBounds_ne (by omega)]; exact k2
      · rw [Array.getElem?_setIfInBounds_ne (by omega)]; exact k3
      · rw [up1_ne _ _ e]; exact R4
theorem Dg.setV (d : Dg n W q a S N C F V) {j : Nat} (hj : j < S) {u : Value} {X : List Nat} (hu : RowD n q a W u X) : Dg n (W.setCell ⟨a, j * 3 + 2, none⟩ u) q a S N C F (up1 V j X) := by
  obtain ⟨c, h1, h2, h3⟩ := d.fa
  have hf := set_fr W a (j * 3 + 2) u
  refine ⟨?_, ⟨_, Hea.heap_setCell_own h1 _, by rw [Array.size_setIfInBounds]; exact h2, fun i hi => ?_⟩, d.ne, by rw [World.size_setCell]; exact d.nq⟩
  · exact (hf.block q d.lt.1 (fun e => d.ne e.symm)).trans d.fq
  · obtain ⟨u1, v1, k1, k2, k3, k4, k5⟩ := h3 i hi
    have R4 := k4.fr hf (fun b _ _ _ h => h)
    have R5 := k5.fr hf (fun b _ _ _ h => h)
    have Ru := hu.fr hf (fun b _ _ _ h => h)
    by_cases e : i = j
    · subst e
      refine ⟨u1, u, ?_, ?_, ?_, R4, ?_⟩
      · rw [Array.getElem?_setIfInBounds_ne (by omega)]; exact k1
      · rw [Array.getElem?_setIfInBounds_ne (by omega)]; exact k2
      · rw [Array.getElem?_setIfInBounds_self_of_lt (by omega)]
      · rw [up1_self]; exact Ru
    · refine ⟨u1, v1, ?_, ?_, ?_, R4, ?_⟩
      · rw [Array.getElem?_setIfInBounds_ne (by omega)]; exact k1
      · rw [Array.getElem?_setIfInBounds_ne (by omega)]; exact k2
      · rw [Array.getElem?_setIfInBounds_ne (by omega)]; exact k3
      · rw [up1_ne _ _ e]; exact R5
end
end Go.Proofs.YthnjpmgfikhemaaGreatDoor.Sla

namespace Go.Proofs.YthnjpmgfikhemaaGreatDoor.Sla
open Go.RowKit Num
open Mem (Mm MemC MRet Hm rd blkM)
open Lis (Cf LM LR Tb at_ Nx Pv Rep Hx valsN)
open Cls (szC blC pdC)
open Arn (wrL is64)
set_option linter.unusedVariables false

section
variable {n : Nat × Nat} {q a S N : Nat} {T T' : List Sl} {W W' : World} {C : Nat → Nat} {F V : Nat → List Nat}
/-- A row's first, and the rest. -/
theorem row_first {W : World} {b off cap x L : Nat} {R : List Nat} (hL : L = R.length + 1) (hr : Row .i64 W (.slice (some ⟨b, off, none⟩) L cap) (Lis.ints (x :: R))) :
    (∀ V, Below W.heap.size W V → V.cell? ⟨b, off, none⟩ = some (.int .i64 (x : Int))) ∧ b < W.heap.size ∧ L ≤ cap ∧
    (∀ k m p (V : World), Below W.heap.size W V → k = (if cap = 1 then some ⟨b, off, none⟩ else some ⟨b, off + 1, none⟩) → m = L - 1 → p = cap - 1 → Row .i64 V (.slice k m p) (Lis.ints R)) := by
  have hl : (Lis.ints (x :: R)).length = R.length + 1 := Lis.ints_length _
  rw [hL, ← hl] at hr
  obtain ⟨ad, cap', e, h1, h2, h3, h4⟩ := hr
  injection e with e1 e2 e3
  subst e1 e3
  obtain ⟨b', off', e4, hlt, hc⟩ := h4 (by simp [Lis.ints])
  injection e4 with e4
  injection e4 with e5 e6
  subst e5 e6
  have hr : Row .i64 W (.slice (some ⟨b, off, none⟩) (Lis.ints (x :: R)).length cap) (Lis.ints (x :: R)) := ⟨_, cap, rfl, h1, h2, h3, h4⟩
  refine ⟨fun V hb => ?_, hlt, by omega, ?_⟩
  · have := hc 0 (by omega)
    exact (hb.cell (p := ⟨b, off, none⟩) hlt).trans this
  · rintro k m p V hb rfl rfl rfl
    by_cases h : cap = 1
    · have e : R = [] := List.eq_nil_of_length_eq_zero (by omega)
      subst e
      exact ⟨_, _, by rw [hL]; rfl, by simp [Lis.ints], by omega, (fun i hi => by simp [Lis.ints] at hi), fun h => absurd rfl h⟩
    · rw [if_neg h]
      have := Row.tail (n := 1) (hr.mono hb (Nat.le_refl _)) (by omega)
      rw [hl] at this
      rw [show L - 1 = R.length + 1 - 1 by omega]
      exact this
theorem own_open {w : World} {base : Nat} {t : TypeId} {v : Value} {k : Nat} {xs : List Value} (h : w.ownsRow base t 1 v k xs) (hv : v ≠ .slice none 0 0) : ∃ g cap, v = .slice (some ⟨g, 0, none⟩) k cap ∧ base ≤ g := by
  rcases h.2 with ⟨rfl, h0⟩ | ⟨g, cap, cur, rfl, hg, -⟩
  · exact absurd rfl hv
  · exact ⟨g, cap, rfl, hg⟩
theorem Dg.frz (d : Dg n W q a S N C F V) (i : Nat) : W.frozen? ⟨a, i, none⟩ = false := by
  obtain ⟨c, h1, -⟩ := d.fa
  exact Wat.frozen_block h1 i
theorem own_open2 {w : World} {base : Nat} {t : TypeId} {v : Value} {k : Nat} {xs : List Value} (h : w.ownsRow base t 1 v k xs) (hk : 0 < k) : ∃ g cap, v = .slice (some ⟨g, 0, none⟩) k cap ∧ base ≤ g := by
  rcases h.2 with ⟨rfl, h0⟩ | ⟨g, cap, cur, rfl, hg, -⟩
  · omega
  · exact ⟨g, cap, rfl, hg⟩
theorem vals64_ints (X : List Nat) : vals64 (Lis.ints X) = valsN X := by
  simp [vals64, Lis.ints, valsN]
/-- A row that a call owns, as the document's. -/
theorem rowD_own {B g cap k : Nat} {X : List Nat} (h : W.ownsRow B 3 1 (.slice (some ⟨g, 0, none⟩) k cap) k (valsN X)) (hk : X.length = k) (hX : ∀ y ∈ X, y ≤ 100000) (hB : n.1 ≤ B ∧ n.2 < B ∧ q < B ∧ a < B) : RowD n q a W (.slice (some ⟨g, 0, none⟩) k cap) X :=
  ⟨Lis.rowN_of_owns h hk hX, fun b hb => by have := World.ownsRow.lt h b hb; omega⟩
theorem insT_yes {x : Nat} {L : List Nat} {k : Nat} (h : (insT x L k).2 = false) (hx : x < L.getD k 0) : insT x L (k + 1) = ((insT x L k).1 ++ [x, L.getD k 0], true) := by
  rw [insT]
  rw [if_pos ⟨h, hx⟩]
theorem insT_no {x : Nat} {L : List Nat} {k : Nat} (h : ¬ ((insT x L k).2 = false ∧ x < L.getD k 0)) : insT x L (k + 1) = ((insT x L k).1 ++ [L.getD k 0], (insT x L k).2) := by
  rw [insT]
  rw [if_neg h]
theorem insE_bd {x : Nat} {L : List Nat} (hx : x ≤ 100000) (hL : ∀ y ∈ L, y ≤ 100000) : ∀ y ∈ insE x L, y ≤ 100000 := fun y hy => by
  rcases (insE_mem x L y).1 hy with rfl | h
  · exact hx
  · exact hL y h
theorem insT_pos {x : Nat} {L : List Nat} {k : Nat} (hk : k ≤ L.length) (h : (insT x L k).2 = true) : 0 < (insT x L k).1.length := by
  have := (insT_mem x L k hk x).2 (.inr ⟨h, rfl⟩)
  exact List.length_pos_of_mem this
set_option maxRecDepth 100000 in
set_option maxHeartbeats 4000000 in
theorem reftake_any (d : Dg n W q a S N C F V) {j x : Nat} {R : List Nat} (hj : j < S) (hS : S ≤ 64) (hF : F j = x :: R) (hR : R.length ≤ 64) (hV : (V j).length ≤ 64) (hb : ∀ y ∈ x :: R, y ≤ 100000) (hbv : ∀ y ∈ V j, y ≤ 100000) :
    Calls Tryz.prog 39 #[.pointer (some ⟨q, 0, none⟩), .int .i64 (j : Int)] W fun e W' => e = .returned (.int .i64 (x : Int)) ∧ Dg n W' q a S N C (up1 F j R) (up1 V j (insE x (V j))) ∧ Fr W.heap.size (fun b => b = a) W W' := by
  obtain ⟨i0, hi0, hz0, hz1, hz2⟩ := info_parts Lis.infoInt
  obtain ⟨c0, c1, c2⟩ := d.cells
  obtain ⟨u, v, b0, b1, b2, b3, b4⟩ := d.at hj
  rw [hF] at b3
  obtain ⟨ad, cap, rfl, -, -, -, r4⟩ := b3.r
  obtain ⟨rb, off, rfl, -, -⟩ := r4 (by simp [Lis.ints])
  have hr3 := b3.r
  obtain ⟨L, hL⟩ : ∃ L, L = R.length + 1 := ⟨_, rfl⟩
  rw [show (Lis.ints (x :: R)).length = L from (Lis.ints_length _).trans hL.symm] at hr3 b1
  obtain ⟨f1, f2, f3, f5⟩ := row_first hL hr3
  have hj0 : (0 : Int) ≤ (j : Int) := by omega
  have hj1 : (j : Int) < (S : Int) := by omega
  have g0 := f1 W (Below.refl _ _)
  have HD := Lib.hid d
  have HF5 := Lib.hid f5
  have h1c : (1 : Int) ≤ (cap : Int) := by omega
  have h1l : (1 : Int) ≤ (L : Int) := by omega
  have hlc : (L : Int) ≤ (cap : Int) := by omega
  have hl0 : (0 : Int) < (L : Int) := by omega
  have hzl : (0 : Int) ≤ 0 := by omega
  have hrl : 0 + (Lis.ints R).length ≤ 1000000 := by rw [Lis.ints_length]; omega
  have hlt := d.lt
  have HOwn := Lib.hid (own_empty64 W 3).drew
  have HA0 : Hid (Below W.heap.size W (W.alloc (.cells #[] 3)).drew) := (below_made W (.cells #[] 3)).drew
  have hs0 : W.heap.size ≤ (W.alloc (.cells #[] 3)).drew.heap.size := HA0.out.size
  have HSS : Hid (∀ W', Below W.heap.size W W' → W'.cell? ⟨q, 2, none⟩ = some (.slice (some ⟨a, 0, none⟩) S S) ∧ W'.cell? ⟨a, j * 3 + 1, none⟩ = some (.slice (some ⟨rb, off, none⟩) L cap)) := fun W' h => ⟨(h.cell (p := ⟨q, 2, none⟩) hlt.1).trans c2, (h.cell (p := ⟨a, j * 3 + 1, none⟩) hlt.2).trans b1⟩
  have HL := Lib.hid hL
  obtain ⟨L0, hL0⟩ : ∃ L0, L0 = V j := ⟨_, rfl⟩
  rw [← hL0] at hV hbv ⊢
  have HL0 := Lib.hid hL0
  have hnq := d.nq
  have HSt : Hid (∀ W1 g1 cap1, Below W.heap.size W W1 → W1.ownsRow W.heap.size 3 1 (.slice (some ⟨g1, 0, none⟩) (0 + (Lis.ints R).length) cap1) (0 + (Lis.ints R).length) (vals64 ([] ++ Lis.ints R)) →
      Dg n (W1.setCell ⟨a, j * 3 + 1, none⟩ (.slice (some ⟨g1, 0, none⟩) (Lis.ints R).length cap1)) q a S N C (up1 F j R) V ∧ Fr W.heap.size (fun b => b = a) W (W1.setCell ⟨a, j * 3 + 1, none⟩ (.slice (some ⟨g1, 0, none⟩) (Lis.ints R).length cap1))) := fun W1 g1 cap1 hB ho => by
    rw [List.nil_append, vals64_ints, Nat.zero_add] at ho
    refine ⟨(d.below hB).setF hj (rowD_own ho (Lis.ints_length R).symm (fun y hy => hb y (List.mem_cons_of_mem _ hy)) (by omega)), Fr.setCell (S := fun b => b = a) (Fr.of_below hB) (p := ⟨a, j * 3 + 1, none⟩) (.inr rfl) _⟩
  have HBv := Lib.hid (insE_bd (hb x (List.mem_cons_self ..)) hbv)
  obtain ⟨e1, e2⟩ := HSS.out _ HA0.out
  clear f1 f5 b3 b4 r4 hr3 hlt d hL hzl hl0 hL0
  go_enter Tryz.func39, Tryz.ntmps39
  go_upto_region 2 with fail
  go_cut [5] (fun s5 wx => s5 = .int .i64 (x : Int) ∧ Hid (Dg n wx q a S N C (up1 F j R) V) ∧ Hid (Fr W.heap.size (fun b => b = a) W wx))
  case first =>
    go_region_law ((first | (refine step_append_ints _ (by rfl) (.tmp 24) (.tmp 33) 32 (by rfl) W.heap.size 3 i0 (.int .i64 0) Tryz.underlying32 hi0 hz0 hz1 hz2 rfl _ 0 [] (by rfl) HOwn.out _ (Lis.ints R) (by rfl) (HF5.out _ _ _ _ HA0.out rfl rfl rfl) hrl hs0 ?_; intro v1 W1 ho1 hg1 hk1 hn1; have hB1 := HA0.out.grown hg1 hs0 (fun r hr => (HOwn.out.lt r hr).1); obtain ⟨s1, s2⟩ := HSS.out _ hB1; have hfz := (HD.out.below hB1).frz (j * 3 + 1); obtain ⟨g1, cap1, rfl, hgg⟩ := own_open ho1 (hn1 (by simp)); clear hk1 hn1)))
    all_goals go_wp2_with fail
    all_goals go_meet
    all_goals exact ⟨rfl, (HSt.out _ _ _ hB1 ho1).1, (HSt.out _ _ _ hB1 ho1).2⟩
  case rest =>
    obtain ⟨rfl, HG, HB⟩ := hcut
    obtain ⟨B0, hB0⟩ : ∃ B0, B0 = wc.heap.size := ⟨_, rfl⟩
    have hL0 := HL0.out
    clear c0 c1 c2 b0 b1 b2 e1 e2 g0 HF5 HOwn HA0 HSS HSt HD hs0
    have hg := HG.out
    obtain ⟨u2, v, b0, b1, b2, b3, b4⟩ := hg.at hj
    rw [← hL0] at b4
    clear hL0
    obtain ⟨ad, vcap, rfl, r1, r2, -, r4⟩ := b4.r
    rw [Lis.ints_length] at r1 r4 b2
    have HLV : Hid (∀ wr, Below B0 wc wr → wr.cell? ⟨q, 2, none⟩ = some (.slice (some ⟨a, 0, none⟩) S S) ∧ wr.cell? ⟨a, j * 3 + 2, none⟩ = some (.slice ad L0.length vcap) ∧ Dg n wr q a S N C (up1 F j R) V ∧ B0 ≤ wr.heap.size) := fun wr h => by
      rw [hB0] at h
      exact ⟨(h.cell (p := ⟨q, 2, none⟩) hg.lt.1).trans hg.cells.2.2, (h.cell (p := ⟨a, j * 3 + 2, none⟩) hg.lt.2).trans b2, hg.below h, by have := h.size; omega⟩
    have HV : Hid (∀ wr k, Below B0 wc wr → k < L0.length → ∃ vb vo, ad = some ⟨vb, vo, none⟩ ∧ wr.cell? ⟨vb, vo + k, none⟩ = some (.int .i64 ((L0.getD k 0 : Nat) : Int))) := fun wr k h hk => by
      rw [hB0] at h
      obtain ⟨vb, vo, e, hlt, hc⟩ := r4 (by rintro q; have := Lis.ints_length L0; rw [q] at this; simp at this; omega)
      have := hc k hk
      rw [Lis.ints_get] at this
      exact ⟨vb, vo, e, (h.cell (p := ⟨vb, vo + k, none⟩) hlt).trans this⟩
    have HBd : Hid (∀ k, k < L0.length → L0.getD k 0 ≤ 100000) := fun k hk => by
      refine hbv _ ?_
      rw [List.getD, List.getElem?_eq_getElem hk]
      exact List.getElem_mem hk
    have HB0 := Lib.hid hB0
    have hx1 := hb x (List.mem_cons_self ..)
    clear hg b0 b1 b2 b3 b4 r1 r2 r4 hb hbv hB0 hF
    go_wp2
    go_loopw [6, 7, 8] (fun s6 s7 s8 wr => ∃ k : Nat, k ≤ L0.length ∧ s8 = .int .i64 (k : Int) ∧ s7 = .bool (insT x L0 k).2 ∧ Hid (OwnI B0 wr s6 (insT x L0 k).1) ∧ Hid (Below B0 wc wr)) (fun _ _ i _ => L0.length - (intOf i).toNat)
    case atStart => exact ⟨0, Nat.zero_le _, rfl, rfl, OwnI.nil _ _, Below.refl _ _⟩
    case round =>
      obtain ⟨k, hk, rfl, rfl, HO, HW⟩ := hrel
      obtain ⟨d0, d1, -, d3⟩ := HLV.out _ HW.out
      have hsz := d3
      have HW0 : Hid (Below B0 wc wr) := HW.out
      have hA := HO.out
      have hln := insT_len x L0 k
      have hld : (insT x L0 k).1.length ≤ 1000 := by omega
      by_cases hkl : k < L0.length
      · have hk1 : (k : Int) < (L0.length : Int) := by omega
        have hk0 : (0 : Int) ≤ (k : Int) := by omega
        have hjw : IntKind.i64.wrap ((k : Int) + 1) = ((k + 1 : Nat) : Int) := (Arn.wrap_id (by omega) (by omega)).trans (by omega)
        have hy5 := HBd.out k hkl
        have HN := Lib.hid (@insT_no x L0 k)
        have HY := Lib.hid (@insT_yes x L0 k)
        obtain ⟨vb, vo, rfl, d4⟩ := HV.out _ k HW.out hkl
        have HV2 : Hid (∀ w5, Below B0 wc w5 → w5.cell? ⟨vb, vo + k, none⟩ = some (.int .i64 ((L0.getD k 0 : Nat) : Int))) := fun w5 h => by
          obtain ⟨vb2, vo2, e, hc⟩ := HV.out _ k h hkl
          injection e with e
          injection e with e1 e2
          subst e1 e2
          exact hc
        have hll : L0.length ≤ 64 := hV
        obtain ⟨y, hy⟩ : ∃ y, y = L0.getD k 0 := ⟨_, rfl⟩
        rw [← hy] at d4 HV2 hy5 HN HY
        obtain ⟨A, hA1⟩ : ∃ A, A = (insT x L0 k).1 := ⟨_, rfl⟩
        obtain ⟨f, hf⟩ : ∃ f, f = (insT x L0 k).2 := ⟨_, rfl⟩
        rw [← hA1] at hA HN HY hld
        rw [← hf] at HN HY ⊢
        clear hln HO HV HBd d3 hy hA1 hf
        cases f with
        | true =>
          have hn := Lib.hid (HN.out (by simp))
          clear HN HY
          have hlt := Nat.lt_irrefl 0
          go_wp2_with (at_builtin; refine wpList_append_own _ rfl (.tmp 71) (.tmp 83) 32 rfl B0 3 i0 (.int .i64 0) 1 8 Tryz.underlying32 hi0 hz0 hz1 hz2 rfl (by decide) _ _ _ rfl (World.ownsRow.alloc hA _) ⟨wr.heap.size, 0, none⟩ 1 1 [.int .i64 (y : Int)] rfl rfl (news_one _ _ _ _) (oneCell_one _ _) (by unfold maxLen; omega) (by omega) (by simp; omega) ?_)
          intro v5 w5 hown5 hgrow5 _
          have hb5 : Below B0 wr w5 := ((Below.refl B0 wr).alloc hsz _).grown hgrow5 (by simp; omega) (fun r hr => (World.ownsRow.lt hA r hr).1)
          have HO5 : Hid (OwnI B0 w5 v5 (A ++ [y])) := by
            unfold Hid OwnI
            rw [Lis.valsN_snoc, List.length_append]
            exact hown5
          have HW5 := Lib.hid (HW0.out.trans hb5)
          clear hA hown5 hgrow5 hb5
          go_wp2
          go_roundw
          case rel => exact ⟨k + 1, by omega, by go_num, by rw [hn.out], by unfold Hid; rw [hn.out]; exact HO5.out, HW5.out⟩
          case measure => simp [intOf]; omega
        | false =>
          by_cases hxy : x < y
          · have hn := Lib.hid (HY.out rfl hxy)
            have hxy1 : (x : Int) < (y : Int) := by omega
            clear HN HY
            go_wp2_with (at_builtin; refine wpList_append_own _ rfl (.tmp 67) (.tmp 69) 32 rfl B0 3 i0 (.int .i64 0) 1 8 Tryz.underlying32 hi0 hz0 hz1 hz2 rfl (by decide) _ _ _ rfl (World.ownsRow.alloc hA _) ⟨wr.heap.size, 0, none⟩ 1 1 [.int .i64 (x : Int)] rfl rfl (news_one _ _ _ _) (oneCell_one _ _) (by unfold maxLen; omega) (by omega) (by simp; omega) ?_)
            intro v5 w5 hown5 hgrow5 _
            have hb5 : Below B0 wr w5 := ((Below.refl B0 wr).alloc hsz _).grown hgrow5 (by simp; omega) (fun r hr => (World.ownsRow.lt hA r hr).1)
            have HO5 : Hid (OwnI B0 w5 v5 (A ++ [x])) := by
              unfold Hid OwnI
              rw [Lis.valsN_snoc, List.length_append]
              exact hown5
            have HW5 := Lib.hid (HW0.out.trans hb5)
            obtain ⟨d5, d6, -, hsz5⟩ := HLV.out _ HW5.out
            have d7 := HV2.out _ HW5.out
            have hA5 := HO5.out
            have hld5 : (A ++ [x]).length ≤ 1001 := by rw [List.length_append, List.length_singleton]; omega
            obtain ⟨A5, hA5e⟩ : ∃ A5, A5 = A ++ [x] := ⟨_, rfl⟩
            have hA5e := Lib.hid hA5e
            rw [← hA5e.out] at hA5 hld5
            clear hA hown5 hgrow5 hb5 d0 d1 d4 HO5
            go_wp2_with (at_builtin; refine wpList_append_own _ rfl (.tmp 71) (.tmp 83) 32 rfl B0 3 i0 (.int .i64 0) 1 8 Tryz.underlying32 hi0 hz0 hz1 hz2 rfl (by decide) _ _ _ rfl (World.ownsRow.alloc hA5 _) ⟨w5.heap.size, 0, none⟩ 1 1 [.int .i64 (y : Int)] rfl rfl (news_one _ _ _ _) (oneCell_one _ _) (by unfold maxLen; omega) (by omega) (by simp; omega) ?_)
            intro v6 w6 hown6 hgrow6 _
            have hb6 : Below B0 w5 w6 := ((Below.refl B0 w5).alloc hsz5 _).grown hgrow6 (by simp; omega) (fun r hr => (World.ownsRow.lt hA5 r hr).1)
            have HO6 : Hid (OwnI B0 w6 v6 (A5 ++ [y])) := by
              unfold Hid OwnI
              rw [Lis.valsN_snoc, List.length_append, hA5e.out, List.length_append]
              exact hown6
            have HW6 := Lib.hid (HW5.out.trans hb6)
            clear hA5 hown6 hgrow6 hb6
            go_wp2
            go_roundw
            case rel => exact ⟨k + 1, by omega, by go_num, by rw [hn.out], by unfold Hid; rw [hn.out, show A ++ [x, y] = A5 ++ [y] by rw [hA5e.out]; simp]; exact HO6.out, HW6.out⟩
            case measure => simp [intOf]; omega
          · have hn := Lib.hid (HN.out (fun q => hxy q.2))
            have hxy1 : ¬ (x : Int) < (y : Int) := by omega
            clear HN HY
            go_wp2_with (at_builtin; refine wpList_append_own _ rfl (.tmp 71) (.tmp 83) 32 rfl B0 3 i0 (.int .i64 0) 1 8 Tryz.underlying32 hi0 hz0 hz1 hz2 rfl (by decide) _ _ _ rfl (World.ownsRow.alloc hA _) ⟨wr.heap.size, 0, none⟩ 1 1 [.int .i64 (y : Int)] rfl rfl (news_one _ _ _ _) (oneCell_one _ _) (by unfold maxLen; omega) (by omega) (by simp; omega) ?_)
            intro v5 w5 hown5 hgrow5 _
            have hb5 : Below B0 wr w5 := ((Below.refl B0 wr).alloc hsz _).grown hgrow5 (by simp; omega) (fun r hr => (World.ownsRow.lt hA r hr).1)
            have HO5 : Hid (OwnI B0 w5 v5 (A ++ [y])) := by
              unfold Hid OwnI
              rw [Lis.valsN_snoc, List.length_append]
              exact hown5
            have HW5 := Lib.hid (HW0.out.trans hb5)
            clear hA hown5 hgrow5 hb5
            go_wp2
            go_roundw
            case rel => exact ⟨k + 1, by omega, by go_num, by rw [hn.out], by unfold Hid; rw [hn.out]; exact HO5.out, HW5.out⟩
            case measure => simp [intOf]; omega
      · obtain rfl : k = L0.length := by omega
        have hpos := @insT_pos x L0 L0.length (Nat.le_refl _)
        have hE : insE x L0 = if (insT x L0 L0.length).2 then (insT x L0 L0.length).1 else (insT x L0 L0.length).1 ++ [x] := rfl
        have HEnd : Hid (∀ w5 g c, Below B0 wc w5 → OwnI B0 w5 (.slice (some ⟨g, 0, none⟩) (insE x L0).length c) (insE x L0) → Dg n (w5.setCell ⟨a, j * 3 + 2, none⟩ (.slice (some ⟨g, 0, none⟩) (insE x L0).length c)) q a S N C (up1 F j R) (up1 V j (insE x L0)) ∧ Fr W.heap.size (fun b => b = a) W (w5.setCell ⟨a, j * 3 + 2, none⟩ (.slice (some ⟨g, 0, none⟩) (insE x L0).length c)) ∧ w5.frozen? ⟨a, j * 3 + 2, none⟩ = false) := fun w5 g c hb ho => by
          have hlt := HG.out.lt
          have hs := HB.out.size
          have hd5 := (HLV.out _ hb).2.2.1
          have hB1 := HB0.out
          refine ⟨hd5.setV hj (rowD_own ho rfl HBv.out (by omega)), ?_, hd5.frz _⟩
          exact (HB.out.trans ((Fr.of_below hb).mono (by omega) (fun _ _ q => q))).setCell (p := ⟨a, j * 3 + 2, none⟩) (.inr rfl) _
        obtain ⟨E, hEe⟩ : ∃ E, E = insE x L0 := ⟨_, rfl⟩
        rw [← hEe] at hE HEnd HBv
        obtain ⟨A, hA1⟩ : ∃ A, A = (insT x L0 L0.length).1 := ⟨_, rfl⟩
        obtain ⟨f, hf⟩ : ∃ f, f = (insT x L0 L0.length).2 := ⟨_, rfl⟩
        rw [← hA1] at hA hE hpos hld
        rw [← hf] at hE hpos ⊢
        have hEe := Lib.hid hEe
        clear hln HO HV HBd d3 hA1 hf
        cases f with
        | true =>
          rw [if_pos rfl] at hE
          obtain ⟨g, c, rfl, hgg⟩ := own_open2 hA (hpos rfl)
          subst hE
          obtain ⟨z1, z2, z3⟩ := HEnd.out _ _ _ HW.out hA
          have HZ := Lib.hid (And.intro z1 z2)
          clear z1 z2 hA hpos HEnd
          go_wp2
          go_ret
          rw [← hEe.out]
          exact ⟨rfl, HZ.out.1, HZ.out.2⟩
        | false =>
          rw [if_neg (by simp)] at hE
          go_wp2_with (at_builtin; refine wpList_append_own _ rfl (.tmp 87) (.tmp 89) 32 rfl B0 3 i0 (.int .i64 0) 1 8 Tryz.underlying32 hi0 hz0 hz1 hz2 rfl (by decide) _ _ _ rfl (World.ownsRow.alloc hA _) ⟨wr.heap.size, 0, none⟩ 1 1 [.int .i64 (x : Int)] rfl rfl (news_one _ _ _ _) (oneCell_one _ _) (by unfold maxLen; omega) (by omega) (by simp; omega) ?_)
          intro v5 w5 hown5 hgrow5 _
          have hb5 : Below B0 wr w5 := ((Below.refl B0 wr).alloc hsz _).grown hgrow5 (by simp; omega) (fun r hr => (World.ownsRow.lt hA r hr).1)
          have HO5 : Hid (OwnI B0 w5 v5 (A ++ [x])) := by
            unfold Hid OwnI
            rw [Lis.valsN_snoc, List.length_append]
            exact hown5
          have HW5 := Lib.hid (HW0.out.trans hb5)
          rw [← hE] at HO5
          obtain ⟨g, c, rfl, hgg⟩ := own_open2 HO5.out (by rw [hE]; simp)
          obtain ⟨z1, z2, z3⟩ := HEnd.out _ _ _ HW5.out HO5.out
          obtain ⟨d5, d6, -, hsz5⟩ := HLV.out _ HW5.out
          have HZ := Lib.hid (And.intro z1 z2)
          clear z1 z2 hA hpos HEnd hown5 hgrow5 hb5 d0 d1 hE
          go_wp2
          go_ret
          rw [← hEe.out]
          exact ⟨rfl, HZ.out.1, HZ.out.2⟩
end
end Go.Proofs.YthnjpmgfikhemaaGreatDoor.Sla

namespace Go.Proofs.YthnjpmgfikhemaaGreatDoor.Sla
open Go.RowKit Num
open Mem (Mm MemC MRet Hm rd blkM)
open Lis (Cf LM LR Tb at_ Nx Pv Rep Hx valsN)
open Cls (szC blC pdC)
open Arn (wrL is64)
set_option linter.unusedVariables false

theorem fi_of {T : List Sl} {c : Int} {j : Nat} (hj : j < T.length) (h : lst (T.getD j Sl.zero) = c) (hn : ∀ i, i < j → lst (T.getD i Sl.zero) ≠ c) : fi T c = some j := by
  cases he : fi T c with
  | none => exact absurd h (fi_none he j hj)
  | some i =>
    obtain ⟨h1, h2, h3⟩ := fi_some he
    rcases Nat.lt_trichotomy i j with q | q | q
    · exact absurd h2 (hn i q)
    · rw [q]
    · exact absurd h (h3 j q)
theorem fi_no {T : List Sl} {c : Int} (hn : ∀ i, i < T.length → lst (T.getD i Sl.zero) ≠ c) : fi T c = none := by
  cases he : fi T c with
  | none => rfl
  | some i =>
    obtain ⟨h1, h2, h3⟩ := fi_some he
    exact absurd h2 (hn i h1)
section
variable {n : Nat × Nat} {q a S N : Nat} {T T' : List Sl} {W W' : World} {C : Nat → Nat} {F V : Nat → List Nat}
theorem tkF_bad {c : Int} (hz : szC c = 0) : tkF S N T c = ((0, 2), T) := by unfold tkF; rw [if_pos hz]
theorem tkF_some {cN j k : Nat} {r : List Nat} (hz : szC (cN : Int) ≠ 0) (hf : fi T (cN : Int) = some j) (hk : (T.getD j Sl.zero).f = k :: r) : tkF S N T (cN : Int) = (((pl (aT S N j) (cN : Int) k : Int), 0), T.set j ⟨cN, r⟩) := by
  unfold tkF tkJ
  rw [if_neg hz, Int.toNat_natCast, hf]
  simp only [hk]
theorem tkF_new {cN j : Nat} (hz : szC (cN : Int) ≠ 0) (hT : j < T.length) (hf : fi T (cN : Int) = none) (h0 : fi T 0 = some j) : tkF S N T (cN : Int) = (((pl (aT S N j) (cN : Int) 0 : Int), 0), (T.set j ⟨cN, List.range (blC (cN : Int))⟩).set j ⟨cN, (List.range (blC (cN : Int) - 1)).map (· + 1)⟩) := by
  unfold tkF tkJ
  rw [if_neg hz, Int.toNat_natCast, hf]
  simp only [h0]
  rw [getD_set1 _ _ _ hT]
  simp only
  rw [range_cons _ (by have := Cls.blC_pos hz; omega)]
theorem tkF_full {cN : Nat} (hz : szC (cN : Int) ≠ 0) (hf : fi T (cN : Int) = none) (h0 : fi T 0 = none) : tkF S N T (cN : Int) = ((0, 5), T) := by
  unfold tkF tkJ
  rw [if_neg hz, Int.toNat_natCast, hf]
  simp only [h0]
theorem tkF_tkn {c : Int} {j k : Nat} {T' : List Sl} (hT : Tk S T) (hk : k < blC c) (h : tkF S N T c = (((pl (aT S N j) c k : Int), 0), T')) : Tkn S N T T' c j k := by
  rcases tk_spec (N := N) hT c with ⟨h1, -⟩ | ⟨-, j2, k2, h2, h3⟩
  · rw [h] at h1; exact absurd rfl h1
  · rw [h] at h2 h3
    simp only at h2 h3
    obtain ⟨rfl, e⟩ := pl_inj hk h3.hk (by omega : pl (aT S N j) c k = pl (aT S N j2) c k2)
    obtain rfl := e rfl
    exact h3
theorem vA_mem (S N : Nat) (T : List Sl) (j z : Nat) : z ∈ vA S N T j ↔ ∃ k, k ∈ (T.getD j Sl.zero).v ∧ z = pl (aT S N j) (T.getD j Sl.zero).c k := by
  unfold vA
  rw [List.mem_map]
  constructor
  · rintro ⟨k, h1, rfl⟩; exact ⟨k, h1, rfl⟩
  · rintro ⟨k, h1, rfl⟩; exact ⟨k, h1, rfl⟩
theorem vA_taken {c : Int} {j k : Nat} (hT : Tk S T) (t : Tkn S N T T' c j k) : vA S N T' j = insE (pl (aT S N j) c k) (vA S N T j) := by
  have hcc : ∀ y, y ∈ (T.getD j Sl.zero).v → ((T'.getD j Sl.zero).c : Int) = ((T.getD j Sl.zero).c : Int) := fun y hy => by
    rcases t.old with q | q
    · rw [t.cls, q]
    · rw [zero_v q] at hy; cases hy
  refine up_ext (vA_up _ _ _ _) (insE_up (vA_up _ _ _ _) ?_) (fun z => ?_)
  · intro h
    obtain ⟨k2, h1, h2⟩ := (vA_mem ..).1 h
    exact t.fresh ⟨j, k2, t.hj, h1, h2⟩
  · rw [insE_mem, vA_mem, vA_mem]
    constructor
    · rintro ⟨y, h1, rfl⟩
      rcases (t.mem y).1 h1 with rfl | h1
      · exact .inl (by rw [t.cls])
      · exact .inr ⟨y, h1, by rw [hcc y h1]⟩
    · rintro (rfl | ⟨y, h1, rfl⟩)
      · exact ⟨k, (t.mem k).2 (.inl rfl), by rw [t.cls]⟩
      · exact ⟨y, (t.mem y).2 (.inr h1), by rw [hcc y h1]⟩
theorem fA_bd (hr : Lay.rightC (S : Int) (N : Int) = true) {A : List Nat} {c : Int} {j : Nat} (hj : j < S) (hA : ∀ k ∈ A, k < blC c) : ∀ y ∈ A.map (pl (aT S N j) c), y ≤ 100000 := by
  obtain ⟨q1, q2, q3, q4, q5⟩ := Lay.right_out hr
  have h2 : N % 2 = 0 := by omega
  obtain ⟨b1, b2, b3⟩ := Lay.base_sixteen (s := S) (n := N) h2
  intro y hy
  obtain ⟨k, h1, rfl⟩ := List.mem_map.1 hy
  have h3 := bl_in (hA k h1)
  have h4 := h3.2.1
  unfold pl aT
  unfold Lay.endT at b3
  omega
theorem dq_taken {c : Int} {j k : Nat} (hT : Tk S T) (hi : S ≤ 64) (hr : Lay.rightC (S : Int) (N : Int) = true) (t : Tkn S N T T' c j k) (g : Dg n W q a S N C F V)
    (hC : ∀ i, i < S → C i = up1 (fun i => (T.getD i Sl.zero).c) j (T'.getD j Sl.zero).c i) (hF : ∀ i, i < S → F i = up1 (fA S N T) j (fA S N T' j) i) (hV : ∀ i, i < S → V i = up1 (vA S N T) j (insE (pl (aT S N j) c k) (vA S N T j)) i) : Dq n W q a S N T' := by
  refine g.dq t.ok hi hr (fun i hi => ?_)
  rw [hC i hi, hF i hi, hV i hi]
  by_cases e : i = j
  · subst e
    rw [up1_self, up1_self, up1_self, vA_taken hT t]
    exact ⟨rfl, rfl, rfl⟩
  · rw [up1_ne _ _ e, up1_ne _ _ e, up1_ne _ _ e]
    unfold fA vA
    rw [t.oth i e]
    exact ⟨rfl, rfl, rfl⟩
/-- A first free block, taken out of the document's slab. -/
theorem reftake_some (d : Dq n W q a S N T) {cN j k : Nat} {r : List Nat} (hz : szC (cN : Int) ≠ 0) (hf : fi T (cN : Int) = some j) (hj : j < S) (hcl : (T.getD j Sl.zero).c = cN) (hk : (T.getD j Sl.zero).f = k :: r) :
    Calls Tryz.prog 39 #[.pointer (some ⟨q, 0, none⟩), .int .i64 (j : Int)] W fun e W' => e = .returned (.int .i64 (tkF S N T (cN : Int)).1.1) ∧ Dq n W' q a S N (tkF S N T (cN : Int)).2 ∧ Fr W.heap.size (fun b => b = a) W W' := by
  have hok := d.tk.ok j hj
  have hlt := hok.lt
  rw [hk, hcl] at hlt
  have he := tkF_some (S := S) (N := N) hz hf hk
  have ht := tkF_tkn d.tk (hlt k (List.mem_cons_self ..)) he
  have hfl : (k :: r).length ≤ 64 := by
    have h1 := hok.len
    have h2 := Cls.blC_bd ((T.getD j Sl.zero).c : Int)
    rw [hk] at h1
    omega
  have hvl : (vA S N T j).length ≤ 64 := by
    have h1 := hok.len
    have h2 := Cls.blC_bd ((T.getD j Sl.zero).c : Int)
    unfold vA
    rw [List.length_map]
    omega
  have hFe : fA S N T j = pl (aT S N j) (cN : Int) k :: r.map (pl (aT S N j) (cN : Int)) := by
    unfold fA
    rw [hk, hcl]
    rfl
  rw [he]
  have hlen := d.tk.l
  refine (reftake_any d.g hj d.hi hFe (by rw [List.length_map]; simp at hfl; omega) hvl ?_ ?_).mono ?_
  · exact fA_bd d.right (A := k :: r) hj hlt
  · unfold vA
    exact fA_bd d.right hj (fun y hy => (mem_lt hy).1)
  · rintro e W' ⟨rfl, hg, hb⟩
    refine ⟨rfl, dq_taken d.tk d.hi d.right ht hg (fun i hi => ?_) (fun i hi => ?_) (fun i hi => rfl), hb⟩
    · by_cases e : i = j
      · subst e
        rw [up1_self, getD_set1 _ _ _ (by omega)]
        exact hcl
      · rw [up1_ne _ _ e]
    · by_cases e : i = j
      · subst e
        rw [up1_self, up1_self]
        unfold fA
        rw [getD_set1 _ _ _ (by omega)]
      · rw [up1_ne _ _ e, up1_ne _ _ e]
end
end Go.Proofs.YthnjpmgfikhemaaGreatDoor.Sla

namespace Go.Proofs.YthnjpmgfikhemaaGreatDoor.Sla
open Go.RowKit Num
open Mem (Mm MemC MRet Hm rd blkM)
open Lis (Cf LM LR Tb at_ Nx Pv Rep Hx valsN)
open Cls (szC blC pdC)
open Arn (wrL is64)
set_option linter.unusedVariables false

section
variable {n : Nat × Nat} {q a S N : Nat} {T T' : List Sl} {W W' : World} {C : Nat → Nat} {F V : Nat → List Nat}
theorem reftake_new (hT : Tk S T) (hi : S ≤ 64) (hr : Lay.rightC (S : Int) (N : Int) = true) {cN j : Nat} (hz : szC (cN : Int) ≠ 0) (hf : fi T (cN : Int) = none) (h0 : fi T 0 = some j) (hj : j < S)
    (g : Dg n W q a S N (up1 (fun i => (T.getD i Sl.zero).c) j cN) (up1 (fA S N T) j ((List.range (blC (cN : Int))).map (pl (aT S N j) (cN : Int)))) (up1 (vA S N T) j [])) :
    Calls Tryz.prog 39 #[.pointer (some ⟨q, 0, none⟩), .int .i64 (j : Int)] W fun e W' => e = .returned (.int .i64 (tkF S N T (cN : Int)).1.1) ∧ Dq n W' q a S N (tkF S N T (cN : Int)).2 ∧ Fr W.heap.size (fun b => b = a) W W' := by
  have hlen := hT.l
  have he := tkF_new (S := S) (N := N) hz (by omega) hf h0
  have hbp := Cls.blC_pos hz
  have hbd := Cls.blC_bd (cN : Int)
  have ht := tkF_tkn hT (by omega) he
  have hc0 := lst_zero.1 (fi_some h0).2.1
  have hv : vA S N T j = [] := by unfold vA; rw [zero_v hc0]; rfl
  have hX : (List.range (blC (cN : Int))).map (pl (aT S N j) (cN : Int)) = pl (aT S N j) (cN : Int) 0 :: ((List.range (blC (cN : Int) - 1)).map (· + 1)).map (pl (aT S N j) (cN : Int)) := by
    rw [range_cons _ (by omega)]
    rfl
  rw [he]
  refine (reftake_any g hj hi (by rw [up1_self]; exact hX) (by rw [List.length_map, List.length_map, List.length_range]; omega) (by rw [up1_self]; simp) ?_ ?_).mono ?_
  · rw [← hX]
    exact fA_bd hr hj (fun k hk => List.mem_range.1 hk)
  · rw [up1_self]
    intro y hy; cases hy
  · rintro e W' ⟨rfl, hg, hb⟩
    refine ⟨rfl, dq_taken hT hi hr ht hg (fun i hi => ?_) (fun i hi => ?_) (fun i hi => ?_), hb⟩
    · by_cases e : i = j
      · subst e
        rw [up1_self, up1_self, getD_set1 _ _ _ (by rw [List.length_set]; omega)]
      · rw [up1_ne _ _ e, up1_ne _ _ e]
    · by_cases e : i = j
      · subst e
        rw [up1_self, up1_self]
        unfold fA
        rw [getD_set1 _ _ _ (by rw [List.length_set]; omega)]
      · rw [up1_ne _ _ e, up1_ne _ _ e, up1_ne _ _ e]
    · by_cases e : i = j
      · subst e
        rw [up1_self, up1_self, up1_self, hv]
      · rw [up1_ne _ _ e, up1_ne _ _ e, up1_ne _ _ e]
/-- What the walk reads of a slab. -/
theorem Dq.reads (d : Dq n W q a S N T) {k : Nat} (hk : k < S) : ∃ ad cap, ∀ W', Below W.heap.size W W' → W'.cell? ⟨q, 2, none⟩ = some (.slice (some ⟨a, 0, none⟩) S S) ∧ W'.cell? ⟨a, k * 3, none⟩ = some (.int .i64 ((T.getD k Sl.zero).c : Int)) ∧ W'.cell? ⟨a, k * 3 + 1, none⟩ = some (.slice ad (T.getD k Sl.zero).f.length cap) := by
  obtain ⟨u, v, b0, b1, b2, b3, b4⟩ := d.at hk
  obtain ⟨ad, cap, rfl, -, -, -, -⟩ := b3.r
  rw [Lis.ints_length, show (fA S N T k).length = (T.getD k Sl.zero).f.length by unfold fA; rw [List.length_map]] at b1
  refine ⟨ad, cap, fun W' h => ⟨(h.cell (p := ⟨q, 2, none⟩) d.lt.1).trans d.cells.2.2, (h.cell (p := ⟨a, k * 3, none⟩) d.lt.2).trans b0, (h.cell (p := ⟨a, k * 3 + 1, none⟩) d.lt.2).trans b1⟩⟩
theorem own_set {w : World} {base : Nat} {t : TypeId} {v : Value} {k B : Nat} {xs : List Value} (h : w.ownsRow base t 1 v k xs) (hv : v.ownBlock ≠ some B) (i : Nat) (u : Value) : (w.setCell ⟨B, i, none⟩ u).ownsRow base t 1 v k xs := by
  refine ⟨h.1, ?_⟩
  rcases h.2 with hn | ⟨g, cap, cur, rfl, hb, hgg, rest⟩
  · exact .inl hn
  · refine .inr ⟨g, cap, cur, rfl, hb, ?_, rest⟩
    rw [Below.heap_setCell _ _ _ _ (fun e => hv (by simp only [Value.ownBlock]; rw [show g = B from e]))]
    exact hgg
theorem row_one (w5 : World) {P : Nat} (hP : P ≤ 100000) : Row .i64 (w5.alloc (.cells #[.int .i64 (P : Int)] 3)) (.slice (some ⟨w5.heap.size, 0, none⟩) 1 1) [(P : Int)] := Row.made w5 [(P : Int)] 3 _ rfl (fun i hi => by
    obtain rfl : i = 0 := by simpa using hi
    exact WalkArith.wf_i64 (by show -9223372036854775808 ≤ (P : Int) ∧ (P : Int) ≤ 9223372036854775807; omega)) (by simp)
set_option maxRecDepth 100000 in
set_option maxHeartbeats 8000000 in
theorem refTake_any (d : Dq n W q a S N T) (c : Int) :
    Calls Tryz.prog 9 #[.pointer (some ⟨q, 0, none⟩), .int .i64 c] W fun e W' => e = .returned (.tuple #[.int .i64 (tkF S N T c).1.1, .int .i64 (tkF S N T c).1.2]) ∧ Dq n W' q a S N (tkF S N T c).2 ∧ Fr W.heap.size (fun b => b = a) W W' := by
  obtain ⟨i0, hi0, hz0, hz1, hz2⟩ := info_parts Lis.infoInt
  have hsz := fun W => Cls.refSize_any c W
  have HD := Lib.hid d
  by_cases hz : szC c = 0
  · rw [hz] at hsz
    have HSz := Lib.hid hsz
    rw [tkF_bad hz]
    clear hsz d hz
    go_enter Tryz.func9, Tryz.ntmps9
    go_wp2_with fail
    refine (HSz.out _).mono ?_
    rintro e w1 ⟨rfl, rfl⟩
    go_wp2
    go_ret2
    exact ⟨rfl, HD.out, Fr.refl _ _ _⟩
  obtain ⟨cN, rfl⟩ : ∃ cN : Nat, c = cN := ⟨c.toNat, by have := Cls.szC_is hz; omega⟩
  have hc1 := Cls.szC_is hz
  have hcN : 1 ≤ cN := by omega
  have hzz : ((szC (cN : Int) : Int) == 0) = false := by simp; omega
  have hT := d.tk.l
  have hS64 := d.hi
  have HSz := Lib.hid hsz
  have HZ := Lib.hid hz
  have hn := d.nq
  have hlt := d.lt
  obtain ⟨zz, hzze⟩ : ∃ zz, zz = szC (cN : Int) := ⟨_, rfl⟩
  rw [← hzze] at hzz HSz
  have HZe := Lib.hid hzze
  clear hsz hz d hc1 hzze
  go_enter Tryz.func9, Tryz.ntmps9
  go_wp2_with fail
  refine (HSz.out _).mono ?_
  rintro e w1 ⟨rfl, rfl⟩
  go_wp2
  go_loopw [6] (fun i wr => ∃ k : Nat, k ≤ S ∧ i = .int .i64 (k : Int) ∧ Hid (∀ x, x < k → lst (T.getD x Sl.zero) ≠ (cN : Int)) ∧ Hid (Below W.heap.size W wr)) (fun i _ => S - (intOf i).toNat)
  case atStart => exact ⟨0, Nat.zero_le _, rfl, fun x hx => by omega, Below.refl _ _⟩
  case round =>
    obtain ⟨k, hk, rfl, HN, HB⟩ := hrel
    by_cases hkS : k < S
    · have hk1 : (k : Int) < (S : Int) := by omega
      have hk0 : (0 : Int) ≤ (k : Int) := by omega
      have hjw : IntKind.i64.wrap ((k : Int) + 1) = ((k + 1 : Nat) : Int) := (Arn.wrap_id (by omega) (by omega)).trans (by omega)
      obtain ⟨ad, cap, hrd⟩ := HD.out.reads hkS
      obtain ⟨d0, d1, d2⟩ := hrd _ HB.out
      clear hrd
      by_cases hcl : (T.getD k Sl.zero).c = cN
      · rw [hcl] at d1
        cases hfe : (T.getD k Sl.zero).f with
        | nil =>
          rw [hfe, List.length_nil] at d2
          have HN2 : Hid (∀ x, x < k + 1 → lst (T.getD x Sl.zero) ≠ (cN : Int)) := fun x hx => by
            rcases Nat.lt_or_ge x k with h | h
            · exact HN.out x h
            · obtain rfl : x = k := by omega
              unfold lst
              rw [if_neg (by omega), if_pos hfe]
              omega
          clear hcl hfe HN
          go_wp2
          go_roundw
          case rel => exact ⟨k + 1, by omega, by go_num, HN2.out, HB.out⟩
          case measure => simp [intOf]; omega
        | cons k0 r =>
          rw [hfe] at d2
          have hfi : fi T (cN : Int) = some k := fi_of (by omega) (by unfold lst; rw [if_neg (by omega), if_neg (by rw [hfe]; simp), hcl]) HN.out
          have HTk := Lib.hid (fun W' (h : Below W.heap.size W W') => reftake_some (HD.out.below h) HZ.out hfi hkS hcl hfe)
          have HE : Hid ((tkF S N T (cN : Int)).1.2 = 0) := by unfold Hid; rw [tkF_some HZ.out hfi hfe]
          have hl1 : (0 : Int) < ((k0 :: r).length : Int) := by rw [List.length_cons]; omega
          generalize (k0 :: r).length = L1 at d2 hl1
          clear hcl hfe HN hfi
          go_wp2_with fail
          refine (HTk.out _ HB.out).mono ?_
          rintro e w2 ⟨rfl, hd2, hb2⟩
          have HD2 := Lib.hid hd2
          have HB2 : Hid (Fr W.heap.size (fun b => b = a) W w2) := (Fr.of_below HB.out).trans (hb2.mono HB.out.size (fun _ _ q => q))
          clear hd2 hb2 d0 d1 d2
          go_wp2
          refine bodyPost_ret (v := .tuple #[.int .i64 (tkF S N T (cN : Int)).1.1, .int .i64 0]) (by simp [results, Tryz.results9, go_sem]) rfl ⟨by rw [HE.out], HD2.out, HB2.out⟩
      · have hcl1 : (((T.getD k Sl.zero).c : Int) == (cN : Int)) = false := by rw [beq_eq_false_iff_ne]; omega
        have HN2 : Hid (∀ x, x < k + 1 → lst (T.getD x Sl.zero) ≠ (cN : Int)) := fun x hx => by
          rcases Nat.lt_or_ge x k with h | h
          · exact HN.out x h
          · obtain rfl : x = k := by omega
            unfold lst
            split
            · omega
            · split
              · omega
              · omega
        generalize (T.getD k Sl.zero).c = cc at hcl hcl1 d1
        clear hcl HN
        go_wp2
        go_roundw
        case rel => exact ⟨k + 1, by omega, by go_num, HN2.out, HB.out⟩
        case measure => simp [intOf]; omega
    · obtain rfl : S = k := by omega
      have hfi : fi T (cN : Int) = none := fi_no (fun i hi => HN.out i (by omega))
      have HFi := Lib.hid hfi
      have d0 := ((HD.out.below HB.out).cells).2.2
      clear HN hfi
      have hsz2 : W.heap.size ≤ wr.heap.size := HB.out.size
      go_wp2
      obtain ⟨W2, hW2⟩ : ∃ W2, W2 = wr := ⟨_, rfl⟩
      clear hW2
      have HB0 := HB
      go_loopw [7] (fun i wr => ∃ k : Nat, k ≤ S ∧ i = .int .i64 (k : Int) ∧ Hid (∀ x, x < k → lst (T.getD x Sl.zero) ≠ 0) ∧ Hid (Below W.heap.size W wr)) (fun i _ => S - (intOf i).toNat)
      case atStart => exact ⟨0, Nat.zero_le _, rfl, fun x hx => by omega, HB.out⟩
      case round =>
        clear d0 HB HB0 hkS hk hsz2
        obtain ⟨k, hk, rfl, HN, HB⟩ := hrel
        by_cases hkS : k < S
        · have hk1 : (k : Int) < (S : Int) := by omega
          have hk0 : (0 : Int) ≤ (k : Int) := by omega
          have hjw : IntKind.i64.wrap ((k : Int) + 1) = ((k + 1 : Nat) : Int) := (Arn.wrap_id (by omega) (by omega)).trans (by omega)
          obtain ⟨ad, cap, hrd⟩ := HD.out.reads hkS
          obtain ⟨d0, d1, -⟩ := hrd _ HB.out
          clear hrd
          by_cases hcl : (T.getD k Sl.zero).c = 0
          · rw [hcl] at d1
            have hfi : fi T 0 = some k := fi_of (by omega) (lst_zero.2 hcl) HN.out
            have HNew := Lib.hid (fun W' g => reftake_new (W := W') (n := n) (q := q) (a := a) HD.out.tk HD.out.hi HD.out.right HZ.out HFi.out hfi hkS g)
            have HE : Hid ((tkF S N T (cN : Int)).1.2 = 0) := by unfold Hid; rw [tkF_new HZ.out (by omega) HFi.out hfi]
            have HBl := Lib.hid (fun W => Cls.refBlocks_any (cN : Int) W)
            have HSA := Lib.hid (fun W => refSlabAt HD.out.right hkS W)
            have hbbd := Cls.blC_bd (cN : Int)
            have hszbd := Cls.szC_bd (cN : Int)
            have hDw := HD.out.below HB.out
            have HDw := Lib.hid hDw
            obtain ⟨e0, e1, e2⟩ := hDw.cells
            obtain ⟨B0, hB0⟩ : ∃ B0, B0 = wr.heap.size := ⟨_, rfl⟩
            have hB00 : W.heap.size ≤ B0 := by rw [hB0]; exact HB.out.size
            clear hcl HN hfi hDw
            go_wp2
            rw [← hB0]
            obtain ⟨wz, hwz⟩ : ∃ wz, wz = wr.alloc (.cells #[.int .i64 (cN : Int), .slice none 0 0, .slice none 0 0] 47) := ⟨_, rfl⟩
            have hbz : Below B0 wr wz := by rw [hwz, hB0]; exact below_made _ _
            have hhz : wz.heap[B0]? = some (.cells #[.int .i64 (cN : Int), .slice none 0 0, .slice none 0 0] 47 (0, 0)) := by rw [hwz, hB0]; exact heap_alloc_new _ _
            have hsz3 : B0 + 1 ≤ wz.heap.size := by rw [hwz, hB0]; simp
            rw [← hwz]
            have HBz := Lib.hid hbz
            have HHz := Lib.hid hhz
            have hB0h := Lib.hid hB0
            clear hwz hbz hhz d0 d1 e0 e1 e2 hB0
            go_loopw [9] (fun i wx => ∃ k2 : Nat, k2 ≤ blC (cN : Int) ∧ i = .int .i64 (k2 : Int) ∧ ∃ v, Hid (wx.heap[B0]? = some (.cells #[.int .i64 (cN : Int), v, .slice none 0 0] 47 (0, 0))) ∧ Hid (OwnI (B0 + 1) wx v ((List.range k2).map (pl (aT S N k) (cN : Int)))) ∧ Hid (Below B0 wr wx) ∧ B0 + 1 ≤ wx.heap.size) (fun i _ => blC (cN : Int) - (intOf i).toNat)
            case atStart => exact ⟨0, Nat.zero_le _, rfl, _, HHz.out, OwnI.nil _ _, HBz.out, hsz3⟩
            case round =>
              obtain ⟨k2, hk2, rfl, v, HH, HO, HW, hsx⟩ := hrel
              rename World => wx
              go_wp2_with fail
              refine (HBl.out _).mono ?_
              rintro e w2 ⟨rfl, rfl⟩
              have HDx := Lib.hid ((HDw.out.g).below (W' := wx) (by rw [← hB0h.out]; exact HW.out))
              have hqa := HDw.out.lt
              rw [← hB0h.out] at hqa
              obtain ⟨d0, d1, d2⟩ := HDx.out.cells
              by_cases hkl : k2 < blC (cN : Int)
              · have hkl1 : (k2 : Int) < (blC (cN : Int) : Int) := by omega
                have hjw2 : IntKind.i64.wrap ((k2 : Int) + 1) = ((k2 + 1 : Nat) : Int) := (Arn.wrap_id (by omega) (by omega)).trans (by omega)
                have hA := HO.out
                have hin := bl_in hkl
                obtain ⟨P, hP⟩ : ∃ P, P = pl (aT S N k) (cN : Int) k2 := ⟨_, rfl⟩
                have hPb : P ≤ 100000 := by
                  rw [hP]
                  exact fA_bd HDw.out.right hkS (A := [k2]) (by simpa using hkl) _ (by simp)
                have hsc : (List.range (k2 + 1)).map (pl (aT S N k) (cN : Int)) = (List.range k2).map (pl (aT S N k) (cN : Int)) ++ [P] := by rw [List.range_succ, List.map_append, List.map_singleton, ← hP]
                have hAl : ((List.range k2).map (pl (aT S N k) (cN : Int))).length = k2 := by rw [List.length_map, List.length_range]
                have hPz : P = aT S N k + k2 * zz := by rw [hP, HZe.out]; rfl
                obtain ⟨g, hg⟩ : ∃ g, g = k2 * zz := ⟨_, rfl⟩
                rw [← hg] at hPz
                have hmul : IntKind.i64.wrap ((k2 : Int) * (zz : Int)) = (g : Int) := by
                  rw [show ((k2 : Int) * (zz : Int)) = (g : Int) by rw [hg, Int.natCast_mul]]
                  exact Arn.wrap_id (by omega) (by omega)
                obtain ⟨A0, hA0⟩ : ∃ A0, A0 = aT S N k := ⟨_, rfl⟩
                have hadd : IntKind.i64.wrap ((A0 : Int) + (g : Int)) = (P : Int) := by rw [hA0]; exact (Arn.wrap_id (by omega) (by omega)).trans (by omega)
                obtain ⟨A, hAe⟩ : ∃ A, A = (List.range k2).map (pl (aT S N k) (cN : Int)) := ⟨_, rfl⟩
                rw [← hAe] at hA hsc hAl
                have HSA2 := HSA
                rw [← hA0] at HSA2
                have HFx : Hid (∀ w5, Below wx.heap.size wx w5 → w5.cell? ⟨B0, 1, none⟩ = some v ∧ w5.ownsRow (B0 + 1) 3 1 v k2 (vals64 (Lis.ints A)) ∧ B0 + 1 ≤ w5.heap.size) := fun w5 h => by
                  have h1 := hA.below h
                  unfold OwnI at h1
                  rw [hAl] at h1
                  exact ⟨(h.cell (p := ⟨B0, 1, none⟩) (by show B0 < _; omega)).trans ((cell_block HH.out 1).trans rfl), by rw [vals64_ints]; exact h1, by have := h.size; omega⟩
                have HG : Hid (∀ w5 W1 g c, Below wx.heap.size wx w5 → Below (B0 + 1) w5 W1 → W1.ownsRow (B0 + 1) 3 1 (.slice (some ⟨g, 0, none⟩) (k2 + [(P : Int)].length) c) (k2 + [(P : Int)].length) (vals64 (Lis.ints A ++ [(P : Int)])) →
                    (W1.cell? ⟨B0, 1, none⟩ = some v ∧ W1.frozen? ⟨B0, 1, none⟩ = false) ∧ (W1.setCell ⟨B0, 1, none⟩ (.slice (some ⟨g, 0, none⟩) (k2 + 1) c)).heap[B0]? = some (.cells #[.int .i64 (cN : Int), .slice (some ⟨g, 0, none⟩) (k2 + 1) c, .slice none 0 0] 47 (0, 0)) ∧
                    OwnI (B0 + 1) (W1.setCell ⟨B0, 1, none⟩ (.slice (some ⟨g, 0, none⟩) (k2 + 1) c)) (.slice (some ⟨g, 0, none⟩) (k2 + 1) c) ((List.range (k2 + 1)).map (pl (aT S N k) (cN : Int))) ∧ Below B0 wr (W1.setCell ⟨B0, 1, none⟩ (.slice (some ⟨g, 0, none⟩) (k2 + 1) c)) ∧ B0 + 1 ≤ (W1.setCell ⟨B0, 1, none⟩ (.slice (some ⟨g, 0, none⟩) (k2 + 1) c)).heap.size) := fun w5 W1 g c h5 h1 ho => by
                  have hs5 := h5.size
                  have hs1 := h1.size
                  have hh : W1.heap[B0]? = some (.cells #[.int .i64 (cN : Int), v, .slice none 0 0] 47 (0, 0)) := (h1.block B0 (by omega)).trans ((h5.block B0 (by omega)).trans HH.out)
                  have hgB : B0 + 1 ≤ g := Lis.owns_base ho g rfl
                  refine ⟨⟨(cell_block hh 1).trans rfl, Wat.frozen_block hh 1⟩, ?_, ?_, (HW.out.trans ((h5.mono (by omega)).trans (h1.mono (by omega)))).setCell (by show B0 ≤ B0; omega) _, by rw [World.size_setCell]; omega⟩
                  · have := Hea.heap_setCell_own (o := 1) hh (.slice (some ⟨g, 0, none⟩) (k2 + 1) c)
                    simpa using this
                  · unfold OwnI
                    rw [hsc, List.length_append, hAl, ← vals64_ints, show Lis.ints (A ++ [P]) = Lis.ints A ++ [(P : Int)] by simp [Lis.ints]]
                    exact own_set ho (fun e => by simp only [Value.ownBlock, Option.some.injEq] at e; omega) _ _
                have HRw : Hid (∀ w5 : World, Row .i64 (w5.alloc (.cells #[.int .i64 (P : Int)] 3)) (.slice (some ⟨w5.heap.size, 0, none⟩) 1 1) [(P : Int)]) := fun w5 => row_one w5 hPb
                have hl2 : k2 + [(P : Int)].length ≤ 1000000 := by simp; omega
                have c1 := (HFx.out _ (Below.refl _ _)).1
                clear hA hsc hAl hin hP hPz hg hA0 hAe hPb HO HH HW hszbd
                go_wp2_with fail
                go_region_law ((first | (go_simp; go_at_call 41; refine (HSA2.out _).mono ?_; rintro e w5 ⟨rfl, hb5⟩; have hb6 : Below wx.heap.size wx w5 := ((Below.refl _ _).drew).trans hb5; obtain ⟨x1, x2, x3⟩ := HFx.out _ hb6; have x4 : (w5.alloc (.cells #[.int .i64 (P : Int)] 3)).cell? ⟨B0, 1, none⟩ = some v := (HFx.out _ (hb6.alloc hb6.size _)).1) | (go_simp; go_at_call 38; refine (HSz.out _).mono ?_; rintro e w7 ⟨rfl, rfl⟩) | (refine step_append_ints _ (by rfl) (.tmp 74) (.tmp 86) 32 (by rfl) (B0 + 1) 3 i0 (.int .i64 0) Tryz.underlying32 hi0 hz0 hz1 hz2 rfl _ k2 (Lis.ints A) (by rfl) (World.ownsRow.alloc x2 _) _ [(P : Int)] (by rfl) (HRw.out _) hl2 (by simp; omega) ?_; intro v1 W1 ho1 hg1 hk1 hn1; have hB1 := ((Below.refl (B0 + 1) w5).alloc x3 _).grown hg1 (by simp; omega) (fun r hr => (World.ownsRow.lt x2 r hr).1); obtain ⟨g1, cap1, rfl, hgg⟩ := own_open2 ho1 (by simp); clear hk1 hn1; obtain ⟨⟨y5, y0⟩, y1, y2, y3, y4⟩ := HG.out _ _ _ _ hb6 hB1 ho1; have HY := Lib.hid (And.intro y1 (And.intro y2 (And.intro y3 y4))); clear y1 y2 y3 y4)))
                all_goals clear HG HFx HRw x1 x2 x3 x4 hb5 hb6 ho1 hg1 hB1
                all_goals go_wp2
                all_goals go_roundw
                all_goals first
                  | exact ⟨k2 + 1, by omega, by go_num, _, HY.out.1, HY.out.2.1, HY.out.2.2.1, HY.out.2.2.2⟩
                  | (simp [intOf]; omega)
              · obtain rfl : k2 = blC (cN : Int) := by omega
                have hbp := Cls.blC_pos HZ.out
                have hA := HO.out
                unfold OwnI at hA
                have hAl : ((List.range (blC (cN : Int))).map (pl (aT S N k) (cN : Int))).length = blC (cN : Int) := by rw [List.length_map, List.length_range]
                rw [hAl] at hA
                obtain ⟨g, cp, rfl, hgg⟩ := own_open2 hA (by omega)
                have HNw : Hid (∀ wy, Below wx.heap.size wx wy → Dg n (((wy.setCell ⟨a, k * 3, none⟩ (.int .i64 (cN : Int))).setCell ⟨a, k * 3 + 1, none⟩ (.slice (some ⟨g, 0, none⟩) (blC (cN : Int)) cp)).setCell ⟨a, k * 3 + 2, none⟩ (.slice none 0 0)) q a S N (up1 (fun i => (T.getD i Sl.zero).c) k cN) (up1 (fA S N T) k ((List.range (blC (cN : Int))).map (pl (aT S N k) (cN : Int)))) (up1 (vA S N T) k []) ∧
                    Fr W.heap.size (fun b => b = a) W (((wy.setCell ⟨a, k * 3, none⟩ (.int .i64 (cN : Int))).setCell ⟨a, k * 3 + 1, none⟩ (.slice (some ⟨g, 0, none⟩) (blC (cN : Int)) cp)).setCell ⟨a, k * 3 + 2, none⟩ (.slice none 0 0))) := fun wy hb => by
                  have r : RowD n q a wy (.slice (some ⟨g, 0, none⟩) (blC (cN : Int)) cp) ((List.range (blC (cN : Int))).map (pl (aT S N k) (cN : Int))) := rowD_own (ownsRow_stays hA hb) hAl (fA_bd HDw.out.right hkS (fun y hy => List.mem_range.1 hy)) (by omega)
                  have g1 := (HDx.out.below hb).setC hkS cN
                  have g2 := g1.setF hkS (r.fr (set_fr wy a (k * 3) (.int .i64 (cN : Int))) (fun b _ _ _ h => h))
                  have g3 := g2.setV hkS (u := .slice none 0 0) (X := []) ⟨Row.nil _ _, fun b hb => by cases hb⟩
                  refine ⟨g3, ?_⟩
                  have hbw : Fr W.heap.size (fun b => b = a) W wy := (Fr.of_below HB.out).trans (((Fr.of_below HW.out).mono hB00 (fun _ _ q => q)).trans ((Fr.of_below hb).mono (by omega) (fun _ _ q => q)))
                  exact ((hbw.setCell (p := ⟨a, k * 3, none⟩) (.inr rfl) _).setCell (p := ⟨a, k * 3 + 1, none⟩) (.inr rfl) _).setCell (p := ⟨a, k * 3 + 2, none⟩) (.inr rfl) _
                obtain ⟨u9, v9, z1, z2, z3, -, -⟩ := HDx.out.at hkS
                have f1 := HDx.out.frz (k * 3)
                have f2 := HDx.out.frz (k * 3 + 1)
                have f3 := HDx.out.frz (k * 3 + 2)
                have b0 : wx.cell? ⟨B0, 0, none⟩ = some (.int .i64 (cN : Int)) := (cell_block HH.out 0).trans rfl
                have b1 : wx.cell? ⟨B0, 1, none⟩ = some (.slice (some ⟨g, 0, none⟩) (blC (cN : Int)) cp) := (cell_block HH.out 1).trans rfl
                have b2 : wx.cell? ⟨B0, 2, none⟩ = some (.slice none 0 0) := (cell_block HH.out 2).trans rfl
                clear hA hAl HO HH HW hbbd hbp hkl hk2
                go_wp2_with fail
                go_region
                obtain ⟨g3, hb3⟩ := HNw.out wx (Below.refl _ _)
                have HG3 := Lib.hid (g3.below (Below.refl _ _).drew)
                have HB3 := Lib.hid (hb3.trans ((Fr.of_below (Below.refl _ _).drew).mono hb3.size (fun _ _ q => q)))
                clear g3 hb3 HNw z1 z2 z3 f1 f2 f3 b0 b1 b2 d0 d1 d2
                go_wp2_with fail
                refine (HNew.out _ HG3.out).mono ?_
                rintro e w9 ⟨rfl, hd9, hb9⟩
                have HD9 := Lib.hid hd9
                have HB9 := Lib.hid (HB3.out.trans (hb9.mono HB3.out.size (fun _ _ q => q)))
                clear hd9 hb9 HG3 HB3
                go_wp2
                refine bodyPost_ret (v := .tuple #[.int .i64 (tkF S N T (cN : Int)).1.1, .int .i64 0]) (by simp [results, Tryz.results9, go_sem]) rfl ⟨by rw [HE.out], HD9.out, HB9.out⟩
          · have hcl1 : (((T.getD k Sl.zero).c : Int) == 0) = false := by rw [beq_eq_false_iff_ne]; omega
            have HN2 : Hid (∀ x, x < k + 1 → lst (T.getD x Sl.zero) ≠ 0) := fun x hx => by
              rcases Nat.lt_or_ge x k with h | h
              · exact HN.out x h
              · obtain rfl : x = k := by omega
                exact fun q => hcl (lst_zero.1 q)
            generalize (T.getD k Sl.zero).c = cc at hcl hcl1 d1
            clear hcl HN
            go_wp2
            go_roundw
            case rel => exact ⟨k + 1, by omega, by go_num, HN2.out, HB.out⟩
            case measure => simp [intOf]; omega
        · obtain rfl : S = k := by omega
          have hfi : fi T 0 = none := fi_no (fun i hi => HN.out i (by omega))
          have HE := Lib.hid (tkF_full (S := S) (N := N) HZ.out HFi.out hfi)
          have d0 := ((HD.out.below HB.out).cells).2.2
          have HD2 := Lib.hid (HD.out.below HB.out)
          have HB2 : Hid (Fr W.heap.size (fun b => b = a) W wr) := Fr.of_below HB.out
          clear HN hfi
          go_wp2
          refine bodyPost_ret (v := .tuple #[.int .i64 0, .int .i64 5]) (by simp [results, Tryz.results9, go_sem]) rfl ⟨by rw [HE.out], by rw [HE.out]; exact HD2.out, HB2.out⟩
end
end Go.Proofs.YthnjpmgfikhemaaGreatDoor.Sla

namespace Go.Proofs.YthnjpmgfikhemaaGreatDoor.Sla
open Go.RowKit Num
open Mem (Mm MemC MRet Hm rd blkM)
open Lis (Cf LM LR Tb at_ Nx Pv Rep Hx valsN)
open Cls (szC blC pdC)
open Arn (wrL is64)
set_option linter.unusedVariables false

/-! ### The memory beside the document's slabs -/
theorem SM.stay2 {h : Hm} {C : Cf} {l : List Int} {w w' : World} {Z : Nat → Prop} (d : SM h C l w) (hf : Fr w.heap.size Z w w') (hZ : ∀ k, Z k → ¬ blkM h k ∧ k ≠ 0 ∧ k ≠ 1 ∧ k ≠ 2 ∧ k ≠ 3) : SM h C l w' := by
  have ht := d.t.lt
  refine ⟨d.m.stay hf (fun k hk => ⟨(hZ k hk).1, (hZ k hk).2.1, (hZ k hk).2.2.1⟩), d.t.keepS (Bn := 2) ⟨hf.size, ?_⟩⟩
  rintro k (rfl | rfl | rfl)
  · exact hf.block _ ht.1 (fun q => (hZ _ q).2.2.2.1 rfl)
  · exact hf.block _ ht.1 (fun q => (hZ _ q).2.2.2.1 rfl)
  · exact hf.block _ ht.2 (fun q => (hZ _ q).2.2.2.2 rfl)
theorem cell_lt {W : World} {b o : Nat} {v : Value} (hc : W.cell? ⟨b, o, none⟩ = some v) : b < W.heap.size := by
  rcases Nat.lt_or_ge b W.heap.size with h1 | h1
  · exact h1
  · rw [World.cell?, Array.getElem?_eq_none h1] at hc
    simp at hc
section
variable {h : Hm} {S N : Nat} {l0 l l' : List Int} {T T' : List Sl} {w0 w W W' : World} {n q a : Nat}
theorem Wd.stay2 (d : Wd w0 h n S N l0 l T W) (ht : Ts w0) (hf : Fr W.heap.size (fun b => b = a) W W') (ha : ¬ blkM h a) (h0 : w0.heap.size ≤ a) : Wd w0 h n S N l0 l T W' := by
  have hlo : Lo h n := d.lo
  have h1 := ht.t
  have h2 := ht.h
  refine ⟨?_, d.b.trans (hf.toBelow d.b.size (fun k hk q => by omega)), d.kk, d.lo, Nat.le_trans d.nn hf.size, d.n0, d.z⟩
  obtain ⟨H, L, ⟨C, e1, e2, e3, e4, e5⟩, d2⟩ := d.st
  have t1 := cell_lt (Mem.TabP.cell ht.t.p 0 (by omega))
  have t2 := cell_lt (Cls.Tab.cell ht.t.c 0 (by omega))
  have t3 := ht.h.lt
  refine ⟨H, L, ⟨C, e1, e2, e3, e4.stay2 hf ?_, e5⟩, d2⟩
  rintro k rfl
  refine ⟨ha, ?_, ?_, ?_, ?_⟩ <;> (rintro rfl; omega)
/-- What both sides begin with. -/
structure Start (w : World) (h : Hm) (q a n : Nat) (wc : World) : Prop where
  bg : ∀ W, Below wc.heap.size wc W → Calls Tryz.prog 7 #[pV h] W fun e W' => ∃ l0, e = .returned (.int .i64 0) ∧ Wd w h n 7 224 l0 l0 (List.replicate 7 Sl.zero) W' ∧ Fr W.heap.size (blkM h) W W'
  dq : ∀ W, Below wc.heap.size wc W → Dq (n, q) W q a 7 224 (List.replicate 7 Sl.zero)
  nq : ¬ blkM h q
  na : ¬ blkM h a
  a0 : w.heap.size ≤ a
theorem start2 (S N : Nat) (w w1 : World) (hr : Lay.rightC (S : Int) (N : Int) = true) (hb : Below w.heap.size w w1) (ht : Ts w1) :
    Calls Tryz.prog 5 #[.agg #[.int .i64 (S : Int), .int .i64 (N : Int)]] w1 fun e w' => ∃ h, e = .returned (pV h) ∧
      (∀ W, Below w'.heap.size w' W → Calls Tryz.prog 7 #[pV h] W fun e W' => ∃ l0, e = .returned (.int .i64 0) ∧ Wd w h w'.heap.size S N l0 l0 (List.replicate S Sl.zero) W' ∧ Fr W.heap.size (blkM h) W W') ∧ Below w1.heap.size w1 w' ∧ ∀ k, blkM h k → w1.heap.size ≤ k ∧ k < w'.heap.size := by
  refine (new_z false S N w1 hr ht.t ht.h).mono ?_
  rintro e w' ⟨h, rfl, hm, hb1, hk, hz⟩
  have hs := hb.size
  refine ⟨h, rfl, fun W hW => ?_, hb1, fun k hk' => ⟨hk k hk', hm.lo.m k hk'⟩⟩
  refine (begin_any (fun t ht => newL_far S N ht) hr (hm.below hW)).mono ?_
  rintro e W' ⟨l', rfl, hs', hf⟩
  have hbw : Below w.heap.size w W := hb.trans ((hb1.trans (hW.mono hb1.size)).mono hs)
  exact ⟨l', rfl, ⟨hs', hbw.trans (hf.toBelow hbw.size (fun k hk' q => by have := hk k q; omega)), fun k q => Nat.le_trans hs (hk k q), hm.lo, Nat.le_trans hW.size hf.size, Nat.le_trans hs hb1.size, hz⟩, hf⟩
end
end Go.Proofs.YthnjpmgfikhemaaGreatDoor.Sla

namespace Go.Proofs.YthnjpmgfikhemaaGreatDoor.Sla
open Go.RowKit Num
open Mem (Mm MemC MRet Hm rd blkM)
open Lis (Cf LM LR Tb at_ Nx Pv Rep Hx valsN)
open Cls (szC blC pdC)
open Arn (wrL is64)
set_option linter.unusedVariables false

theorem Start.a {w w1 w2 : World} {h : Hm} {q a : Nat} (hB1 : Below w.heap.size w w1) (hb2 : Below w1.heap.size w1 w2)
    (hbg : ∀ W, Below w1.heap.size w1 W → Calls Tryz.prog 7 #[pV h] W fun e W' => ∃ l0, e = .returned (.int .i64 0) ∧ Wd w h w1.heap.size 7 224 l0 l0 (List.replicate 7 Sl.zero) W' ∧ Fr W.heap.size (blkM h) W W')
    (hk1 : ∀ k, blkM h k → k < w1.heap.size) (hq0 : w1.heap.size ≤ q) (hq1 : q < w2.heap.size) (ha0 : w1.heap.size ≤ a) (hdq : ∀ W', Below w2.heap.size w2 W' → ∀ n : Nat × Nat, n.1 ≤ W'.heap.size → n.2 < W'.heap.size → Dq n W' q a 7 224 (List.replicate 7 Sl.zero)) : Start w h q a w1.heap.size w2 := by
  have := hB1.size
  exact ⟨fun W hW => hbg W (hb2.trans (hW.mono hb2.size)), fun W hW => hdq W hW (w1.heap.size, q) (Nat.le_trans hb2.size hW.size) (Nat.lt_of_lt_of_le hq1 hW.size), fun z => by have := hk1 _ z; omega, fun z => by have := hk1 _ z; omega, by omega⟩
theorem Start.b {w w1 w2 : World} {h : Hm} {q a : Nat} (hb1 : Below w2.heap.size w2 w1)
    (hbg : ∀ W, Below w1.heap.size w1 W → Calls Tryz.prog 7 #[pV h] W fun e W' => ∃ l0, e = .returned (.int .i64 0) ∧ Wd w h w1.heap.size 7 224 l0 l0 (List.replicate 7 Sl.zero) W' ∧ Fr W.heap.size (blkM h) W W')
    (hk1 : ∀ k, blkM h k → w2.heap.size ≤ k) (hq1 : q < w2.heap.size) (ha1 : a < w2.heap.size) (h0 : w.heap.size ≤ a) (hdq : ∀ W', Below w2.heap.size w2 W' → ∀ n : Nat × Nat, n.1 ≤ W'.heap.size → n.2 < W'.heap.size → Dq n W' q a 7 224 (List.replicate 7 Sl.zero)) : Start w h q a w1.heap.size w1 := by
  exact ⟨hbg, fun W hW => hdq W (hb1.trans (hW.mono hb1.size)) (w1.heap.size, q) hW.size (Nat.lt_of_lt_of_le hq1 (Nat.le_trans hb1.size hW.size)), fun z => by have := hk1 _ z; omega, fun z => by have := hk1 _ z; omega, h0⟩
end Go.Proofs.YthnjpmgfikhemaaGreatDoor.Sla

namespace Go.Proofs.YthnjpmgfikhemaaGreatDoor.Sla
open Go.RowKit Num
open Mem (Mm MemC MRet Hm rd blkM)
open Lis (Cf LM LR Tb at_ Nx Pv Rep Hx valsN)
open Cls (szC blC pdC)
open Arn (wrL is64)
set_option linter.unusedVariables false

/-- How many of the first slabs have no class. -/
def czF (T : List Sl) : Nat → Nat
  | 0 => 0
  | k + 1 => czF T k + if (T.getD k Sl.zero).c = 0 then 1 else 0
theorem czF_le (T : List Sl) : ∀ k, czF T k ≤ k
  | 0 => Nat.le_refl _
  | k + 1 => by have := czF_le T k; rw [czF]; split <;> omega
theorem czF_len (T : List Sl) : czF T T.length = (czL T).length := by
  unfold czL
  generalize T.length = n
  induction n with
  | zero => rfl
  | succ n ih =>
    rw [czF, ih, List.range_succ, List.filter_append, List.length_append]
    congr 1
    by_cases h : (T.getD n Sl.zero).c = 0
    · rw [if_pos h]; simp only [List.filter_cons, h, decide_true, if_true, List.filter_nil, List.length_singleton]
    · rw [if_neg h]; simp only [List.filter_cons, h, decide_false, List.filter_nil]; rfl
section
variable {n : Nat × Nat} {q a S N : Nat} {T T' : List Sl} {W W' : World} {h : Hm}
set_option maxRecDepth 100000 in
theorem refFree_any (d : Dq n W q a S N T) : Calls Tryz.prog 14 #[.pointer (some ⟨q, 0, none⟩)] W fun e W' => e = .returned (.int .i64 ((czL T).length : Int)) ∧ W' = W := by
  rw [← czF_len, d.tk.l]
  obtain ⟨-, -, d2⟩ := d.cells
  have HA := Lib.hid (fun j (hj : j < S) => d.at hj)
  have hS := d.hi
  clear d
  go_enter Tryz.func14, Tryz.ntmps14
  go_wp2
  go_loopw [3, 4] (fun m i wr => ∃ k : Nat, k ≤ S ∧ m = .int .i64 ((czF T k : Nat) : Int) ∧ i = .int .i64 (k : Int) ∧ W = wr) (fun _ i _ => S - (intOf i).toNat)
  case atStart => exact ⟨0, Nat.zero_le _, rfl, rfl, rfl⟩
  case round =>
    obtain ⟨k, hk, rfl, rfl, rfl⟩ := hrel
    by_cases hlt : k < S
    · have hlt1 : (k : Int) < (S : Int) := by omega
      have hlt0 : (0 : Int) ≤ (k : Int) := by omega
      obtain ⟨u, v, c0, -⟩ := HA.out k hlt
      have hcz := czF_le T k
      have he : Hid (czF T (k + 1) = czF T k + if (T.getD k Sl.zero).c = 0 then 1 else 0) := rfl
      have hw : IntKind.i64.wrap (((czF T k : Nat) : Int) + 1) = ((czF T k + 1 : Nat) : Int) := (wrap_ok (by omega) (by omega)).trans (by omega)
      have hkw : IntKind.i64.wrap ((k : Int) + 1) = ((k + 1 : Nat) : Int) := (wrap_ok (by omega) (by omega)).trans (by omega)
      obtain ⟨g, hg⟩ : ∃ g, g = (T.getD k Sl.zero).c := ⟨_, rfl⟩
      rw [← hg] at c0 he
      clear hg
      by_cases h0 : g = 0
      · subst h0
        go_wp2
        go_roundw
        case rel => exact ⟨k + 1, by omega, by rw [he.out, if_pos rfl]; first | rfl | go_num, by go_num, by first | trivial | rfl⟩
        case measure => simp [intOf]; omega
      · have h1 : ¬ (g : Int) = 0 := by omega
        have h2 : ((g : Int) == 0) = false := by simpa using h0
        go_wp2
        go_roundw
        case rel => exact ⟨k + 1, by omega, by rw [he.out, if_neg h0, Nat.add_zero], by go_num, by first | trivial | rfl⟩
        case measure => simp [intOf]; omega
    · obtain rfl : k = S := by omega
      go_wp2
      go_ret
      exact ⟨rfl, rfl⟩
set_option maxRecDepth 100000 in
theorem refRoom_any (d : Dq n W q a S N T) (c : Int) : Calls Tryz.prog 19 #[.pointer (some ⟨q, 0, none⟩), .int .i64 c] W fun e W' => e = .returned (.int .i64 (rmF T c S : Int)) ∧ W' = W := by
  obtain ⟨-, -, d2⟩ := d.cells
  have HA := Lib.hid (fun j (hj : j < S) => d.at hj)
  have HOk := Lib.hid (fun j (hj : j < S) => d.tk.ok j hj)
  have HLe := Lib.hid (rmF_le (S := S) (T := T) (fun j hj => d.tk.ok j hj) c)
  have hS := d.hi
  clear d
  go_enter Tryz.func19, Tryz.ntmps19
  go_wp2
  go_loopw [5, 6] (fun m i wr => ∃ k : Nat, k ≤ S ∧ m = .int .i64 ((rmF T c k : Nat) : Int) ∧ i = .int .i64 (k : Int) ∧ W = wr) (fun _ i _ => S - (intOf i).toNat)
  case atStart => exact ⟨0, Nat.zero_le _, rfl, rfl, rfl⟩
  case round =>
    obtain ⟨k, hk, rfl, rfl, rfl⟩ := hrel
    by_cases hlt : k < S
    · have hlt1 : (k : Int) < (S : Int) := by omega
      have hlt0 : (0 : Int) ≤ (k : Int) := by omega
      obtain ⟨u, v, c0, c1, -, hf, -⟩ := HA.out k hlt
      obtain ⟨⟨ad, cap, rfl, -⟩, -⟩ := hf
      have hok := HOk.out k hlt
      have hl := HLe.out k hk
      have h32 := (v_le _ hok).2
      have hfl : (Lis.ints (fA S N T k)).length = (T.getD k Sl.zero).f.length := by rw [Lis.ints_length]; unfold fA; rw [List.length_map]
      rw [hfl] at c1
      have he : Hid (rmF T c (k + 1) = rmF T c k + if ((T.getD k Sl.zero).c : Int) = c then (T.getD k Sl.zero).f.length else 0) := rfl
      have hz : (T.getD k Sl.zero).c = 0 → (T.getD k Sl.zero).f.length = 0 := fun h0 => by
        have hb : blC ((T.getD k Sl.zero).c : Int) = 0 := by rw [h0]; decide
        cases hf : (T.getD k Sl.zero).f with
        | nil => rfl
        | cons x r =>
          have := hok.lt x (by rw [hf]; simp)
          omega
      obtain ⟨A, hA⟩ : ∃ A, A = rmF T c k := ⟨_, rfl⟩
      obtain ⟨b, hb⟩ : ∃ b, b = (T.getD k Sl.zero).f.length := ⟨_, rfl⟩
      obtain ⟨g, hg⟩ : ∃ g, g = (T.getD k Sl.zero).c := ⟨_, rfl⟩
      rw [← hA] at hl ⊢
      rw [← hb] at c1 h32 hz
      rw [← hA, ← hb, ← hg] at he
      rw [← hg] at c0 hz
      have hw : IntKind.i64.wrap ((A : Int) + (b : Int)) = ((A + b : Nat) : Int) := (wrap_ok (by omega) (by omega)).trans (by omega)
      have hkw : IntKind.i64.wrap ((k : Int) + 1) = ((k + 1 : Nat) : Int) := (wrap_ok (by omega) (by omega)).trans (by omega)
      have HZ := Lib.hid hz
      clear hA hb hg hok hfl hz
      by_cases hgc : (g : Int) = c
      · subst hgc
        by_cases h0 : g = 0
        · subst h0
          obtain rfl := HZ.out rfl
          go_wp2
          go_roundw
          case rel => exact ⟨k + 1, by omega, by rw [he.out, if_pos rfl, Nat.add_zero], by go_num, by first | trivial | rfl⟩
          case measure => simp [intOf]; omega
        · have h1 : (0 : Int) < (g : Int) := by omega
          go_wp2
          go_roundw
          case rel => exact ⟨k + 1, by omega, by rw [he.out, if_pos rfl]; first | rfl | go_num, by go_num, by first | trivial | rfl⟩
          case measure => simp [intOf]; omega
      · have h2 : ((g : Int) == c) = false := by simpa using hgc
        go_wp2
        go_roundw
        case rel => exact ⟨k + 1, by omega, by rw [he.out, if_neg hgc, Nat.add_zero], by go_num, by first | trivial | rfl⟩
        case measure => simp [intOf]; omega
    · obtain rfl : k = S := by omega
      go_wp2
      go_ret
      exact ⟨rfl, rfl⟩
/-- Is it where a live block begins? -/
def isV (S N : Nat) (T : List Sl) (x : Int) : Prop := ∃ j, j < S ∧ ∃ t, t < (vA S N T j).length ∧ (((vA S N T j).getD t 0 : Nat) : Int) = x
theorem isV_iff {x : Int} : isV S N T x ↔ ∃ y : Nat, x = y ∧ Lv S N T y := by
  constructor
  · rintro ⟨j, hj, t, ht, rfl⟩
    refine ⟨_, rfl, j, ?_⟩
    have hm : (vA S N T j).getD t 0 ∈ vA S N T j := by
      rw [List.getD, List.getElem?_eq_getElem ht]
      exact List.getElem_mem _
    obtain ⟨k, hk, e⟩ := (vA_mem S N T j _).1 hm
    exact ⟨k, hj, hk, e⟩
  · rintro ⟨y, rfl, j, k, hj, hk, e⟩
    obtain ⟨t, ht, e2⟩ := List.getElem_of_mem ((vA_mem S N T j y).2 ⟨k, hk, e⟩)
    refine ⟨j, hj, t, ht, ?_⟩
    rw [List.getD, List.getElem?_eq_getElem ht, Option.getD_some, e2]
set_option maxRecDepth 100000 in
theorem refIs_any (d : Dq n W q a S N T) (x : Int) : Calls Tryz.prog 48 #[.pointer (some ⟨q, 0, none⟩), .int .i64 x] W fun e W' => ∃ b, e = .returned (.bool b) ∧ (b = true ↔ isV S N T x) ∧ W' = W := by
  obtain ⟨-, -, d2⟩ := d.cells
  have HA := Lib.hid (fun j (hj : j < S) => d.at hj)
  have HOk := Lib.hid (fun j (hj : j < S) => (v_le _ (d.tk.ok j hj)).1)
  have hS := d.hi
  clear d
  go_enter Tryz.func48, Tryz.ntmps48
  go_wp2
  go_loopw [5] (fun i wr => ∃ k : Nat, k ≤ S ∧ i = .int .i64 (k : Int) ∧ Hid (∀ j, j < k → ∀ t, t < (vA S N T j).length → (((vA S N T j).getD t 0 : Nat) : Int) ≠ x) ∧ W = wr) (fun i _ => S - (intOf i).toNat)
  case atStart => exact ⟨0, Nat.zero_le _, rfl, (fun j hj => by omega), rfl⟩
  case round =>
    obtain ⟨k, hk, rfl, HN, rfl⟩ := hrel
    by_cases hlt : k < S
    · have hlt1 : (k : Int) < (S : Int) := by omega
      have hlt0 : (0 : Int) ≤ (k : Int) := by omega
      obtain ⟨u, v, -, -, c2, -, hv⟩ := HA.out k hlt
      obtain ⟨⟨ad, cap, rfl, r2, r3, -, r5⟩, -⟩ := hv
      rw [Lis.ints_length] at *
      have hl32 : (vA S N T k).length ≤ 32 := by unfold vA; rw [List.length_map]; exact HOk.out k hlt
      have HR := Lib.hid r5
      have hkw : IntKind.i64.wrap ((k : Int) + 1) = ((k + 1 : Nat) : Int) := (wrap_ok (by omega) (by omega)).trans (by omega)
      obtain ⟨L, hL⟩ : ∃ L, L = (vA S N T k).length := ⟨_, rfl⟩
      rw [← hL] at c2 hl32 r2
      have HL := Lib.hid hL
      clear r5 hL r3
      go_wp2
      go_loopw [6] (fun i wr => ∃ t : Nat, t ≤ L ∧ i = .int .i64 (t : Int) ∧ Hid (∀ i, i < t → (((vA S N T k).getD i 0 : Nat) : Int) ≠ x) ∧ W = wr) (fun i _ => L - (intOf i).toNat)
      case atStart => exact ⟨0, Nat.zero_le _, rfl, (fun i hi => by omega), rfl⟩
      case round =>
        obtain ⟨t, ht, rfl, HM, rfl⟩ := hrel
        by_cases htl : t < L
        · have htl1 : (t : Int) < (L : Int) := by omega
          have htl0 : (0 : Int) ≤ (t : Int) := by omega
          have htw : IntKind.i64.wrap ((t : Int) + 1) = ((t + 1 : Nat) : Int) := (wrap_ok (by omega) (by omega)).trans (by omega)
          have hti : t < (vA S N T k).length := by rw [← HL.out]; exact htl
          obtain ⟨rb, off, rfl, hlb, hc⟩ := HR.out (by intro q; have := congrArg List.length q; rw [Lis.ints_length] at this; simp at this; rw [this] at hti; simp at hti)
          have c3 := hc t hti
          rw [Lis.ints_get] at c3
          obtain ⟨y, hy⟩ : ∃ y, y = (vA S N T k).getD t 0 := ⟨_, rfl⟩
          rw [← hy] at c3
          have HY := Lib.hid hy
          clear hc hy
          by_cases he : (y : Int) = x
          · subst he
            go_wp2
            go_ret
            exact ⟨true, rfl, ⟨fun _ => ⟨k, hlt, t, hti, by rw [← HY.out]⟩, fun _ => rfl⟩, rfl⟩
          · have h2 : ((y : Int) == x) = false := by simpa using he
            go_wp2
            go_roundw
            case rel => exact ⟨t + 1, by omega, by go_num, (fun i hi => by
              by_cases q : i = t
              · rw [q, ← HY.out]; exact he
              · exact HM.out i (by omega)), by first | trivial | rfl⟩
            case measure => simp [intOf]; omega
        · obtain rfl : t = L := by omega
          go_wp2
          go_roundw
          case rel => exact ⟨k + 1, by omega, by go_num, (fun j hj i hi => by
            by_cases q : j = k
            · subst q; exact HM.out i (by rw [HL.out]; exact hi)
            · exact HN.out j (by omega) i hi), by first | trivial | rfl⟩
          case measure => simp [intOf]; omega
    · obtain rfl : k = S := by omega
      go_wp2
      go_ret
      exact ⟨false, rfl, ⟨(fun h => by cases h), fun ⟨j, hj, t, ht, e⟩ => absurd e (HN.out j hj t ht)⟩, rfl⟩
end
end Go.Proofs.YthnjpmgfikhemaaGreatDoor.Sla

namespace Go.Proofs.YthnjpmgfikhemaaGreatDoor.Sla
open Go.RowKit Num
open Cls (szC blC pdC)
set_option linter.unusedVariables false
section
variable {n : Nat × Nat} {q a S N : Nat} {T T' : List Sl}
theorem gv_set (hr : Lay.rightC (S : Int) (N : Int) = true) {j k : Nat} (hj : j < S) (hk : k ∈ (T.getD j Sl.zero).v) :
    gvF S N T (pl (aT S N j) (T.getD j Sl.zero).c k : Int) = (0, T.set j (if (T.getD j Sl.zero).f.length + 1 = blC (T.getD j Sl.zero).c then Sl.zero else ⟨(T.getD j Sl.zero).c, k :: (T.getD j Sl.zero).f⟩)) := by
  obtain ⟨h1, h2⟩ := mem_lt hk
  have hf := fnd_live (N := N) (T := T) hr hj h1
  unfold gvF
  rw [hf]
  simp only
  rw [if_pos ⟨trivial, h2⟩]
theorem v_cons (c : Nat) (f : List Nat) (k : Nat) : (Sl.mk c (k :: f)).v = (Sl.mk c f).v.filter fun i => decide (i ≠ k) := by
  unfold Sl.v
  rw [List.filter_filter]
  refine List.filter_congr (fun i _ => ?_)
  by_cases h1 : i = k
  · simp [h1]
  · simp [h1]
theorem map_filter_pl {A : Nat} {c : Int} {k : Nat} {L : List Nat} (hk : k < blC c) (hL : ∀ i ∈ L, i < blC c) : (L.map (pl A c)).filter (fun y => decide (y ≠ pl A c k)) = (L.filter fun i => decide (i ≠ k)).map (pl A c) := by
  rw [List.filter_map]
  congr 1
  refine List.filter_congr (fun i hi => ?_)
  show decide (pl A c i ≠ pl A c k) = decide (i ≠ k)
  have h32 := (bl_in hk).2.2
  by_cases h : i = k
  · subst h; simp
  · have hne : pl A c i ≠ pl A c k := by
      intro e
      unfold pl at e
      have : i * szC c = k * szC c := by omega
      exact h (Nat.eq_of_mul_eq_mul_right (by omega) this)
    rw [decide_eq_true h, decide_eq_true hne]
/-- What the document's lists of that slab are behind it. -/
theorem given_lists (hT : Tk S T) {j k : Nat} (hj : j < S) (hk : k ∈ (T.getD j Sl.zero).v) :
    (vA S N T j).filter (fun y => decide (y ≠ pl (aT S N j) (T.getD j Sl.zero).c k)) = (Sl.mk (T.getD j Sl.zero).c (k :: (T.getD j Sl.zero).f)).v.map (pl (aT S N j) (T.getD j Sl.zero).c) ∧
    ((T.getD j Sl.zero).f.length + 1 = blC (T.getD j Sl.zero).c ↔ (Sl.mk (T.getD j Sl.zero).c (k :: (T.getD j Sl.zero).f)).v = []) := by
  obtain ⟨h1, h2⟩ := mem_lt hk
  have hok := hT.ok j hj
  constructor
  · unfold vA
    rw [map_filter_pl h1 (fun i hi => (mem_lt hi).1), v_cons]
  · have hok2 : (Sl.mk (T.getD j Sl.zero).c (k :: (T.getD j Sl.zero).f)).Ok := ⟨hok.c, List.nodup_cons.2 ⟨h2, hok.nd⟩, fun i hi => by
      rcases List.mem_cons.1 hi with rfl | hi
      · exact h1
      · exact hok.lt i hi⟩
    have := hok2.len
    simp only [List.length_cons] at this
    constructor
    · intro e
      exact List.length_eq_zero_iff.1 (by omega)
    · intro e
      have e2 := congrArg List.length e
      simp only [List.length_nil] at e2
      omega
/-- The document's Give where nothing lives. -/
theorem refGive_no {W : World} (d : Dq n W q a S N T) {x : Int} (hx : ∀ y : Nat, x = y → ¬ Lv S N T y) :
    Calls Tryz.prog 12 #[.pointer (some ⟨q, 0, none⟩), .int .i64 x] W fun e W' => e = .returned (.int .i64 (gvF S N T x).1) ∧ W' = W := by
  rw [gv_no d.right hx]
  have HI : Hid (Calls Tryz.prog 48 #[.pointer (some ⟨q, 0, none⟩), .int .i64 x] W fun e W' => e = .returned (.bool false) ∧ W' = W) := by
    refine (refIs_any d x).mono ?_
    rintro e W' ⟨b, rfl, hb, rfl⟩
    refine ⟨?_, rfl⟩
    cases b with
    | false => rfl
    | true =>
      obtain ⟨y, hy, hl⟩ := isV_iff.1 (hb.1 rfl)
      exact absurd hl (hx y hy)
  clear d hx
  go_enter Tryz.func12, Tryz.ntmps12
  go_wp2_with fail
  refine HI.out.mono ?_
  rintro e w1 ⟨rfl, rfl⟩
  go_wp2
  go_ret
  exact ⟨rfl, rfl⟩
end
end Go.Proofs.YthnjpmgfikhemaaGreatDoor.Sla

namespace Go.Proofs.YthnjpmgfikhemaaGreatDoor.Sla
open Go.RowKit Num
open Mem (Mm MemC MRet Hm rd blkM)
open Lis (Cf LM LR Tb at_ Nx Pv Rep Hx valsN)
open Cls (szC blC pdC)
open Arn (wrL is64)
set_option linter.unusedVariables false
theorem own_one64 (w : World) (e : TypeId) (x : Int) : (w.alloc (.cells #[.int .i64 x] e)).ownsRow w.heap.size e 1 (.slice (some ⟨w.heap.size, 0, none⟩) 1 1) 1 (vals64 [x]) := ⟨rfl, .inr ⟨w.heap.size, 1, #[.int .i64 x], rfl, Nat.le_refl _, heap_alloc_new _ _, by omega, by unfold maxLen; omega, rfl, rfl⟩⟩
theorem filt_step {L : List Nat} {t x : Nat} (h : t < L.length) : (L.take (t + 1)).filter (fun y => decide (y ≠ x)) = if L.getD t 0 = x then (L.take t).filter (fun y => decide (y ≠ x)) else (L.take t).filter (fun y => decide (y ≠ x)) ++ [L.getD t 0] := by
  rw [List.take_succ_eq_append_getElem h, List.filter_append, List.getD, List.getElem?_eq_getElem h, Option.getD_some]
  by_cases e : L[t] = x
  · rw [if_pos e, List.filter_cons, if_neg (by simp [e])]; simp
  · rw [if_neg e, List.filter_cons, if_pos (by simp [e])]; simp
section
variable {n : Nat × Nat} {q a S N : Nat} {T T' : List Sl} {W W' : World}
set_option maxRecDepth 100000 in
set_option maxHeartbeats 4000000 in
theorem refGive_yes (d : Dq n W q a S N T) {j k : Nat} (hj : j < S) (hk : k ∈ (T.getD j Sl.zero).v) :
    Calls Tryz.prog 12 #[.pointer (some ⟨q, 0, none⟩), .int .i64 (pl (aT S N j) (T.getD j Sl.zero).c k : Int)] W fun e W' => e = .returned (.int .i64 0) ∧ Dq n W' q a S N (gvF S N T (pl (aT S N j) (T.getD j Sl.zero).c k : Int)).2 ∧ Fr W.heap.size (fun b => b = a) W W' := by
  obtain ⟨i0, hi0, hz0, hz1, hz2⟩ := info_parts Lis.infoInt
  obtain ⟨hkb, hkf⟩ := mem_lt hk
  have hin := bl_in hkb
  have hS := d.hi
  have hxb : pl (aT S N j) (T.getD j Sl.zero).c k ≤ 100000 := fA_bd d.right hj (A := [k]) (c := (T.getD j Sl.zero).c) (fun i hi => by obtain rfl := List.mem_singleton.1 hi; exact hkb) _ (by simp)
  have hI : Calls Tryz.prog 48 #[.pointer (some ⟨q, 0, none⟩), .int .i64 (pl (aT S N j) (T.getD j Sl.zero).c k : Int)] W fun e W' => e = .returned (.bool true) ∧ W' = W := by
    refine (refIs_any d _).mono ?_
    rintro e W' ⟨b, rfl, hb, rfl⟩
    refine ⟨?_, rfl⟩
    rw [hb.2 (isV_iff.2 ⟨_, rfl, j, k, hj, hk, rfl⟩)]
  have hSl := Lay.refSlab_any S N (pl (aT S N j) (T.getD j Sl.zero).c k : Int) W (by omega) (by omega)
  rw [inC_at d.right hj (by unfold pl; omega) (by unfold pl; omega)] at hSl
  have hgl := given_lists (N := N) d.tk hj hk
  have hgs := gv_set (N := N) d.right hj hk
  obtain ⟨R, hR⟩ : ∃ R, R = T.set j (if (T.getD j Sl.zero).f.length + 1 = blC (T.getD j Sl.zero).c then Sl.zero else ⟨(T.getD j Sl.zero).c, k :: (T.getD j Sl.zero).f⟩) := ⟨_, rfl⟩
  have hgv := (gv_yes (N := N) d.tk d.right hj hk).2
  rw [hgs, ← hR] at hgv
  rw [hgs, ← hR]
  have HG := Lib.hid d.g
  have HFin : Hid (∀ W' C F V, Dg n W' q a S N C F V → (∀ i, i < S → C i = (R.getD i Sl.zero).c ∧ F i = fA S N R i ∧ V i = vA S N R i) → Dq n W' q a S N R) := fun W' C F V g hC => g.dq hgv.ok d.hi d.right hC
  have hself : R.getD j Sl.zero = if (T.getD j Sl.zero).f.length + 1 = blC (T.getD j Sl.zero).c then Sl.zero else ⟨(T.getD j Sl.zero).c, k :: (T.getD j Sl.zero).f⟩ := by
    rw [hR]
    exact getD_set1 _ _ _ (by rw [d.tk.l]; exact hj)
  have HE1 : Hid ((T.getD j Sl.zero).f.length + 1 = blC (T.getD j Sl.zero).c → ∀ Y Z i, i < S → up1 (fun i => (T.getD i Sl.zero).c) j 0 i = (R.getD i Sl.zero).c ∧ up1 (up1 (fA S N T) j Y) j [] i = fA S N R i ∧ up1 (up1 (vA S N T) j Z) j [] i = vA S N R i) := fun hc Y Z i hi => by
    by_cases e : i = j
    · subst e
      rw [up1_self, up1_self, up1_self]
      unfold fA vA
      rw [hself, if_pos hc, zero_v (s := Sl.zero) rfl]
      exact ⟨rfl, rfl, rfl⟩
    · rw [up1_ne _ _ e, up1_ne _ _ e, up1_ne _ _ e, up1_ne _ _ e, up1_ne _ _ e]
      unfold fA vA
      rw [hgv.oth i e]
      exact ⟨rfl, rfl, rfl⟩
  have HE2 : Hid (¬ (T.getD j Sl.zero).f.length + 1 = blC (T.getD j Sl.zero).c → ∀ i, i < S → (T.getD i Sl.zero).c = (R.getD i Sl.zero).c ∧ up1 (fA S N T) j (pl (aT S N j) (T.getD j Sl.zero).c k :: fA S N T j) i = fA S N R i ∧ up1 (vA S N T) j ((Sl.mk (T.getD j Sl.zero).c (k :: (T.getD j Sl.zero).f)).v.map (pl (aT S N j) (T.getD j Sl.zero).c)) i = vA S N R i) := fun hc i hi => by
    by_cases e : i = j
    · subst e
      rw [up1_self, up1_self]
      unfold fA vA
      rw [hself, if_neg hc]
      exact ⟨rfl, rfl, rfl⟩
    · rw [up1_ne _ _ e, up1_ne _ _ e]
      unfold fA vA
      rw [hgv.oth i e]
      exact ⟨rfl, rfl, rfl⟩
  have hvl : (vA S N T j).length ≤ 64 := by
    have h1 := (v_le _ (d.tk.ok j hj)).1
    unfold vA
    rw [List.length_map]
    omega
  have hfl : (fA S N T j).length ≤ 64 := by
    have h1 := (v_le _ (d.tk.ok j hj)).2
    unfold fA
    rw [List.length_map]
    omega
  have hvb : ∀ y ∈ vA S N T j, y ≤ 100000 := by
    unfold vA
    exact fA_bd d.right hj (fun y hy => (mem_lt hy).1)
  have hfb : ∀ y ∈ fA S N T j, y ≤ 100000 := by
    unfold fA
    exact fA_bd d.right hj (fun y hy => (d.tk.ok j hj).lt y hy)
  have hlen := d.tk.l
  have HGl := Lib.hid hgl
  obtain ⟨x, hx⟩ : ∃ x, x = pl (aT S N j) (T.getD j Sl.zero).c k := ⟨_, rfl⟩
  rw [← hx] at hI hSl hxb ⊢
  have HX := Lib.hid hx
  have HI := Lib.hid hI
  have HSl := Lib.hid hSl
  have hj0 : (0 : Int) ≤ (j : Int) := by omega
  have hj1 : (j : Int) < (S : Int) := by omega
  obtain ⟨c0, c1, c2⟩ := d.cells
  obtain ⟨L0, hL0⟩ : ∃ L0, L0 = vA S N T j := ⟨_, rfl⟩
  rw [← hL0] at hvl hvb
  have HL0 := Lib.hid hL0
  clear hgl hgs hgv hself hR hI hSl hx hL0 hin d
  go_enter Tryz.func12, Tryz.ntmps12
  go_wp2_with fail
  refine HI.out.mono ?_
  rintro e w1 ⟨rfl, rfl⟩
  go_wp2_with fail
  refine HSl.out.mono ?_
  rintro e w2 ⟨rfl, hb2⟩
  have HB2 := Lib.hid hb2
  have HG2 := Lib.hid (HG.out.below hb2)
  clear hb2 HG HI HSl c0 c1 c2
  obtain ⟨B0, hB0⟩ : ∃ B0, B0 = w2.heap.size := ⟨_, rfl⟩
  have hg := HG2.out
  obtain ⟨u2, v, b0, b1, b2, b3, b4⟩ := hg.at hj
  rw [← HL0.out] at b4
  obtain ⟨ad, vcap, rfl, r1, r2, -, r4⟩ := b4.r
  rw [Lis.ints_length] at r1 r4 b2
  have HLV : Hid (∀ wr, Below B0 w2 wr → wr.cell? ⟨q, 2, none⟩ = some (.slice (some ⟨a, 0, none⟩) S S) ∧ wr.cell? ⟨a, j * 3 + 2, none⟩ = some (.slice ad L0.length vcap) ∧ B0 ≤ wr.heap.size) := fun wr h => by
    rw [hB0] at h
    exact ⟨(h.cell (p := ⟨q, 2, none⟩) hg.lt.1).trans hg.cells.2.2, (h.cell (p := ⟨a, j * 3 + 2, none⟩) hg.lt.2).trans b2, by have := h.size; omega⟩
  have HV : Hid (∀ wr k, Below B0 w2 wr → k < L0.length → ∃ vb vo, ad = some ⟨vb, vo, none⟩ ∧ wr.cell? ⟨vb, vo + k, none⟩ = some (.int .i64 ((L0.getD k 0 : Nat) : Int))) := fun wr k h hk => by
    rw [hB0] at h
    obtain ⟨vb, vo, e, hlt, hc⟩ := r4 (by rintro q; have := Lis.ints_length L0; rw [q] at this; simp at this; omega)
    have := hc k hk
    rw [Lis.ints_get] at this
    exact ⟨vb, vo, e, (h.cell (p := ⟨vb, vo + k, none⟩) hlt).trans this⟩
  have HB0 := Lib.hid hB0
  clear hg b0 b1 b2 b3 b4 r1 r2 r4 hB0
  go_wp2
  go_loopw [7, 8] (fun s7 s8 wr => ∃ t : Nat, t ≤ L0.length ∧ s8 = .int .i64 (t : Int) ∧ Hid (OwnI B0 wr s7 ((L0.take t).filter fun y => decide (y ≠ x))) ∧ Hid (Below B0 w2 wr)) (fun _ i _ => L0.length - (intOf i).toNat)
  case atStart => exact ⟨0, Nat.zero_le _, rfl, OwnI.nil _ _, Below.refl _ _⟩
  case round =>
    obtain ⟨t, ht, rfl, HO, HW⟩ := hrel
    obtain ⟨d0, d1, hsz⟩ := HLV.out _ HW.out
    have hA := HO.out
    have hld : ((L0.take t).filter fun y => decide (y ≠ x)).length ≤ 1000 := by
      have h1 := List.length_filter_le (fun y => decide (y ≠ x)) (L0.take t)
      rw [List.length_take] at h1
      omega
    by_cases htl : t < L0.length
    · have ht1 : (t : Int) < (L0.length : Int) := by omega
      have ht0 : (0 : Int) ≤ (t : Int) := by omega
      have htw : IntKind.i64.wrap ((t : Int) + 1) = ((t + 1 : Nat) : Int) := (Arn.wrap_id (by omega) (by omega)).trans (by omega)
      obtain ⟨vb, vo, rfl, d4⟩ := HV.out _ t HW.out htl
      have hst := filt_step (x := x) htl
      have hll : L0.length ≤ 64 := hvl
      obtain ⟨y, hy⟩ : ∃ y, y = L0.getD t 0 := ⟨_, rfl⟩
      rw [← hy] at d4 hst
      obtain ⟨A, hA1⟩ : ∃ A, A = (L0.take t).filter fun y => decide (y ≠ x) := ⟨_, rfl⟩
      rw [← hA1] at hA hld hst
      have HW0 := HW
      have HSt := Lib.hid hst
      clear hy hA1 HO hst
      by_cases hyx : y = x
      · subst hyx
        have hn := Lib.hid (HSt.out.trans (if_pos rfl))
        have HA := Lib.hid hA
        clear hA
        go_wp2
        go_roundw
        case rel => exact ⟨t + 1, by omega, by go_num, by unfold Hid; rw [hn.out]; exact HA.out, HW0.out⟩
        case measure => simp [intOf]; omega
      · have hn := Lib.hid (HSt.out.trans (if_neg hyx))
        have hyx1 : ((y : Int) == (x : Int)) = false := by simp; omega
        have hyx2 : ¬ (y : Int) = (x : Int) := by omega
        go_wp2_with (at_builtin; refine wpList_append_own _ rfl (.tmp 48) (.tmp 60) 32 rfl B0 3 i0 (.int .i64 0) 1 8 Tryz.underlying32 hi0 hz0 hz1 hz2 rfl (by decide) _ _ _ rfl (World.ownsRow.alloc hA _) ⟨wr.heap.size, 0, none⟩ 1 1 [.int .i64 (y : Int)] rfl rfl (news_one _ _ _ _) (oneCell_one _ _) (by unfold maxLen; omega) (by omega) (by simp; omega) ?_)
        intro v5 w5 hown5 hgrow5 _
        have hb5 : Below B0 wr w5 := ((Below.refl B0 wr).alloc hsz _).grown hgrow5 (by simp; omega) (fun r hr => (World.ownsRow.lt hA r hr).1)
        have HO5 : Hid (OwnI B0 w5 v5 (A ++ [y])) := by
          unfold Hid OwnI
          rw [Lis.valsN_snoc, List.length_append]
          exact hown5
        have HW5 := Lib.hid (HW0.out.trans hb5)
        clear hA hown5 hgrow5 hb5
        go_wp2
        go_roundw
        case rel => exact ⟨t + 1, by omega, by go_num, by unfold Hid; rw [hn.out]; exact HO5.out, HW5.out⟩
        case measure => simp [intOf]; omega
    · obtain rfl : t = L0.length := by omega
      obtain ⟨X, hX⟩ : ∃ X, X = (L0.take L0.length).filter fun y => decide (y ≠ x) := ⟨_, rfl⟩
      rw [← hX] at hA hld
      have hX2 : X = L0.filter fun y => decide (y ≠ x) := by rw [hX, List.take_length]
      have hXb : ∀ y ∈ X, y ≤ 100000 := fun y hy => by rw [hX2] at hy; exact hvb y (List.mem_filter.1 hy).1
      have HX2 := Lib.hid hX2
      have hB0 := HB0.out
      have hG := HG2.out.below (by rw [← hB0]; exact HW.out)
      have hlt := HG2.out.lt
      have hnq := HG2.out.nq
      have hRX : RowD n q a wr _ X := ⟨(hA.row hXb).1, fun b hb => by have := World.ownsRow.lt hA b hb; omega⟩
      have hW3 := hG.setV hj hRX
      obtain ⟨p, c, rfl, hc1, hc2⟩ := hA.shape
      have hfz := hG.frz (j * 3 + 2)
      have hF3 : Fr w1.heap.size (fun b => b = a) w1 (wr.setCell ⟨a, j * 3 + 2, none⟩ (.slice p X.length c)) := Fr.setCell (S := fun b => b = a) (Fr.of_below (HB2.out.trans (HW.out.mono (by rw [hB0]; exact HB2.out.size)))) (p := ⟨a, j * 3 + 2, none⟩) (.inr rfl) _
      have HW3 := Lib.hid hW3
      have HF3 := Lib.hid hF3
      clear hX hX2 hXb hRX hW3 hF3 hA HO HV HLV
      go_wp2_with fail
      obtain ⟨W3, hW3e⟩ : ∃ W3, wr.setCell ⟨a, j * 3 + 2, none⟩ (.slice p X.length c) = W3 := ⟨_, rfl⟩
      rw [hW3e] at HW3 HF3 ⊢
      have hg3 := HW3.out
      obtain ⟨u3, v3, b0, b1, b2, b3, b4⟩ := hg3.at hj
      obtain ⟨fd, fcap, rfl, -⟩ := b3.r
      have hfr := b3.r
      obtain ⟨F0, hF0⟩ : ∃ F0, F0 = fA S N T j := ⟨_, rfl⟩
      rw [← hF0] at hfr b1 hfl hfb
      rw [Lis.ints_length] at hfr b1
      have HF0 := Lib.hid hF0
      have hlt3 := hg3.lt
      have hnq3 := hg3.nq
      have HOwn := Lib.hid (own_one64 W3 3 (x : Int)).drew
      have HA0 : Hid (Below W3.heap.size W3 (W3.alloc (.cells #[.int .i64 (x : Int)] 3)).drew) := (below_made W3 (.cells #[.int .i64 (x : Int)] 3)).drew
      have hs0 : W3.heap.size ≤ (W3.alloc (.cells #[.int .i64 (x : Int)] 3)).drew.heap.size := HA0.out.size
      have HSS : Hid (∀ W', Below W3.heap.size W3 W' → W'.cell? ⟨q, 2, none⟩ = some (.slice (some ⟨a, 0, none⟩) S S) ∧ W'.cell? ⟨a, j * 3 + 1, none⟩ = some (.slice fd F0.length fcap)) := fun W' h => ⟨(h.cell (p := ⟨q, 2, none⟩) hlt3.1).trans hg3.cells.2.2, (h.cell (p := ⟨a, j * 3 + 1, none⟩) hlt3.2).trans b1⟩
      have HRow : Hid (∀ W', Below W3.heap.size W3 W' → Row .i64 W' (.slice fd F0.length fcap) (Lis.ints F0)) := fun W' h => hfr.mono h (Nat.le_refl _)
      have hrl : 1 + (Lis.ints F0).length ≤ 1000000 := by rw [Lis.ints_length]; omega
      have HSt : Hid (∀ W1 g1 cap1, Below W3.heap.size W3 W1 → W1.ownsRow W3.heap.size 3 1 (.slice (some ⟨g1, 0, none⟩) (1 + (Lis.ints F0).length) cap1) (1 + (Lis.ints F0).length) (vals64 ([(x : Int)] ++ Lis.ints F0)) →
          Dg n (W1.setCell ⟨a, j * 3 + 1, none⟩ (.slice (some ⟨g1, 0, none⟩) (1 + (Lis.ints F0).length) cap1)) q a S N (fun j => (T.getD j Sl.zero).c) (up1 (fA S N T) j (x :: F0)) (up1 (vA S N T) j X) ∧ Fr w1.heap.size (fun b => b = a) w1 (W1.setCell ⟨a, j * 3 + 1, none⟩ (.slice (some ⟨g1, 0, none⟩) (1 + (Lis.ints F0).length) cap1))) := fun W1 g1 cap1 hB ho => by
        have ho2 : W1.ownsRow W3.heap.size 3 1 (.slice (some ⟨g1, 0, none⟩) (1 + (Lis.ints F0).length) cap1) (1 + (Lis.ints F0).length) (valsN (x :: F0)) := by
          rw [← vals64_ints]
          exact ho
        refine ⟨(HW3.out.below hB).setF hj (rowD_own ho2 (by rw [Lis.ints_length, List.length_cons]; omega) (fun y hy => by
          rcases List.mem_cons.1 hy with rfl | hy
          · exact hxb
          · exact hfb y hy) (by omega)), Fr.setCell (S := fun b => b = a) (HF3.out.trans ((Fr.of_below hB).mono HF3.out.size (fun _ _ q => q))) (p := ⟨a, j * 3 + 1, none⟩) (.inr rfl) _⟩
      obtain ⟨e1, e2⟩ := HSS.out _ HA0.out
      obtain ⟨e3, e4⟩ := HSS.out _ (Below.refl _ _)
      have hm := HA0.out.size
      clear b0 b1 b2 b3 b4 hfr hF0 hg3 hW3e hfz d0 d1
      go_cut [7] (fun s7 wx => s7 = .slice p X.length c ∧ Hid (Dg n wx q a S N (fun j => (T.getD j Sl.zero).c) (up1 (fA S N T) j (x :: F0)) (up1 (vA S N T) j X)) ∧ Hid (Fr w1.heap.size (fun b => b = a) w1 wx))
      case first =>
        go_region_law ((first | (refine step_append_ints _ (by rfl) (.tmp 76) (.tmp 84) 32 (by rfl) W3.heap.size 3 i0 (.int .i64 0) Tryz.underlying32 hi0 hz0 hz1 hz2 rfl _ 1 [(x : Int)] (by rfl) HOwn.out _ (Lis.ints F0) (by rfl) (HRow.out _ HA0.out) hrl hs0 ?_; intro v1 W1 ho1 hg1 hk1 hn1; have hB1 := HA0.out.grown hg1 hs0 (fun r hr => (HOwn.out.lt r hr).1); obtain ⟨s1, s2⟩ := HSS.out _ hB1; have hfz := (HW3.out.below hB1).frz (j * 3 + 1); obtain ⟨g1, cap1, rfl, hgg⟩ := own_open ho1 (hn1 (by simp)); clear hk1 hn1)))
        all_goals go_wp2_with fail
        all_goals go_meet
        all_goals exact ⟨rfl, (HSt.out _ _ _ hB1 ho1).1, (HSt.out _ _ _ hB1 ho1).2⟩
      case rest =>
        obtain ⟨rfl, HGc, HFc⟩ := hcut
        clear e1 e2 e3 e4 HOwn HA0 HSS HRow HSt hs0 hm HW3 HF3
        have hg := HGc.out
        obtain ⟨-, -, d2⟩ := hg.cells
        have hXv : X = (Sl.mk (T.getD j Sl.zero).c (k :: (T.getD j Sl.zero).f)).v.map (pl (aT S N j) (T.getD j Sl.zero).c) := by
          rw [HX2.out, HL0.out, HX.out]
          exact HGl.out.1
        have HXv := Lib.hid hXv
        clear hXv
        by_cases hX0 : X.length = 0
        · have hXn : X = [] := List.length_eq_zero_iff.1 hX0
          subst hXn
          have f1 := hg.frz (j * 3)
          have f2 := hg.frz (j * 3 + 1)
          have f3 := hg.frz (j * 3 + 2)
          obtain ⟨u9, v9, z0, z1, z2, -, -⟩ := hg.at hj
          have hgA := hg.setC hj 0
          have hgB := hgA.setF hj (u := .slice none 0 0) (X := []) ⟨Row.nil _ _, fun b hb => by cases hb⟩
          have hgC := hgB.setV hj (u := .slice none 0 0) (X := []) ⟨Row.nil _ _, fun b hb => by cases hb⟩
          have hFr := ((HFc.out.setCell (p := ⟨a, j * 3, none⟩) (.inr rfl) (.int .i64 (0 : Int))).setCell (p := ⟨a, j * 3 + 1, none⟩) (.inr rfl) (.slice none 0 0)).setCell (p := ⟨a, j * 3 + 2, none⟩) (.inr rfl) (.slice none 0 0)
          have HgC := Lib.hid hgC
          have HFr := Lib.hid hFr
          clear hgA hgB hgC hFr hg
          go_wp2
          go_ret
          have hc := HGl.out.2.2 (List.map_eq_nil_iff.1 HXv.out.symm)
          exact ⟨rfl, HFin.out _ _ _ _ HgC.out (HE1.out hc _ _), HFr.out⟩
        · have hX1 : ¬ (X.length : Int) = 0 := by omega
          have hX2 : ((X.length : Int) == 0) = false := by rw [beq_eq_false_iff_ne]; omega
          clear hg
          go_wp2
          go_ret
          have hc : ¬ (T.getD j Sl.zero).f.length + 1 = blC (T.getD j Sl.zero).c := fun q => by
            have h2 := HXv.out
            rw [HGl.out.2.1 q] at h2
            rw [h2] at hX0
            exact hX0 rfl
          have h2 := HE2.out hc
          rw [← HX.out, ← HF0.out, ← HXv.out] at h2
          exact ⟨rfl, HFin.out _ _ _ _ HGc.out h2, HFc.out⟩
end
end Go.Proofs.YthnjpmgfikhemaaGreatDoor.Sla

namespace Go.Proofs.YthnjpmgfikhemaaGreatDoor.Sla
open Go.RowKit Num
open Mem (Mm MemC MRet Hm rd blkM)
open Lis (Cf LM LR Tb at_ Nx Pv Rep Hx valsN)
open Cls (szC blC pdC)
open Arn (wrL is64)
set_option linter.unusedVariables false

/-- Both sides' state: the memory, the document's slabs, the places had. -/
structure Zs (w : World) (h : Hm) (n q a S N m : Nat) (l0 : List Int) (Tc Td : List Sl) (A : List Nat) (v : Value) (W : World) : Prop where
  d : ∃ l, Wd w h n S N l0 l Tc W
  g : ∃ x, Dq (n, x) W q a S N Td ∧ (v.ownBlock = none ∨ v.ownBlock = some x)
  o : OwnI m W v A
  p : ¬ blkM h q ∧ ¬ blkM h a ∧ w.heap.size ≤ a
  m : n ≤ m ∧ q < m ∧ a < m ∧ m ≤ W.heap.size
  ts : Ts w
section
variable {w W W' : World} {h : Hm} {n q a S N m : Nat} {l0 : List Int} {Tc Td T T' : List Sl} {A : List Nat} {v : Value}
theorem OwnI.fra (r : OwnI m W v A) (hf : Fr W.heap.size (fun b => b = a) W W') (ha : a < m) : OwnI m W' v A := by
  refine ⟨r.1, ?_⟩
  rcases r.2 with hn | ⟨g, cap, cur, rfl, hb, hgg, rest⟩
  · exact .inl hn
  · exact .inr ⟨g, cap, cur, rfl, hb, (hf.block g (Array.getElem?_eq_some_iff.1 hgg).1 (fun q => by omega)).trans hgg, rest⟩
theorem Zs.code (z : Zs w h n q a S N m l0 Tc Td A v W) {l l' : List Int} (hd : Wd w h n S N l0 l Tc W) (hs : St h S N l0 l' T' W') (hf : Fr W.heap.size (blkM h) W W') : Zs w h n q a S N m l0 T' Td A v W' := by
  obtain ⟨x, hx, hv⟩ := z.g
  have hlo := hd.lo
  exact ⟨⟨l', hd.fr hs hf⟩, ⟨x, hx.mem hf hlo z.p.1 z.p.2.1, hv⟩, z.o.fr hf (hlo.wide z.m.1), z.p, ⟨z.m.1, z.m.2.1, z.m.2.2.1, Nat.le_trans z.m.2.2.2 hf.size⟩, z.ts⟩
theorem Zs.doc (z : Zs w h n q a S N m l0 Tc Td A v W) {x : Nat} (hx : Dq (n, x) W' q a S N T') (hv : v.ownBlock = none ∨ v.ownBlock = some x) (hf : Fr W.heap.size (fun b => b = a) W W') : Zs w h n q a S N m l0 Tc T' A v W' := by
  obtain ⟨l, hd⟩ := z.d
  exact ⟨⟨l, hd.stay2 z.ts hf z.p.2.1 z.p.2.2⟩, ⟨x, hx, hv⟩, z.o.fra hf z.m.2.2.1, z.p, ⟨z.m.1, z.m.2.1, z.m.2.2.1, Nat.le_trans z.m.2.2.2 hf.size⟩, z.ts⟩
theorem Zs.below (z : Zs w h n q a S N m l0 Tc Td A v W) (hb : Below W.heap.size W W') : Zs w h n q a S N m l0 Tc Td A v W' := by
  obtain ⟨l, hd⟩ := z.d
  obtain ⟨x, hx, hv⟩ := z.g
  exact ⟨⟨l, hd.below hb⟩, ⟨x, hx.below hb, hv⟩, z.o.below hb, z.p, ⟨z.m.1, z.m.2.1, z.m.2.2.1, Nat.le_trans z.m.2.2.2 hb.size⟩, z.ts⟩
theorem Zs.take (z : Zs w h n q a S N m l0 Tc Td A v W) (c : Int) : Calls Tryz.prog 8 #[pV h, .int .i64 c] W fun e W' => e = .returned (.tuple #[.int .i64 (tkF S N Tc c).1.1, .int .i64 (tkF S N Tc c).1.2]) ∧ Zs w h n q a S N m l0 (tkF S N Tc c).2 Td A v W' ∧ ∀ b o u, n ≤ b → W.cell? ⟨b, o, none⟩ = some u → W'.cell? ⟨b, o, none⟩ = some u := by
  obtain ⟨l, hd⟩ := id z.d
  refine (hd.st.take c).mono ?_
  rintro e W' ⟨l', he, hs, hf, -, -⟩
  exact ⟨he, z.code hd hs hf, fun b o u hb hc => hf.cell hc (cell_lt hc) (fun k => by have := hd.lo.m b k; omega)⟩
theorem Zs.rtake (z : Zs w h n q a S N m l0 Tc Td A v W) (c : Int) : Calls Tryz.prog 9 #[.pointer (some ⟨q, 0, none⟩), .int .i64 c] W fun e W' => e = .returned (.tuple #[.int .i64 (tkF S N Td c).1.1, .int .i64 (tkF S N Td c).1.2]) ∧ Zs w h n q a S N m l0 Tc (tkF S N Td c).2 A v W' := by
  obtain ⟨x, hx, hv⟩ := id z.g
  refine (refTake_any hx c).mono ?_
  rintro e W' ⟨he, hs, hf⟩
  exact ⟨he, z.doc hs hv hf⟩
theorem Zs.give (z : Zs w h n q a S N m l0 Tc Td A v W) {b : Int} (hb : is64 b) : Calls Tryz.prog 11 #[pV h, .int .i64 b] W fun e W' => e = .returned (.int .i64 (gvF S N Tc b).1) ∧ Zs w h n q a S N m l0 (gvF S N Tc b).2 Td A v W' := by
  obtain ⟨l, hd⟩ := id z.d
  refine (hd.st.give hb).mono ?_
  rintro e W' ⟨l', he, hs, hf, -⟩
  exact ⟨he, z.code hd hs hf⟩
theorem Zs.rgive (z : Zs w h n q a S N m l0 Tc Td A v W) (b : Int) : Calls Tryz.prog 12 #[.pointer (some ⟨q, 0, none⟩), .int .i64 b] W fun e W' => e = .returned (.int .i64 (gvF S N Td b).1) ∧ Zs w h n q a S N m l0 Tc (gvF S N Td b).2 A v W' := by
  obtain ⟨x, hx, hv⟩ := id z.g
  by_cases hl : ∃ y : Nat, b = y ∧ Lv S N Td y
  · obtain ⟨y, rfl, j, k, hj, hk, rfl⟩ := hl
    refine (refGive_yes hx hj hk).mono ?_
    rintro e W' ⟨he, hs, hf⟩
    rw [(gv_yes (N := N) hx.tk hx.right hj hk).1]
    exact ⟨he, z.doc hs hv hf⟩
  · have hn : ∀ y : Nat, b = y → ¬ Lv S N Td y := fun y e q => hl ⟨y, e, q⟩
    refine (refGive_no hx hn).mono ?_
    rintro e W' ⟨he, rfl⟩
    rw [gv_no hx.right hn] at he ⊢
    exact ⟨he, z⟩
theorem Zs.free (z : Zs w h n q a S N m l0 Tc Td A v W) : Calls Tryz.prog 13 #[pV h] W fun e W' => e = .returned (.int .i64 ((czL Tc).length : Int)) ∧ Zs w h n q a S N m l0 Tc Td A v W' := by
  obtain ⟨l, hd⟩ := id z.d
  refine hd.st.free.mono ?_
  rintro e W' ⟨he, hs, hf⟩
  exact ⟨he, z.code hd hs hf⟩
theorem Zs.rfree (z : Zs w h n q a S N m l0 Tc Td A v W) : Calls Tryz.prog 14 #[.pointer (some ⟨q, 0, none⟩)] W fun e W' => e = .returned (.int .i64 ((czL Td).length : Int)) ∧ Zs w h n q a S N m l0 Tc Td A v W' := by
  obtain ⟨x, hx, hv⟩ := id z.g
  refine (refFree_any hx).mono ?_
  rintro e W' ⟨he, rfl⟩
  exact ⟨he, z⟩
theorem Zs.faults (z : Zs w h n q a S N m l0 Tc Td A v W) : Calls Tryz.prog 15 #[pV h] W fun e W' => e = .returned (.int .i64 0) ∧ Zs w h n q a S N m l0 Tc Td A v W' := by
  obtain ⟨l, hd⟩ := id z.d
  refine (hd.st.faults hd.z).mono ?_
  rintro e W' ⟨he, hb⟩
  exact ⟨he, z.below hb⟩
theorem Zs.room (z : Zs w h n q a S N m l0 Tc Td A v W) (c : Int) : Calls Tryz.prog 18 #[pV h, .int .i64 c] W fun e W' => e = .returned (.int .i64 (rmF Tc c S : Int)) ∧ Zs w h n q a S N m l0 Tc Td A v W' := by
  obtain ⟨l, hd⟩ := id z.d
  refine (room_any hd.st c).mono ?_
  rintro e W' ⟨he, hs, hf⟩
  exact ⟨he, z.code hd hs hf⟩
theorem Zs.rroom (z : Zs w h n q a S N m l0 Tc Td A v W) (c : Int) : Calls Tryz.prog 19 #[.pointer (some ⟨q, 0, none⟩), .int .i64 c] W fun e W' => e = .returned (.int .i64 (rmF Td c S : Int)) ∧ Zs w h n q a S N m l0 Tc Td A v W' := by
  obtain ⟨x, hx, hv⟩ := id z.g
  refine (refRoom_any hx c).mono ?_
  rintro e W' ⟨he, rfl⟩
  exact ⟨he, z⟩
/-- A place more: the row of places grows, the document's rows stay. -/
theorem Zs.push (z : Zs w h n q a S N m l0 Tc Td A v W) {v' : Value} {y : Nat} (ho : W'.ownsRow m 3 1 v' (A.length + 1) (valsN A ++ [.int .i64 (y : Int)])) (hg : (W.alloc (.cells #[.int .i64 (y : Int)] 3)).grownBy W' v.ownBlock)
    (hn : v'.ownBlock = v.ownBlock ∨ v'.ownBlock = some (W.alloc (.cells #[.int .i64 (y : Int)] 3)).heap.size) : Zs w h n q a S N m l0 Tc Td (A ++ [y]) v' W' := by
  obtain ⟨l, hd⟩ := z.d
  obtain ⟨x, hx, hv⟩ := z.g
  have hs1 := Lay.size_alloc W (.cells #[.int .i64 (y : Int)] 3)
  have hbm := below_made W (.cells #[.int .i64 (y : Int)] 3)
  have hb : Below m W W' := ((Below.refl m W).alloc z.m.2.2.2 _).grown hg (by have := z.m.2.2.2; omega) (fun r hr => (World.ownsRow.lt z.o r hr).1)
  have hvm := fun r hr => World.ownsRow.lt z.o r hr
  have hf : Fr W.heap.size (fun b => v.ownBlock = some b) W W' := ⟨hb.os, hb.tape, hb.output, hb.size, fun b hb1 hb2 => by
    have e1 : (W.alloc (.cells #[.int .i64 (y : Int)] 3)).heap[b]? = W.heap[b]? := hbm.block b hb1
    rw [← e1]
    obtain ⟨g1, g2, g3, g4, g5⟩ := hg
    exact g5 b (by omega) (fun q => hb2 (by first | exact q | exact q.symm))⟩
  have hZ : ∀ b, (n ≤ b ∧ b ≠ x) ∨ b = q ∨ b = a → ¬ v.ownBlock = some b := fun b hb q => by
    have h1 := hvm b q
    have h2 := z.m
    rcases hv with hv | hv
    · rw [hv] at q; cases q
    · rw [hv] at q
      injection q with q
      omega
  have hlt' := World.ownsRow.lt ho
  refine ⟨⟨l, hd.low (hb.mono z.m.1)⟩, ?_, OwnI.snoc ho rfl, z.p, ⟨z.m.1, z.m.2.1, z.m.2.2.1, Nat.le_trans z.m.2.2.2 hb.size⟩, z.ts⟩
  cases hv' : v'.ownBlock with
  | none => exact ⟨x, hx.fr hf hZ, .inl rfl⟩
  | some y' =>
    refine ⟨y', hx.renew hf hZ ?_ (hlt' y' hv').2, .inr rfl⟩
    rcases hn with e | e
    · left
      rw [hv'] at e
      rcases hv with hv | hv
      · rw [hv] at e; cases e
      · rw [hv] at e; injection e
    · right
      rw [hv'] at e
      injection e with e
      omega
/-- The live blocks of a slab: the memory's, the document's. -/
theorem Zs.live (z : Zs w h n q a S N m l0 T T A v W) {j : Nat} (hj : j < S) {lv : Value} (hl : W.cell? ⟨a, j * 3 + 2, none⟩ = some lv) : Calls Tryz.prog 17 #[pV h, .int .i64 (j : Int)] W fun e W' => ∃ u, e = .returned u ∧ Zs w h n q a S N m l0 T T A v W' ∧ W'.cell? ⟨q, 2, none⟩ = some (.slice (some ⟨a, 0, none⟩) S S) ∧ W'.cell? ⟨a, j * 3 + 2, none⟩ = some lv ∧ Row .i64 W' u (Lis.ints (vA S N T j)) ∧ Row .i64 W' lv (Lis.ints (vA S N T j)) := by
  obtain ⟨l, hd⟩ := id z.d
  obtain ⟨x, hx, hv⟩ := id z.g
  refine (sl_live hd.st hj).mono ?_
  rintro e W' ⟨u, rfl, hs, hf, hr, hb⟩
  have z' := z.code hd hs hf
  obtain ⟨x', hx', hv'⟩ := id z'.g
  obtain ⟨u1, v1, c0, c1, c2, r1, r2⟩ := hx'.at hj
  have hc : W'.cell? ⟨a, j * 3 + 2, none⟩ = some lv := hf.cell hl hx.lt.2 z.p.2.1
  rw [hc] at c2
  injection c2 with c2
  subst c2
  have e : kpA S N j (T.getD j Sl.zero) 5 = vA S N T j := by unfold kpA vA; rw [kp_live]
  rw [e] at hr
  exact ⟨u, rfl, z', hx'.cells.2.2, hc, hr, r2.r⟩
theorem Zs.cells (z : Zs w h n q a S N m l0 T T A v W) {j : Nat} (hj : j < S) : ∃ lv, W.cell? ⟨q, 2, none⟩ = some (.slice (some ⟨a, 0, none⟩) S S) ∧ W.cell? ⟨a, j * 3 + 2, none⟩ = some lv := by
  obtain ⟨x, hx, hv⟩ := id z.g
  obtain ⟨u1, v1, c0, c1, c2, r1, r2⟩ := hx.at hj
  exact ⟨v1, hx.cells.2.2, c2⟩
end
end Go.Proofs.YthnjpmgfikhemaaGreatDoor.Sla
