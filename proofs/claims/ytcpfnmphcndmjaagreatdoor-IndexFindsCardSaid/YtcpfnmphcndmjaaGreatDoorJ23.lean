/- The index within a statement: rows of blocks; what IndexFinds keeps. -/
import Derived.Test.YtcpfnmphcndmjaaGreatDoorJ21
import Derived.Test.YtcpfnmphcndmjaaGreatDoorJ1
import Derived.Test.YtcpfnmphcndmjaaGreatDoorJ22
import Derived.Maps.AppendAt
import Derived.Laws.StructEq
namespace Go.Proofs.YtcpfnmphcndmjaaGreatDoor.Ind
open Go.RowKit Num
open Pro
open Mem (Mm MemC MRet Hm rd blkM)
open Sla (Sl St Lv pl aT pV Lo tkF Ts X0)
open Arn (wrL is64)
set_option linter.unusedVariables false
set_option maxRecDepth 100000

/-! ### Rows of blocks -/
def encR (b : Rb) : List Value := [.int .i64 b.pos, .bool b.node, .int .u32 (b.name : Int), .int .u16 (b.typ : Int), .string b.lab, .int .u32 (b.hash : Int)]
theorem encR_len (b : Rb) : (encR b).length = 6 := rfl
def RRow (w : World) (v : Value) (A : List Rb) : Prop := ARow 6 encR Rb.zero w v A
abbrev OwnR (n : Nat) (W : World) (v : Value) (A : List Rb) : Prop := W.ownsRow n 33 6 v A.length (valsA encR A)
section
variable {n : Nat} {W W' : World} {u u' v v' : Value} {A A' C C' : List Rb} {h : Hm}
theorem OwnR.row (d : OwnR n W u A) : RRow W u A := arow_of_owns encR_len Rb.zero d rfl
theorem OwnR.below (d : OwnR n W u A) (hb : Below W.heap.size W W') : OwnR n W' u A := ownsRow_stays d hb
theorem OwnR.fr (d : OwnR n W u A) (hf : Fr W.heap.size (blkM h) W W') (hl : Lo h n) : OwnR n W' u A := by
  refine ⟨d.1, ?_⟩
  rcases d.2 with hn | ⟨g, cap, cur, rfl, hb, hgg, rest⟩
  · exact .inl hn
  · exact .inr ⟨g, cap, cur, rfl, hb, (hf.block g (Array.getElem?_eq_some_iff.1 hgg).1 (fun q => by have := hl.m g q; omega)).trans hgg, rest⟩
theorem OwnR.grown {r : Option Nat} (d : OwnR n W u A) (hg : W.grownBy W' r) (hne : ∀ b, u.ownBlock = some b → some b ≠ r) : OwnR n W' u A := by
  refine ⟨d.1, ?_⟩
  rcases d.2 with hn | ⟨g, cap, cur, rfl, hb, hgg, rest⟩
  · exact .inl hn
  · exact .inr ⟨g, cap, cur, rfl, hb, (hg.block g (Array.getElem?_eq_some_iff.1 hgg).1 (hne g rfl)).trans hgg, rest⟩
theorem OwnR.lower {m : Nat} (d : OwnR m W u A) (h : n ≤ m) : OwnR n W u A := by
  refine ⟨d.1, ?_⟩
  rcases d.2 with hn | ⟨g, cap, cur, rfl, hb, rest⟩
  · exact .inl hn
  · exact .inr ⟨g, cap, cur, rfl, by omega, rest⟩
theorem OwnR.base (d : OwnR n W u A) : ∀ b, u.ownBlock = some b → n ≤ b := by
  intro b hb
  rcases d.2 with ⟨rfl, -⟩ | ⟨g, cap, cur, rfl, hg, rest⟩
  · cases hb
  · cases hb; exact hg
theorem OwnR.lt (d : OwnR n W u A) : ∀ b, u.ownBlock = some b → b < W.heap.size := by
  intro b hb
  rcases d.2 with ⟨rfl, -⟩ | ⟨g, cap, cur, rfl, hg, hgg, rest⟩
  · cases hb
  · cases hb; exact (Array.getElem?_eq_some_iff.1 hgg).1
/-- Two rows in two blocks. -/
def Dj (u v : Value) : Prop := ∀ b, u.ownBlock = some b → v.ownBlock ≠ some b
theorem Dj.symm (h : Dj u v) : Dj v u := fun b h1 h2 => h b h2 h1
theorem Dj.nil (v : Value) : Dj (.slice none 0 0) v := fun b hb => by cases hb
theorem Dj.step (h : Dj u v) (hv : ∀ b, v.ownBlock = some b → b < W.heap.size) (ha : u'.ownBlock = u.ownBlock ∨ ∃ b, u'.ownBlock = some b ∧ W.heap.size ≤ b) : Dj u' v := by
  rcases ha with ha | ⟨b', ha, hb'⟩
  · intro b hb hv2
    rw [ha] at hb
    exact h b hb hv2
  · intro b hb hv2
    rw [ha] at hb
    injection hb with hb
    have := hv b hv2
    omega
/-- The two rows of the statement. -/
structure Ow2 (n : Nat) (W : World) (u v : Value) (A C : List Rb) : Prop where
  a : OwnR n W u A
  c : OwnR n W v C
  d : Dj u v
theorem Ow2.nil (n : Nat) (W : World) : Ow2 n W (.slice none 0 0) (.slice none 0 0) [] [] := ⟨World.ownsRow_nil _ _ _ _, World.ownsRow_nil _ _ _ _, Dj.nil _⟩
theorem Ow2.below (d : Ow2 n W u v A C) (hb : Below W.heap.size W W') : Ow2 n W' u v A C := ⟨d.a.below hb, d.c.below hb, d.d⟩
theorem Ow2.fr (d : Ow2 n W u v A C) (hf : Fr W.heap.size (blkM h) W W') (hl : Lo h n) : Ow2 n W' u v A C := ⟨d.a.fr hf hl, d.c.fr hf hl, d.d⟩
theorem Ow2.setA (d : Ow2 n W u v A C) (hg : W.grownBy W' u.ownBlock) (ho : OwnR n W' u' A') (ha : u'.ownBlock = u.ownBlock ∨ ∃ b, u'.ownBlock = some b ∧ W.heap.size ≤ b) : Ow2 n W' u' v A' C :=
  ⟨ho, d.c.grown hg (fun b hb q => d.d b q.symm hb), d.d.step d.c.lt ha⟩
theorem Ow2.setC (d : Ow2 n W u v A C) (hg : W.grownBy W' v.ownBlock) (ho : OwnR n W' v' C') (ha : v'.ownBlock = v.ownBlock ∨ ∃ b, v'.ownBlock = some b ∧ W.heap.size ≤ b) : Ow2 n W' u v' A C' :=
  ⟨d.a.grown hg (fun b hb q => d.d b hb q.symm), ho, (d.d.symm.step d.a.lt ha).symm⟩
theorem grown_low {r : Option Nat} (hg : W.grownBy W' r) (hn : n ≤ W.heap.size) (hr : ∀ b, r = some b → n ≤ b) : Below n W W' := (Below.refl n W).grown hg hn hr
theorem RRow.slice (d : RRow W u A) : ∃ a c, u = .slice a A.length c ∧ A.length ≤ c ∧ c ≤ 9223372036854775807 := by
  obtain ⟨a, c, h1, h2, h3, -⟩ := d
  exact ⟨a, c, h1, h2, h3⟩
theorem RRow.at {a : Option Addr} {l c : Nat} (d : RRow W (.slice a l c) A) {j : Nat} (hj : j < A.length) : ∃ b o, a = some ⟨b, o, none⟩ ∧ b < W.heap.size ∧ ∀ i x, (encR (A.getD j Rb.zero))[i]? = some x → W.cell? ⟨b, o + j * 6 + i, none⟩ = some x := by
  obtain ⟨a', c', e, -, -, h5⟩ := d
  injection e with e1 e2 e3
  obtain ⟨b, o, e4, hlt, hc⟩ := h5 (by rintro rfl; simp at hj)
  exact ⟨b, o, e1.trans e4, hlt, fun i x hx => hc j hj i x hx⟩
end
theorem infoR : (Tryz.prog.info? 33).map (fun i => (i.zero, i.size, i.bytes)) = some (some (.agg #[.int .i64 0, .bool false, .int .u32 0, .int .u16 0, .string { data := #[] }, .int .u32 0]), 6, 48) := by kernel_rfl
theorem eqR_run (b : Rb) (w : World) : (Op.equalIn 10000 33 b.agg b.agg).run Tryz.prog w = .ok true w := by
  unfold Rb.agg
  rw [show (10000 : Nat) = 9999 + 1 from rfl, run_equalIn_struct w 9999 33 _ _ (by kernel_rfl) (by kernel_rfl)]
  go_simp
/-- Is the block at a place like another one? Here it is. -/
theorem alike_any (u : Value) (A : List Rb) (p : Int) (b : Rb) (w : World) (hr : RRow w u A) (hn : A.length ≤ 1000) (hex : ∃ c ∈ A, c.pos = p) (hall : ∀ c ∈ A, c.pos = p → c = { b with pos := p }) :
    Calls Tryz.prog 26 #[u, .int .i64 p, b.agg] w fun e w' => e = .returned (.bool true) ∧ Below w.heap.size w w' := by
  have HR := Lib.hid hr
  obtain ⟨a, cap, rfl, q1, q2⟩ := hr.slice
  obtain ⟨w0, hw0⟩ : ∃ w0, w0 = w.alloc (.cells #[.int .i64 b.pos, .bool b.node, .int .u32 (b.name : Int), .int .u16 (b.typ : Int), .string b.lab, .int .u32 (b.hash : Int)] 33) := ⟨_, rfl⟩
  have hb0 : Below w.heap.size w w0 := by rw [hw0]; exact below_made _ _
  have hbx : w0.heap[w.heap.size]? = some (.cells #[.int .i64 b.pos, .bool b.node, .int .u32 (b.name : Int), .int .u16 (b.typ : Int), .string b.lab, .int .u32 (b.hash : Int)] 33 (0, 0)) := by rw [hw0]; exact heap_alloc_new _ _
  have hset := Arn.heap_setCell_own (o := 0) hbx (.int .i64 p)
  have hk0 : w0.cell? ⟨w.heap.size, 0, none⟩ = some (.int .i64 b.pos) := (cell_block hbx 0).trans rfl
  have hkf : w0.frozen? ⟨w.heap.size, 0, none⟩ = false := Hea.frozen_block hbx 0
  have hm : ∀ i, i < 6 → (w0.setCell ⟨w.heap.size, 0, none⟩ (.int .i64 p)).cell? ⟨w.heap.size, i, none⟩ = (encR { b with pos := p })[i]? := fun i hi => by
    rw [cell_block hset i]
    rcases (show i = 0 ∨ i = 1 ∨ i = 2 ∨ i = 3 ∨ i = 4 ∨ i = 5 by omega) with rfl | rfl | rfl | rfl | rfl | rfl <;> rfl
  have m0 : (w0.setCell ⟨w.heap.size, 0, none⟩ (.int .i64 p)).cell? ⟨w.heap.size, 0, none⟩ = some (.int .i64 p) := hm 0 (by omega)
  have m1 : (w0.setCell ⟨w.heap.size, 0, none⟩ (.int .i64 p)).cell? ⟨w.heap.size, 1, none⟩ = some (.bool b.node) := hm 1 (by omega)
  have m2 : (w0.setCell ⟨w.heap.size, 0, none⟩ (.int .i64 p)).cell? ⟨w.heap.size, 2, none⟩ = some (.int .u32 (b.name : Int)) := hm 2 (by omega)
  have m3 : (w0.setCell ⟨w.heap.size, 0, none⟩ (.int .i64 p)).cell? ⟨w.heap.size, 3, none⟩ = some (.int .u16 (b.typ : Int)) := hm 3 (by omega)
  have m4 : (w0.setCell ⟨w.heap.size, 0, none⟩ (.int .i64 p)).cell? ⟨w.heap.size, 4, none⟩ = some (.string b.lab) := hm 4 (by omega)
  have m5 : (w0.setCell ⟨w.heap.size, 0, none⟩ (.int .i64 p)).cell? ⟨w.heap.size, 5, none⟩ = some (.int .u32 (b.hash : Int)) := hm 5 (by omega)
  have HBe : Hid (Below w.heap.size w (w0.setCell ⟨w.heap.size, 0, none⟩ (.int .i64 p))) := hb0.setCell (p := ⟨w.heap.size, 0, none⟩) (Nat.le_refl _) _
  have HCell : Hid (∀ j, j < A.length → ∃ g o, a = some ⟨g, o, none⟩ ∧ g < w.heap.size ∧ (∀ i x, (encR (A.getD j Rb.zero))[i]? = some x → w0.cell? ⟨g, o + j * 6 + i, none⟩ = some x) ∧ ∀ i x, (encR (A.getD j Rb.zero))[i]? = some x → (w0.setCell ⟨w.heap.size, 0, none⟩ (.int .i64 p)).cell? ⟨g, o + j * 6 + i, none⟩ = some x) := fun j hj => by
    obtain ⟨g, o, e, hlt, hc⟩ := HR.out.at hj
    exact ⟨g, o, e, hlt, fun i x hx => (hb0.cell (p := ⟨g, o + j * 6 + i, none⟩) hlt).trans (hc i x hx), fun i x hx => (HBe.out.cell (p := ⟨g, o + j * 6 + i, none⟩) hlt).trans (hc i x hx)⟩
  have HAll : Hid (∀ j, j < A.length → (A.getD j Rb.zero).pos = p → A.getD j Rb.zero = { b with pos := p }) := fun j hj hp => hall _ (by simp [List.getD, hj]) hp
  have HEx : Hid (∃ j, j < A.length ∧ (A.getD j Rb.zero).pos = p) := by
    obtain ⟨c, hc, hp⟩ := hex
    obtain ⟨j, hj, rfl⟩ := List.getElem_of_mem hc
    exact ⟨j, hj, by simp [List.getD, hj, hp]⟩
  have heq := fun W => eqR_run { b with pos := p } W
  unfold Rb.agg at heq ⊢
  simp only at heq
  clear hr hex hall hset hm hb0 hbx
  go_enter Tryz.func26, Tryz.ntmps26
  go_wp2
  rw [← hw0]
  clear hw0
  go_loopw [7] (fun i wr => ∃ k : Nat, k ≤ A.length ∧ i = .int .i64 k ∧ wr = w0 ∧ Hid (∀ j, j < k → (A.getD j Rb.zero).pos ≠ p)) (fun i _ => A.length - (intOf i).toNat)
  case atStart => exact ⟨0, Nat.zero_le _, rfl, rfl, fun j hj => by omega⟩
  case round =>
    obtain ⟨k, hk, rfl, rfl, HK⟩ := hrel
    by_cases hlt : k < A.length
    · have hlt1 : (k : Int) < (A.length : Int) := by omega
      have hlt0 : (0 : Int) ≤ (k : Int) := by omega
      have hkw : IntKind.i64.wrap ((k : Int) + 1) = ((k + 1 : Nat) : Int) := (Ind.wrap_id (by omega) (by omega)).trans (by omega)
      obtain ⟨g, o, rfl, hgl, hc, hc2⟩ := HCell.out k hlt
      have d0 : wr.cell? ⟨g, o + k * 6, none⟩ = some (.int .i64 (A.getD k Rb.zero).pos) := hc 0 _ rfl
      by_cases hp : (A.getD k Rb.zero).pos = p
      · have hA := HAll.out k hlt hp
        rw [hA] at hc2 d0
        have e0 : World.cell? _ ⟨g, o + k * 6, none⟩ = some (.int .i64 p) := hc2 0 _ rfl
        replace d0 : wr.cell? ⟨g, o + k * 6, none⟩ = some (.int .i64 p) := d0
        have e1 : World.cell? _ ⟨g, o + k * 6 + 1, none⟩ = some (.bool b.node) := hc2 1 _ rfl
        have e2 : World.cell? _ ⟨g, o + k * 6 + 2, none⟩ = some (.int .u32 (b.name : Int)) := hc2 2 _ rfl
        have e3 : World.cell? _ ⟨g, o + k * 6 + 3, none⟩ = some (.int .u16 (b.typ : Int)) := hc2 3 _ rfl
        have e4 : World.cell? _ ⟨g, o + k * 6 + 4, none⟩ = some (.string b.lab) := hc2 4 _ rfl
        have e5 : World.cell? _ ⟨g, o + k * 6 + 5, none⟩ = some (.int .u32 (b.hash : Int)) := hc2 5 _ rfl
        have hpp : (p == p) = true := by simp
        clear hp hA hc hc2 HCell HAll HK HEx HR
        go_wp2_with fail
        go_quiet (fail)
        go_wp2
        go_ret
        exact ⟨ret_bool (by first | rfl | simp), by first | exact HBe.out | exact HBe.out.drew | exact below_drewN HBe.out _⟩
      · have hp1 : ((A.getD k Rb.zero).pos == p) = false := by simpa using hp
        have HK2 : Hid (∀ j, j < k + 1 → (A.getD j Rb.zero).pos ≠ p) := fun j hj => by
          by_cases e : j = k
          · subst e; exact hp
          · exact HK.out j (by omega)
        generalize (A.getD k Rb.zero).pos = y at d0 hp1
        clear hp hc hc2 m0 m1 m2 m3 m4 m5
        go_wp2
        go_roundw
        case rel => exact ⟨k + 1, by omega, by go_num, by first | rfl | trivial, HK2.out⟩
        case measure => simp [intOf]; omega
    · exfalso
      obtain ⟨j, hj, hp⟩ := HEx.out
      exact HK.out j (by omega) hp
end Go.Proofs.YtcpfnmphcndmjaaGreatDoor.Ind
