/- An act, on the landed lists and on the document's: the same answer. The other acts. -/
import Derived.Test.YtcakoikcafiolaaDoorJ12
import Derived.Deep.RegionHeld3
namespace Go.Proofs.YtcakoikcafiolaaDoor.Lis
open Go.RowKit Num Arn
open Mem (Mm MemC MRet Hm rd blkM)
set_option linter.unusedVariables false

/-- Blocks of one's own: made since w0, none of the memory's. -/
def Own (w0 : World) (h : Hm) (k : Nat) : Prop := w0.heap.size ≤ k ∧ ¬ blkM h k ∧ k ≠ 0 ∧ k ≠ 1
/-- Both, side by side. -/
structure Two (w0 : World) (h : Hm) (C : Cf) (l0 : List Int) (q a b : Nat) (H : List Hx) (L : List Int) (W : World) : Prop where
  ls : Ls w0 h C l0 H L W
  dc : Dc W q a b C.s H L
  own : Own w0 h q ∧ Own w0 h a ∧ Own w0 h b
/-- Both, and a box of an act. -/
structure Tw (w0 : World) (h : Hm) (C : Cf) (l0 : List Int) (q a b N : Nat) (X : Act) (H1 : List Hx) (L1 : List Int) (H2 : List Hx) (L2 : List Int) (W : World) : Prop where
  ls : Ls w0 h C l0 H1 L1 W
  dc : Dc W q a b C.s H2 L2
  own : Own w0 h q ∧ Own w0 h a ∧ Own w0 h b
  box : W.heap[N]? = some (.cells X.cells.toArray 35 (0, 0))
  nb : Own w0 h N ∧ N ≠ a ∧ N ≠ b
section
variable {w0 W : World} {h : Hm} {C : Cf} {l0 : List Int} {q a b N : Nat} {X : Act} {H1 H2 : List Hx} {L1 L2 : List Int}
theorem Tw.lt (d : Tw w0 h C l0 q a b N X H1 L1 H2 L2 W) : N < W.heap.size := (Array.getElem?_eq_some_iff.1 d.box).1
theorem Tw.drew (d : Tw w0 h C l0 q a b N X H1 L1 H2 L2 W) : Tw w0 h C l0 q a b N X H1 L1 H2 L2 W.drew := ⟨d.ls.drew, d.dc.drew, d.own, d.box, d.nb⟩
theorem Tw.cells (d : Tw w0 h C l0 q a b N X H1 L1 H2 L2 W) : W.cell? ⟨N, 0, none⟩ = some (.int .i64 X.k) ∧ W.cell? ⟨N, 1, none⟩ = some (.int .i64 X.c) ∧ W.cell? ⟨N, 2, none⟩ = some (.int .i64 X.s) ∧ W.cell? ⟨N, 3, none⟩ = some (.int .i64 X.l) ∧ W.cell? ⟨N, 4, none⟩ = some (.int .u32 X.f) :=
  ⟨(cell_block d.box 0).trans rfl, (cell_block d.box 1).trans rfl, (cell_block d.box 2).trans rfl, (cell_block d.box 3).trans rfl, (cell_block d.box 4).trans rfl⟩
/-- The landed one's call. -/
theorem Tw.one (d : Tw w0 h C l0 q a b N X H1 L1 H2 L2 W) {f : FuncId} {args : Array Value} {v : Value} {H' : List Hx} {L' : List Int}
    (hc : Calls Tryd.prog f args W fun e w' => e = .returned v ∧ Ls w0 h C l0 H' L' w' ∧ Fr W.heap.size (blkM h) W w') :
    Calls Tryd.prog f args W fun e w' => e = .returned v ∧ Tw w0 h C l0 q a b N X H' L' H2 L2 w' := by
  refine hc.mono ?_
  rintro e w' ⟨rfl, h1, hf⟩
  exact ⟨rfl, h1, d.dc.fr hf d.dc.lt ⟨d.own.1.2.1, d.own.2.1.2.1, d.own.2.2.2.1⟩, d.own, (hf.block _ d.lt d.nb.1.2.1).trans d.box, d.nb⟩
/-- The document's call. -/
theorem Tw.two (d : Tw w0 h C l0 q a b N X H1 L1 H2 L2 W) {f : FuncId} {args : Array Value} {v : Value} {H' : List Hx} {L' : List Int} {T : Nat → Prop} (hT : ∀ j, T j → j = a ∨ j = b)
    (hc : Calls Tryd.prog f args W fun e w' => e = .returned v ∧ Dc w' q a b C.s H' L' ∧ Fr W.heap.size T W w') :
    Calls Tryd.prog f args W fun e w' => e = .returned v ∧ Tw w0 h C l0 q a b N X H1 L1 H' L' w' := by
  refine hc.mono ?_
  rintro e w' ⟨rfl, h1, hf⟩
  have hTo : ∀ j, T j → Own w0 h j := fun j hj => by
    rcases hT j hj with rfl | rfl
    · exact d.own.2.1
    · exact d.own.2.2
  exact ⟨rfl, d.ls.other hf hTo, h1, d.own, (hf.block _ d.lt (fun q => by rcases hT _ q with e | e; exact d.nb.2.1 e; exact d.nb.2.2 e)).trans d.box, d.nb⟩
theorem Tw.both (d : Tw w0 h C l0 q a b N X H1 L1 H1 L1 W) : Two w0 h C l0 q a b H1 L1 W := ⟨d.ls, d.dc, d.own⟩
theorem Two.tw (d : Two w0 h C l0 q a b H1 L1 W) : Tw w0 h C l0 q a b W.heap.size X H1 L1 H1 L1 (W.alloc (.cells X.cells.toArray 35)) := by
  have hb := below_made W (.cells X.cells.toArray 35)
  have hlt := d.dc.lt
  refine ⟨d.ls.below hb, d.dc.below hb, d.own, heap_alloc_new _ _, ⟨?_, by omega, by omega⟩⟩
  obtain ⟨l, d1, -⟩ := d.ls
  have t := d1.m.tabs
  exact ⟨d1.b.size, fun q => by have : W.heap.size < W.heap.size := d1.m.lt _ q; omega, by omega, by omega⟩
theorem Two.below {W' : World} (d : Two w0 h C l0 q a b H1 L1 W) (hb : Below W.heap.size W W') : Two w0 h C l0 q a b H1 L1 W' := ⟨d.ls.below hb, d.dc.below hb, d.own⟩
theorem Two.drew (d : Two w0 h C l0 q a b H1 L1 W) : Two w0 h C l0 q a b H1 L1 W.drew := d.below (Below.refl _ _).drew
end

set_option maxRecDepth 100000 in
set_option maxHeartbeats 8000000 in
theorem act_remove (k : Int) (hk : k = 3 ∨ k = 4) (w0 : World) (h : Hm) (C : Cf) (hC : C.Ok) (l0 : List Int) (q a b : Nat) (H : List Hx) (L : List Int) (c s l f : Int) (w : World) (ht : Two w0 h C l0 q a b H L w) :
    Calls Tryd.prog 10 #[.pointer (some ⟨h.g, 0, none⟩), .pointer (some ⟨q, 0, none⟩), (⟨k, c, s, l, f⟩ : Act).agg] w fun e w' => e = .returned (.bool true) ∧ ∃ a' b' H' L', Two w0 h C l0 q a' b' H' L' w' := by
  have C1 : Hid (∀ W, Tw w0 h C l0 q a b w.heap.size ⟨k, c, s, l, f⟩ H L H L W → Calls Tryd.prog 20 #[.pointer (some ⟨h.g, 0, none⟩), .int .i64 c, .int .i64 s] W fun e w' => e = .returned (.int .i64 (rmE C.s L c s)) ∧ Tw w0 h C l0 q a b w.heap.size ⟨k, c, s, l, f⟩ H (rmL C.s L c s) H L w') := fun W d => d.one (d.ls.remove hC c s)
  have C2 : Hid (∀ W, Tw w0 h C l0 q a b w.heap.size ⟨k, c, s, l, f⟩ H (rmL C.s L c s) H L W → Calls Tryd.prog 33 #[.pointer (some ⟨q, 0, none⟩), .int .i64 c, .int .i64 s] W fun e w' => e = .returned (.int .i64 (rmE C.s L c s)) ∧ Tw w0 h C l0 q a b w.heap.size ⟨k, c, s, l, f⟩ H (rmL C.s L c s) H (rmL C.s L c s) w') := fun W d => d.two (fun j hj => .inr hj) (refRemove_any q a b C.s H L c s W d.dc)
  generalize rmE C.s L c s = E at C1 C2
  generalize rmL C.s L c s = L' at C1 C2
  have hm := ht.tw (X := ⟨k, c, s, l, f⟩)
  obtain ⟨c0, c1, c2, c3, c4⟩ := hm.cells
  have hcc : (E == E) = true := by simp
  simp only at c0 c1 c2 c3 c4
  unfold Act.cells at hm c0 c1 c2 c3 c4
  unfold Act.agg
  clear ht
  rcases hk with rfl | rfl
  · go_enter Tryd.func10, Tryd.ntmps10
    go_wp2_with fail
    go_region_held3 (fun w' => w'.cell? ⟨w.heap.size, 1, none⟩ = some (.int .i64 c) ∧ w'.cell? ⟨w.heap.size, 2, none⟩ = some (.int .i64 s)) (first | exact ⟨c1, c2⟩ | go_keep) ((first | (go_at_call 20; refine (C1.out _ (by first | exact hm | exact hm.drew)).mono ?_; rintro e w1 ⟨rfl, hm1⟩; replace hm := hm1; obtain ⟨c0, c1, c2, c3, c4⟩ := hm1.cells; simp only at c0 c1 c2 c3 c4; clear hm1) | (go_at_call 33; refine (C2.out _ (by first | exact hm | exact hm.drew)).mono ?_; rintro e w1 ⟨rfl, hm1⟩; replace hm := hm1; obtain ⟨c0, c1, c2, c3, c4⟩ := hm1.cells; simp only at c0 c1 c2 c3 c4; clear hm1)))
    go_wp2
    go_ret
    exact ⟨rfl, _, _, _, _, hm.both⟩
  · go_enter Tryd.func10, Tryd.ntmps10
    go_wp2_with fail
    go_region_held3 (fun w' => w'.cell? ⟨w.heap.size, 1, none⟩ = some (.int .i64 c) ∧ w'.cell? ⟨w.heap.size, 2, none⟩ = some (.int .i64 s)) (first | exact ⟨c1, c2⟩ | go_keep) ((first | (go_at_call 20; refine (C1.out _ (by first | exact hm | exact hm.drew)).mono ?_; rintro e w1 ⟨rfl, hm1⟩; replace hm := hm1; obtain ⟨c0, c1, c2, c3, c4⟩ := hm1.cells; simp only at c0 c1 c2 c3 c4; clear hm1) | (go_at_call 33; refine (C2.out _ (by first | exact hm | exact hm.drew)).mono ?_; rintro e w1 ⟨rfl, hm1⟩; replace hm := hm1; obtain ⟨c0, c1, c2, c3, c4⟩ := hm1.cells; simp only at c0 c1 c2 c3 c4; clear hm1)))
    go_wp2
    go_ret
    exact ⟨rfl, _, _, _, _, hm.both⟩
end Go.Proofs.YtcakoikcafiolaaDoor.Lis

namespace Go.Proofs.YtcakoikcafiolaaDoor.Lis
open Go.RowKit Num Arn
open Mem (Mm MemC MRet Hm rd blkM)
set_option linter.unusedVariables false

set_option maxRecDepth 100000 in
set_option maxHeartbeats 8000000 in
theorem act_insert (k : Int) (hk : k ≠ 3 ∧ k ≠ 4 ∧ k ≠ 5 ∧ k ≠ 6) (w0 : World) (h : Hm) (C : Cf) (hC : C.Ok) (l0 : List Int) (q a b : Nat) (H : List Hx) (L : List Int) (c s l f : Int) (w : World) (ht : Two w0 h C l0 q a b H L w) :
    Calls Tryd.prog 10 #[.pointer (some ⟨h.g, 0, none⟩), .pointer (some ⟨q, 0, none⟩), (⟨k, c, s, l, f⟩ : Act).agg] w fun e w' => e = .returned (.bool true) ∧ ∃ a' b' H' L', Two w0 h C l0 q a' b' H' L' w' := by
  have C1 : Hid (∀ W, Tw w0 h C l0 q a b w.heap.size ⟨k, c, s, l, f⟩ H L H L W → Calls Tryd.prog 19 #[.pointer (some ⟨h.g, 0, none⟩), .int .i64 c, .int .i64 s] W fun e w' => e = .returned (.int .i64 (inE C.s L c s)) ∧ Tw w0 h C l0 q a b w.heap.size ⟨k, c, s, l, f⟩ H (inL C.s L c s) H L w') := fun W d => d.one (d.ls.insert hC c s)
  have C2 : Hid (∀ W, Tw w0 h C l0 q a b w.heap.size ⟨k, c, s, l, f⟩ H (inL C.s L c s) H L W → Calls Tryd.prog 36 #[.pointer (some ⟨q, 0, none⟩), .int .i64 c, .int .i64 s] W fun e w' => e = .returned (.int .i64 (inE C.s L c s)) ∧ Tw w0 h C l0 q a b w.heap.size ⟨k, c, s, l, f⟩ H (inL C.s L c s) H (inL C.s L c s) w') := fun W d => d.two (fun j hj => .inr hj) (refInsert_any q a b C.s H L c s W d.dc)
  generalize inE C.s L c s = E at C1 C2
  generalize inL C.s L c s = L' at C1 C2
  have hm := ht.tw (X := ⟨k, c, s, l, f⟩)
  obtain ⟨c0, c1, c2, c3, c4⟩ := hm.cells
  have hcc : (E == E) = true := by simp
  simp only at c0 c1 c2 c3 c4
  unfold Act.cells at hm c0 c1 c2 c3 c4
  unfold Act.agg
  obtain ⟨k3, k4, k5, k6⟩ := hk
  have q3 : (k == 3) = false := by simpa using k3
  have q4 : (k == 4) = false := by simpa using k4
  have q5 : (k == 5) = false := by simpa using k5
  have q6 : (k == 6) = false := by simpa using k6
  clear ht k3 k4 k5 k6
  go_enter Tryd.func10, Tryd.ntmps10
  go_wp2_with fail
  go_region_held3 (fun w' => w'.cell? ⟨w.heap.size, 1, none⟩ = some (.int .i64 c) ∧ w'.cell? ⟨w.heap.size, 2, none⟩ = some (.int .i64 s)) (first | exact ⟨c1, c2⟩ | go_keep) ((first | (go_at_call 19; refine (C1.out _ (by first | exact hm | exact hm.drew)).mono ?_; rintro e w1 ⟨rfl, hm1⟩; replace hm := hm1; obtain ⟨c0, c1, c2, c3, c4⟩ := hm1.cells; simp only at c0 c1 c2 c3 c4; clear hm1) | (go_at_call 36; refine (C2.out _ (by first | exact hm | exact hm.drew)).mono ?_; rintro e w1 ⟨rfl, hm1⟩; replace hm := hm1; obtain ⟨c0, c1, c2, c3, c4⟩ := hm1.cells; simp only at c0 c1 c2 c3 c4; clear hm1)))
  go_wp2
  go_ret
  exact ⟨rfl, _, _, _, _, hm.both⟩

set_option maxRecDepth 100000 in
set_option maxHeartbeats 8000000 in
theorem act_set (w0 : World) (h : Hm) (C : Cf) (hC : C.Ok) (l0 : List Int) (q a b : Nat) (H : List Hx) (L : List Int) (c s l f : Int) (f0 : 0 ≤ f) (f1 : f < 4294967296) (w : World) (ht : Two w0 h C l0 q a b H L w) :
    Calls Tryd.prog 10 #[.pointer (some ⟨h.g, 0, none⟩), .pointer (some ⟨q, 0, none⟩), (⟨5, c, s, l, f⟩ : Act).agg] w fun e w' => e = .returned (.bool true) ∧ ∃ a' b' H' L', Two w0 h C l0 q a' b' H' L' w' := by
  have C1 : Hid (∀ W, Tw w0 h C l0 q a b w.heap.size ⟨5, c, s, l, f⟩ H L H L W → Calls Tryd.prog 34 #[.pointer (some ⟨h.g, 0, none⟩), .int .i64 s, .int .i64 c, .int .i64 l, .int .u32 f] W fun e w' => e = .returned (.int .i64 (stE C.s s c l)) ∧ Tw w0 h C l0 q a b w.heap.size ⟨5, c, s, l, f⟩ (seH C.s H s c l f) L H L w') := fun W d => d.one (d.ls.set hC s c l f f0 f1)
  have C2 : Hid (∀ W, Tw w0 h C l0 q a b w.heap.size ⟨5, c, s, l, f⟩ (seH C.s H s c l f) L H L W → Calls Tryd.prog 35 #[.pointer (some ⟨q, 0, none⟩), .int .i64 s, .int .i64 c, .int .i64 l, .int .u32 f] W fun e w' => e = .returned (.int .i64 (stE C.s s c l)) ∧ Tw w0 h C l0 q a b w.heap.size ⟨5, c, s, l, f⟩ (seH C.s H s c l f) L (seH C.s H s c l f) L w') := fun W d => d.two (fun j hj => .inl hj) (refSet_any q a b C.s H L s c l f W d.dc)
  generalize stE C.s s c l = E at C1 C2
  generalize seH C.s H s c l f = H' at C1 C2
  have hm := ht.tw (X := ⟨5, c, s, l, f⟩)
  obtain ⟨c0, c1, c2, c3, c4⟩ := hm.cells
  have hcc : (E == E) = true := by simp
  simp only at c0 c1 c2 c3 c4
  unfold Act.cells at hm c0 c1 c2 c3 c4
  unfold Act.agg
  clear ht f0 f1
  go_enter Tryd.func10, Tryd.ntmps10
  go_wp2_with fail
  go_region_held3 (fun w' => w'.cell? ⟨w.heap.size, 1, none⟩ = some (.int .i64 c) ∧ w'.cell? ⟨w.heap.size, 2, none⟩ = some (.int .i64 s) ∧ w'.cell? ⟨w.heap.size, 3, none⟩ = some (.int .i64 l) ∧ w'.cell? ⟨w.heap.size, 4, none⟩ = some (.int .u32 f)) (first | exact ⟨c1, c2, c3, c4⟩ | go_keep) ((first | (go_at_call 34; refine (C1.out _ (by first | exact hm | exact hm.drew)).mono ?_; rintro e w1 ⟨rfl, hm1⟩; replace hm := hm1; obtain ⟨c0, c1, c2, c3, c4⟩ := hm1.cells; simp only at c0 c1 c2 c3 c4; clear hm1) | (go_at_call 35; refine (C2.out _ (by first | exact hm | exact hm.drew)).mono ?_; rintro e w1 ⟨rfl, hm1⟩; replace hm := hm1; obtain ⟨c0, c1, c2, c3, c4⟩ := hm1.cells; simp only at c0 c1 c2 c3 c4; clear hm1)))
  go_wp2
  go_ret
  exact ⟨rfl, _, _, _, _, hm.both⟩

set_option maxRecDepth 100000 in
set_option maxHeartbeats 8000000 in
theorem act_begin (w0 : World) (h : Hm) (C : Cf) (hC : C.Ok) (l0 : List Int) (q a b : Nat) (H : List Hx) (L : List Int) (c s l f : Int) (w : World) (ht : Two w0 h C l0 q a b H L w) :
    Calls Tryd.prog 10 #[.pointer (some ⟨h.g, 0, none⟩), .pointer (some ⟨q, 0, none⟩), (⟨6, c, s, l, f⟩ : Act).agg] w fun e w' => e = .returned (.bool true) ∧ ∃ a' b' H' L', Two w0 h C l0 q a' b' H' L' w' := by
  have hbx := below_made w (.cells (⟨6, c, s, l, f⟩ : Act).cells.toArray 35)
  have ht1 := ht.below hbx
  obtain ⟨y0, y1⟩ := ht1.dc.cells
  have c0 : (w.alloc (.cells (⟨6, c, s, l, f⟩ : Act).cells.toArray 35)).cell? ⟨w.heap.size, 0, none⟩ = some (.int .i64 6) := (cell_block (heap_alloc_new _ _) 0).trans rfl
  have HB := Lib.hid (fun W => refBegin_any C.s ht.dc.hi W)
  have HBeg := Lib.hid (fun W (d : Ls w0 h C l0 H L W) => d.begin hC)
  have HT := Lib.hid ht1
  obtain ⟨S, hS⟩ : ∃ S, S = C.s := ⟨_, rfl⟩
  have HSS := Lib.hid hS
  rw [← hS] at HB y0 y1
  unfold Act.cells at c0 y0 y1 HT
  unfold Act.agg
  clear ht ht1 hbx hS
  go_enter Tryd.func10, Tryd.ntmps10
  go_wp2_with fail
  refine (HB.out _).mono ?_
  rintro e w2 ⟨q2, a2, b2, rfl, hd2, hb2, g1, g2, g3⟩
  have hT2 := HT.out.below hb2
  have hd2' := hd2
  have hq := hT2.dc.fq
  have hqq := HT.out.dc.lt.1
  obtain ⟨x0, x1⟩ := hT2.dc.cells
  obtain ⟨u0, u1⟩ := hd2.cells
  have f0 := Wat.frozen_block hq 0
  have hne : q2 ≠ q := by omega
  have hw1 : (w2.setCell ⟨q, 0, none⟩ (.slice (some ⟨a2, 0, none⟩) S S)).heap[q]? = some (.cells #[.slice (some ⟨a2, 0, none⟩) S S, .slice (some ⟨b, 0, none⟩) C.s C.s] 74 (0, 0)) := (Arn.heap_setCell_own hq _).trans (by simp)
  have f1 := Wat.frozen_block hw1 1
  have x1' := (cell_block hw1 1).trans (show _ = some (Value.slice (some ⟨b, 0, none⟩) C.s C.s) from rfl)
  have u1' : (w2.setCell ⟨q, 0, none⟩ (.slice (some ⟨a2, 0, none⟩) S S)).cell? ⟨q2, 1, none⟩ = some (.slice (some ⟨b2, 0, none⟩) S S) := (World.cell?_setCell_other _ _ _ _ (fun e => by injection e with e1; exact hne e1.symm)).trans u1
  have hw2 := (Arn.heap_setCell_own (o := 1) hw1 (.slice (some ⟨b2, 0, none⟩) S S)).trans (show _ = some (.cells #[.slice (some ⟨a2, 0, none⟩) S S, .slice (some ⟨b2, 0, none⟩) S S] 74 (0, 0)) by simp)
  have hf : Fr w2.heap.size (fun j => j = q) w2 ((w2.setCell ⟨q, 0, none⟩ (.slice (some ⟨a2, 0, none⟩) S S)).setCell ⟨q, 1, none⟩ (.slice (some ⟨b2, 0, none⟩) S S)) := ((Fr.refl w2.heap.size (fun j => j = q) w2).setCell (p := ⟨q, 0, none⟩) (.inr rfl) _).setCell (p := ⟨q, 1, none⟩) (.inr rfl) _
  have HL3 := Lib.hid (hT2.ls.other hf (fun j e => by rw [e]; exact hT2.own.1))
  have hlt2 := hd2.lt
  have hD3 : Hid (Dc ((w2.setCell ⟨q, 0, none⟩ (.slice (some ⟨a2, 0, none⟩) S S)).setCell ⟨q, 1, none⟩ (.slice (some ⟨b2, 0, none⟩) S S)) q a2 b2 S (List.replicate S (0, 0, 0)) (List.replicate S 0)) := by
    obtain ⟨k1, p1, p2⟩ := hd2.fa
    obtain ⟨k2, p3, p4⟩ := hd2.fb
    exact ⟨hw2, ⟨k1, (hf.block _ hlt2.2.1 (by omega)).trans p1, p2⟩, ⟨k2, (hf.block _ hlt2.2.2 (by omega)).trans p3, p4⟩, ⟨by omega, by omega, hd2.ne.2.2⟩, hd2.hl, hd2.ll, hd2.hi⟩
  have HOw : Hid (Own w0 h q ∧ Own w0 h a2 ∧ Own w0 h b2) := by
    obtain ⟨l, d1, -⟩ := HT.out.ls
    have t := d1.m.tabs
    have hsz := d1.b.size
    exact ⟨hT2.own.1, ⟨by omega, fun z => by have := d1.m.lt _ z; omega, by omega, by omega⟩, ⟨by omega, fun z => by have := d1.m.lt _ z; omega, by omega, by omega⟩⟩
  clear hq hw1 hw2 hf hd2 hd2' hT2 hb2 HB hlt2 g1 g2 g3 hqq
  rw [← HSS.out] at x0 x1 x1'
  go_wp2_with fail
  refine (HBeg.out _ HL3.out).mono ?_
  rintro e w4 ⟨rfl, hl4, hf4⟩
  have HE : Hid (Two w0 h C l0 q a2 b2 (List.replicate C.s (0, 0, 0)) (List.replicate C.s 0) w4) := by
    have hd := hD3.out.fr hf4 hD3.out.lt ⟨HOw.out.1.2.1, HOw.out.2.1.2.1, HOw.out.2.2.2.1⟩
    rw [HSS.out] at hd
    exact ⟨hl4, hd, HOw.out⟩
  clear hl4 hf4
  go_wp2
  go_ret
  exact ⟨rfl, _, _, _, _, HE.out⟩

theorem act_any (w0 : World) (h : Hm) (C : Cf) (hC : C.Ok) (l0 : List Int) (q a b : Nat) (H : List Hx) (L : List Int) (X : Act) (f0 : 0 ≤ X.f) (f1 : X.f < 4294967296) (w : World) (ht : Two w0 h C l0 q a b H L w) :
    Calls Tryd.prog 10 #[.pointer (some ⟨h.g, 0, none⟩), .pointer (some ⟨q, 0, none⟩), X.agg] w fun e w' => e = .returned (.bool true) ∧ ∃ a' b' H' L', Two w0 h C l0 q a' b' H' L' w' := by
  obtain ⟨k, c, s, l, f⟩ := X
  by_cases h3 : k = 3
  · exact act_remove k (.inl h3) w0 h C hC l0 q a b H L c s l f w ht
  by_cases h4 : k = 4
  · exact act_remove k (.inr h4) w0 h C hC l0 q a b H L c s l f w ht
  by_cases h5 : k = 5
  · subst h5
    exact act_set w0 h C hC l0 q a b H L c s l f f0 f1 w ht
  by_cases h6 : k = 6
  · subst h6
    exact act_begin w0 h C hC l0 q a b H L c s l f w ht
  exact act_insert k ⟨h3, h4, h5, h6⟩ w0 h C hC l0 q a b H L c s l f w ht
end Go.Proofs.YtcakoikcafiolaaDoor.Lis
