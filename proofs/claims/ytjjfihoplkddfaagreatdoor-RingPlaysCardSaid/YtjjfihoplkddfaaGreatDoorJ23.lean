/- The walk of RingPlays: what an act finds. -/
import Derived.Test.YtjjfihoplkddfaaGreatDoorJ22
import Derived.Test.YtjjfihoplkddfaaGreatDoorJ21
import Derived.Deep.DeepCutAuto
import Derived.Deep.CutBlock
import Derived.Deep.CutRange
import Derived.Deep.RegionHeld3
namespace Go.Proofs.YtjjfihoplkddfaaGreatDoor.Rin
open Go.RowKit Num
open Mem (Mm MemC MRet Hm rd blkM)
open Lis (valsN ints)
open Sla (Sl Lv Lo tkF Ts OwnI X0 Ow3 pV RowG czL)
open Arn (wrL is64)
set_option linter.unusedVariables false

section
variable {h : Hm} {T T' : List Sl} {w0 w w' W W' : World} {n g yb : Nat} {yk yn yc : Int} {E E' L L' L2 L2' : List Nat} {br br' br2 br2' : Nat} {B : Nat → Hea.Blk} {l : List Int}
/-- The memory and the document's ring, and the act. -/
structure Zz (w0 : World) (h : Hm) (n g yb : Nat) (yk yn yc : Int) (T : List Sl) (E L : List Nat) (br : Nat) (L2 : List Nat) (br2 : Nat) (W : World) : Prop where
  wr : Wr w0 h n T E L br W
  dr : Dr n g L2 br2 W
  bx : W.heap[yb]? = some (.cells #[.int .i64 yk, .int .i64 yn, .int .i64 yc] 97 (0, 0))
  ny : n ≤ yb ∧ yb ≠ g
theorem Zz.code (d : Zz w0 h n g yb yk yn yc T E L br L2 br2 W) (hw : Wr w0 h n T' E' L' br' W') (hf : Fr W.heap.size (blkM h) W W') : Zz w0 h n g yb yk yn yc T' E' L' br' L2 br2 W' :=
  ⟨hw, d.dr.fr hf d.wr.lo, (hf.block yb (Array.getElem?_eq_some_iff.1 d.bx).1 (fun q => by have := d.wr.lo.m yb q; have := d.ny.1; omega)).trans d.bx, d.ny⟩
theorem Zz.ref (d : Zz w0 h n g yb yk yn yc T E L br L2 br2 W) (hd : Dr n g L2' br2' W') (hf : Fr W.heap.size (fun b => b = g) W W') : Zz w0 h n g yb yk yn yc T E L br L2' br2' W' :=
  ⟨d.wr.low (hf.toBelow d.wr.nn (fun k hk q => by have := d.dr.hn; omega)), hd, (hf.block yb (Array.getElem?_eq_some_iff.1 d.bx).1 (fun q => d.ny.2 q)).trans d.bx, d.ny⟩
theorem Zz.below (d : Zz w0 h n g yb yk yn yc T E L br L2 br2 W) (hb : Below W.heap.size W W') : Zz w0 h n g yb yk yn yc T E L br L2 br2 W' :=
  ⟨d.wr.below hb, d.dr.below hb, (hb.block yb (Array.getElem?_eq_some_iff.1 d.bx).1).trans d.bx, d.ny⟩
theorem Zz.cells (d : Zz w0 h n g yb yk yn yc T E L br L2 br2 W) : W.cell? ⟨yb, 0, none⟩ = some (.int .i64 yk) ∧ W.cell? ⟨yb, 1, none⟩ = some (.int .i64 yn) ∧ W.cell? ⟨yb, 2, none⟩ = some (.int .i64 yc) :=
  ⟨(cell_block d.bx 0).trans rfl, (cell_block d.bx 1).trans rfl, (cell_block d.bx 2).trans rfl⟩
/-- What an act ends with: the document's row in its place. -/
structure Zr (w0 : World) (h : Hm) (n : Nat) (T : List Sl) (E L : List Nat) (br : Nat) (u : Value) (W : World) : Prop where
  wr : Wr w0 h n T E L br W
  hb : W.heap[n]? = some (.cells #[u, .int .i64 (br : Int)] 95 (0, 0))
  ow : OwnI n W u L
def ZrD (n : Nat) (L : List Nat) (u : Value) : Prop := (∀ b, u.ownBlock = some b → b ≠ n) ∧ (∀ x ∈ L, x ≤ 100000) ∧ L.Nodup ∧ L.length ≤ 500
theorem Zz.zr (d : Zz w0 h n n yb yk yn yc T E L br L br W) : ∃ u, Zr w0 h n T E L br u W ∧ ZrD n L u ∧ ∃ p c, u = .slice p L.length c := by
  obtain ⟨u, h1, h2, h3⟩ := d.dr.ex
  obtain ⟨p, c, e, -⟩ := h2.shape
  exact ⟨u, ⟨d.wr, h1, h2⟩, ⟨h3, d.dr.bd, d.dr.nd, d.dr.ln⟩, p, c, e⟩
section
variable {u ua : Value}
theorem Zr.dr (d : Zr w0 h n T E L br u W) (q : ZrD n L u) : Dr n n L br W := ⟨⟨u, d.hb, d.ow, q.1⟩, q.2.1, q.2.2.1, q.2.2.2, Nat.le_refl _⟩
theorem Zr.code (d : Zr w0 h n T E L br u W) (hw : Wr w0 h n T E L br W') (hf : Fr W.heap.size (blkM h) W W') : Zr w0 h n T E L br u W' :=
  ⟨hw, (hf.block n (Array.getElem?_eq_some_iff.1 d.hb).1 (fun q => by have := d.wr.lo.m n q; omega)).trans d.hb, d.ow.fr hf d.wr.lo⟩
theorem Zr.below (d : Zr w0 h n T E L br u W) (hb : Below W.heap.size W W') : Zr w0 h n T E L br u W' :=
  ⟨d.wr.below hb, (hb.block n (Array.getElem?_eq_some_iff.1 d.hb).1).trans d.hb, d.ow.below hb⟩
theorem Zr.drew (d : Zr w0 h n T E L br u W) : Zr w0 h n T E L br u W.drew := d.below (Below.refl _ _).drew
theorem Zr.cells (d : Zr w0 h n T E L br u W) : W.cell? ⟨n, 0, none⟩ = some u ∧ W.cell? ⟨n, 1, none⟩ = some (.int .i64 (br : Int)) := ⟨(cell_block d.hb 0).trans rfl, (cell_block d.hb 1).trans rfl⟩
theorem Zr.all (d : Zr w0 h n T E L br u W) : Calls Tryz.prog 58 #[pV h] W fun e W' => ∃ ua, e = .returned ua ∧ Zr w0 h n T E L br u W' ∧ OwnI n W' ua L := by
  refine d.wr.all.mono ?_
  rintro e w' ⟨ua, rfl, hw, hf, ho⟩
  exact ⟨ua, rfl, d.code hw hf, Sla.OwnI.lower ho d.wr.nn⟩
theorem Zr.same (d : Zr w0 h n T E L br u W) (q : ZrD n L u) (ho : OwnI n W ua L) : Calls Tryz.prog 20 #[ua, u] W fun e W' => e = .returned (.bool true) ∧ Zr w0 h n T E L br u W' := by
  refine (Lis.refSame_any _ _ _ W (own_row ho q.2.1) (own_row d.ow q.2.1)).mono ?_
  rintro e w' ⟨rfl, hb⟩
  exact ⟨by simp, d.below hb⟩
theorem Zr.hand (d : Zr w0 h n T E L br u W) : Calls Tryz.prog 59 #[pV h] W fun e W' => e = .returned (.int .i64 ((L.getD 0 0 : Nat) : Int)) ∧ Zr w0 h n T E L br u W' := by
  refine d.wr.hand.mono ?_
  rintro e w' ⟨rfl, hw, hf⟩
  exact ⟨rfl, d.code hw hf⟩
theorem Zr.rhand (d : Zr w0 h n T E L br u W) (q : ZrD n L u) : Calls Tryz.prog 60 #[.pointer (some ⟨n, 0, none⟩)] W fun e W' => e = .returned (.int .i64 ((L.getD 0 0 : Nat) : Int)) ∧ Zr w0 h n T E L br u W' := by
  refine (hand_ref (d.dr q)).mono ?_
  rintro e w' ⟨rfl, rfl⟩
  exact ⟨rfl, d⟩
theorem Zr.broom (d : Zr w0 h n T E L br u W) : Calls Tryz.prog 61 #[pV h] W fun e W' => e = .returned (.int .i64 (br : Int)) ∧ Zr w0 h n T E L br u W' := by
  refine d.wr.broom.mono ?_
  rintro e w' ⟨rfl, hw, hf⟩
  exact ⟨rfl, d.code hw hf⟩
theorem Zr.len (d : Zr w0 h n T E L br u W) : Calls Tryz.prog 62 #[pV h] W fun e W' => e = .returned (.int .i64 (L.length : Int)) ∧ Zr w0 h n T E L br u W' := by
  refine d.wr.length.mono ?_
  rintro e w' ⟨rfl, hw, hf⟩
  exact ⟨rfl, d.code hw hf⟩
end
set_option maxRecDepth 100000 in
set_option maxHeartbeats 8000000 in
theorem ringPlays_walk (v : Value) (Q : List Act) (w : World) (ht : Ts w) (tc : TabC w) (hr : ActRow w v Q) :
    Calls Tryz.prog 7 #[v] w fun e w' => e = .returned (.bool true) ∧ Below w.heap.size w w' := by
  have HW := Lib.hid (fun V (hv : Ts V) (ht : TabC V) => turns_any V hv ht)
  have HTs : Hid (Ts w ∧ TabC w) := ⟨ht, tc⟩
  have HN := Lib.hid (fresh_any true w ht tc)
  obtain ⟨ad, cap, U, rfl, q2, q3, q4, q5⟩ := hr
  have HC := Lib.hid q5
  have HS := Lib.hid q4
  clear ht tc q4 q5
  by_cases hL : 120 < Q.length
  · have hL1 : (120 : Int) < (Q.length : Int) := by omega
    go_enter Tryz.func7, Tryz.ntmps7
    go_wp2_with fail
    refine (HW.out _ HTs.out.1 HTs.out.2).mono ?_
    rintro e w1 ⟨rfl, hb⟩
    go_wp2
    go_ret
    exact ⟨rfl, hb⟩
  have hL0 : ¬ (120 : Int) < (Q.length : Int) := by omega
  have hL0' : decide ((120 : Int) < (Q.length : Int)) = false := by rw [decide_eq_false_iff_not]; omega
  unfold pV at HN
  go_enter Tryz.func7, Tryz.ntmps7
  go_wp2_with fail
  refine HN.out.mono ?_
  rintro e w1 ⟨h, rfl, hz, hd1, hb1⟩
  have hal := below_made w1 (.cells #[.slice none 0 0, .int .i64 0] 95)
  have hdr : Dr w1.heap.size w1.heap.size [] 0 (w1.alloc (.cells #[.slice none 0 0, .int .i64 0] 95)) := ⟨⟨_, heap_alloc_new w1 _, OwnI.nil _ _, fun b hb => by cases hb⟩, fun x hx => (by cases hx), List.nodup_nil, Nat.zero_le _, Nat.le_refl _⟩
  have hd2 := hd1.below hal
  obtain ⟨n, hn⟩ : ∃ n, n = w1.heap.size := ⟨_, rfl⟩
  rw [← hn] at hdr hd2
  have HZ : Hid (h.z = true) := hz
  have HD1 : Hid (Wr w h n X0 [] [] 0 (w1.alloc (.cells #[.slice none 0 0, .int .i64 0] 95)) ∧ Dr n n [] 0 (w1.alloc (.cells #[.slice none 0 0, .int .i64 0] 95))) := ⟨hd2, hdr⟩
  clear hz hb1 HN hd1 hd2 hdr hal
  go_wp2
  rw [← hn]
  clear hn
  go_loopw [5] (fun i wr => ∃ (j : Nat) (T : List Sl) (E L : List Nat) (br : Nat), j ≤ Q.length ∧ L.length ≤ j ∧ i = .int .i64 j ∧ Hid (Wr w h n T E L br wr ∧ Dr n n L br wr)) (fun i _ => Q.length - (intOf i).toNat)
  case atStart => exact ⟨0, _, [], [], 0, Nat.zero_le _, Nat.le_refl _, rfl, HD1.out⟩
  case round =>
    clear HD1
    obtain ⟨j, T, E, L, br, hj, hLj, rfl, HD⟩ := hrel
    by_cases hlt : j < Q.length
    · have hlt1 : (j : Int) < (Q.length : Int) := by omega
      have hlt0 : (0 : Int) ≤ (j : Int) := by omega
      have hjw : IntKind.i64.wrap ((j : Int) + 1) = ((j + 1 : Nat) : Int) := (Arn.wrap_id (by omega) (by omega)).trans (by omega)
      obtain ⟨rb, off, rfl, hlb, hc⟩ := HC.out (by rintro rfl; simp at hlt)
      obtain ⟨hs1, hs2, hs3⟩ := HS.out j hlt
      obtain ⟨y, hy⟩ : ∃ y, y = Q.getD j Act.zero := ⟨_, rfl⟩
      have hcw : wr.cell? ⟨rb, off + j * 3, none⟩ = some (.int .i64 y.k) ∧ wr.cell? ⟨rb, off + j * 3 + 1, none⟩ = some (.int .i64 y.n) ∧ wr.cell? ⟨rb, off + j * 3 + 2, none⟩ = some (.int .i64 y.c) := by
        have hb := HD.out.1.b
        have g0 := hc j hlt 0 (.int .i64 y.k) (by rw [hs2, hy]; rfl)
        have g1 := hc j hlt 1 (.int .i64 y.n) (by rw [hs2, hy]; rfl)
        have g2 := hc j hlt 2 (.int .i64 y.c) (by rw [hs2, hy]; rfl)
        exact ⟨(hb.cell (p := ⟨rb, off + j * 3, none⟩) hlb).trans g0, (hb.cell (p := ⟨rb, off + j * 3 + 1, none⟩) hlb).trans g1, (hb.cell (p := ⟨rb, off + j * 3 + 2, none⟩) hlb).trans g2⟩
      obtain ⟨d0, d1, d2⟩ := hcw
      have HY : Hid (is64 y.k ∧ is64 y.n ∧ is64 y.c) := by rw [hy]; exact hs3
      clear hs1 hs2 hs3 hc hy
      obtain ⟨yk, yn, yc⟩ := y
      simp only at d0 d1 d2 HY
      have hal := below_made wr (.cells #[.int .i64 yk, .int .i64 yn, .int .i64 yc] 97)
      have hz0 : Zz w h n n wr.heap.size yk yn yc T E L br L br (wr.alloc (.cells #[.int .i64 yk, .int .i64 yn, .int .i64 yc] 97)) := ⟨HD.out.1.below hal, HD.out.2.below hal, heap_alloc_new wr _, ⟨HD.out.1.nn, by have := HD.out.2.lt; omega⟩⟩
      obtain ⟨p, c, -, c0, -, -, -, hrow, hlc, -⟩ := hz0.dr.open
      have hln := hz0.dr.ln
      have HP : Hid (∀ m, Calls Tryz.prog 45 #[.slice p L.length c, .int .i64 yn] ((wr.alloc (.cells #[.int .i64 yk, .int .i64 yn, .int .i64 yc] 97)).drewN m) fun e w' => e = .returned (.int .i64 (pkI L yn : Int)) ∧ w' = (wr.alloc (.cells #[.int .i64 yk, .int .i64 yn, .int .i64 yc] 97)).drewN m) := fun m => by
        have hb : Below (wr.alloc (.cells #[.int .i64 yk, .int .i64 yn, .int .i64 yc] 97)).heap.size (wr.alloc (.cells #[.int .i64 yk, .int .i64 yn, .int .i64 yc] 97)) ((wr.alloc (.cells #[.int .i64 yk, .int .i64 yn, .int .i64 yc] 97)).drewN m) := below_drewN (Below.refl _ _) m
        refine (pick_any _ L yn _ (hrow.mono hb (Nat.le_refl _)) hln).mono ?_
        rintro e w' ⟨rfl, rfl⟩
        exact ⟨rfl, rfl⟩
      have HPk := Lib.hid (pkI_at (L := L) yn)
      generalize pkI L yn = P at HP HPk
      obtain ⟨e0, e1, e2⟩ := hz0.cells
      have HZ0 := Lib.hid hz0
      have hwb : wr.heap.size < (wr.alloc (.cells #[.int .i64 yk, .int .i64 yn, .int .i64 yc] 97)).heap.size := by simp
      obtain ⟨yb, hyb⟩ : ∃ yb, yb = wr.heap.size := ⟨_, rfl⟩
      clear hal hz0 hrow HD
      go_upto_region 8 with fail
      go_quiet ((go_at_call 45; exact Calls.quiet_of_same (HP.out _)))
      have HZ1 := Lib.hid (HZ0.out.below (below_drewN (Below.refl _ _) nq))
      clear HZ0 HP d0 d1 d2 c0 e0 e1 e2
      generalize (wr.alloc (.cells #[.int .i64 yk, .int .i64 yn, .int .i64 yc] 97)).drewN nq = V at *
      rw [← hyb] at HZ1 ⊢
      clear hyb hwb
      obtain ⟨e0, e1, e2⟩ := HZ1.out.cells
      go_upto_block 2 with fail
      go_cut [8, 9, 10] from 18 to 174 (fun ok s9 s10 wx => ok = .bool true ∧ Hid (∃ T' E' L' br', L'.length ≤ j + 1 ∧ Zz w h n n yb yk yn yc T' E' L' br' L' br' wx))
      case first =>
        by_cases k2 : yk = 2
        · as_aux_lemma =>
            subst k2
            rcases HPk.out with ⟨q1, rfl⟩ | ⟨k, hk, hPe, -⟩
            · rw [show ((0 : Nat) : Int) = 0 from rfl] at *
              have HR : Hid (∃ T' E' L' br', L'.length ≤ j + 1 ∧ Zz w h n n yb 2 yn yc T' E' L' br' L' br' V) := ⟨_, _, _, _, by omega, HZ1.out⟩
              clear HZ1 HPk e0 e1 e2
              go_wp2_with fail
              go_meet
              exact ⟨rfl, HR.out⟩
            · have hPE : P ∈ E := hPe ▸ HZ1.out.wr.sub _ (get_in hk)
              have hP0 : (0 : Int) < (P : Int) := by have := HZ1.out.wr.facts hPE; omega
              have hPd : P ∉ L.eraseIdx k := fun q => ((del_in HZ1.out.dr.nd hk P).1 q).2 hPe
              have HC1 := Lib.hid (HZ1.out.wr.remove hk)
              rw [← hPe] at HC1
              have HK : Hid (k < L.length ∧ L.getD k 0 = P ∧ P ∈ E ∧ P ∉ L.eraseIdx k) := ⟨hk, hPe.symm, hPE, hPd⟩
              have HLl : Hid ((L.eraseIdx k).length ≤ j + 1) := by have := del_len hk; unfold Hid; omega
              unfold pV at HC1
              clear HPk hPe hPE hPd hk
              go_wp2_with fail
              refine HC1.out.mono ?_
              rintro e w2 ⟨rfl, hw2, hf2⟩
              have HZ2 := Lib.hid (HZ1.out.code hw2 hf2)
              have HC2 := Lib.hid (remove_ref HZ2.out.dr HK.out.1 HK.out.2.1)
              clear hw2 hf2 HC1 HZ1 e0 e1 e2
              go_wp2_with fail
              refine HC2.out.mono ?_
              rintro e w3 ⟨rfl, hd3, hf3⟩
              have HZ3 := Lib.hid (HZ2.out.ref hd3 hf3)
              have HC3 := Lib.hid (HZ3.out.wr.remove_none HK.out.2.2.1 HK.out.2.2.2)
              unfold pV at HC3
              clear hd3 hf3 HC2 HZ2
              go_wp2_with fail
              refine HC3.out.mono ?_
              rintro e w4 ⟨rfl, hw4, hf4⟩
              have HZ4 := Lib.hid (HZ3.out.code hw4 hf4)
              have HC4 := Lib.hid (HZ4.out.wr.give (HZ4.out.wr.lv HK.out.2.2.1) HK.out.2.2.2)
              unfold pV at HC4
              clear hw4 hf4 HC3 HZ3
              go_wp2_with fail
              refine HC4.out.mono ?_
              rintro e w5 ⟨T5, rfl, hw5, hf5⟩
              have HR : Hid (∃ T' E' L' br', L'.length ≤ j + 1 ∧ Zz w h n n yb 2 yn yc T' E' L' br' L' br' w5) := ⟨_, _, _, _, HLl.out, HZ4.out.code hw5 hf5⟩
              clear hw5 hf5 HC4 HZ4 HK HLl
              go_wp2_with fail
              go_meet
              exact ⟨rfl, HR.out⟩
        have b2 : (yk == 2) = false := by rw [beq_eq_false_iff_ne]; exact k2
        by_cases k3 : yk = 3
        · as_aux_lemma =>
            subst k3
            rcases HPk.out with ⟨q1, rfl⟩ | ⟨k, hk, hPe, -⟩
            · rw [show ((0 : Nat) : Int) = 0 from rfl] at *
              have HR : Hid (∃ T' E' L' br', L'.length ≤ j + 1 ∧ Zz w h n n yb 3 yn yc T' E' L' br' L' br' V) := ⟨_, _, _, _, by omega, HZ1.out⟩
              clear HZ1 HPk e0 e1 e2
              go_wp2_with fail
              go_meet
              exact ⟨rfl, HR.out⟩
            · have hPE : P ∈ E := hPe ▸ HZ1.out.wr.sub _ (get_in hk)
              have hP0 : (0 : Int) < (P : Int) := by have := HZ1.out.wr.facts hPE; omega
              have hPd : P ∉ L.eraseIdx k := fun q => ((del_in HZ1.out.dr.nd hk P).1 q).2 hPe
              have HC1 := Lib.hid (HZ1.out.wr.remove hk)
              rw [← hPe] at HC1
              have HK : Hid (k < L.length ∧ L.getD k 0 = P ∧ P ∈ E ∧ P ∉ L.eraseIdx k) := ⟨hk, hPe.symm, hPE, hPd⟩
              have HLl : Hid ((L.eraseIdx k).length ≤ j + 1) := by have := del_len hk; unfold Hid; omega
              unfold pV at HC1
              clear HPk hPe hPE hPd hk
              go_wp2_with fail
              refine HC1.out.mono ?_
              rintro e w2 ⟨rfl, hw2, hf2⟩
              have HZ2 := Lib.hid (HZ1.out.code hw2 hf2)
              have HC2 := Lib.hid (remove_ref HZ2.out.dr HK.out.1 HK.out.2.1)
              clear hw2 hf2 HC1 HZ1 e0 e1 e2
              go_wp2_with fail
              refine HC2.out.mono ?_
              rintro e w3 ⟨rfl, hd3, hf3⟩
              have HZ3 := Lib.hid (HZ2.out.ref hd3 hf3)
              have HC3 := Lib.hid (HZ3.out.wr.remove_none HK.out.2.2.1 HK.out.2.2.2)
              unfold pV at HC3
              clear hd3 hf3 HC2 HZ2
              go_wp2_with fail
              refine HC3.out.mono ?_
              rintro e w4 ⟨rfl, hw4, hf4⟩
              have HZ4 := Lib.hid (HZ3.out.code hw4 hf4)
              have HC4 := Lib.hid (HZ4.out.wr.give (HZ4.out.wr.lv HK.out.2.2.1) HK.out.2.2.2)
              unfold pV at HC4
              clear hw4 hf4 HC3 HZ3
              go_wp2_with fail
              refine HC4.out.mono ?_
              rintro e w5 ⟨T5, rfl, hw5, hf5⟩
              have HR : Hid (∃ T' E' L' br', L'.length ≤ j + 1 ∧ Zz w h n n yb 3 yn yc T' E' L' br' L' br' w5) := ⟨_, _, _, _, HLl.out, HZ4.out.code hw5 hf5⟩
              clear hw5 hf5 HC4 HZ4 HK HLl
              go_wp2_with fail
              go_meet
              exact ⟨rfl, HR.out⟩
        have b3 : (yk == 3) = false := by rw [beq_eq_false_iff_ne]; exact k3
        by_cases k4 : yk = 4
        · as_aux_lemma =>
            subst k4
            have HC1 := Lib.hid (HZ1.out.wr.turn)
            have HLl : Hid ((rot L).length ≤ j + 1) := by have := rot_len L; unfold Hid; omega
            have HZr := Lib.hid (fun W (hW : Zz w h n n yb 4 yn yc T E (rot L) br L br W) => turn_ref hW.dr)
            unfold pV at HC1
            generalize L.getD 0 0 = x at HC1 HZr
            clear HPk
            go_wp2_with fail
            refine HC1.out.mono ?_
            rintro e w2 ⟨rfl, hw2, hf2⟩
            have HZ2 := Lib.hid (HZ1.out.code hw2 hf2)
            have HC2 := Lib.hid (HZr.out _ HZ2.out)
            clear hw2 hf2 HC1 HZ1 e0 e1 e2 HZr
            go_wp2_with fail
            refine HC2.out.mono ?_
            rintro e w3 ⟨rfl, hd3, hf3⟩
            have HR : Hid (∃ T' E' L' br', L'.length ≤ j + 1 ∧ Zz w h n n yb 4 yn yc T' E' L' br' L' br' w3) := ⟨_, _, _, _, HLl.out, HZ2.out.ref hd3 hf3⟩
            clear hd3 hf3 HC2 HZ2 HLl
            go_wp2_with fail
            go_meet
            exact ⟨rfl, HR.out⟩
        have b4 : (yk == 4) = false := by rw [beq_eq_false_iff_ne]; exact k4
        by_cases k5 : yk = 5
        · as_aux_lemma =>
            subst k5
            have HC1 := Lib.hid (HZ1.out.wr.brush)
            have HBr := Lib.hid HZ1.out.wr.brm
            unfold pV at HC1
            clear HPk
            go_wp2_with fail
            refine HC1.out.mono ?_
            rintro e w2 ⟨rfl, hw2, hf2⟩
            have HZ2 := Lib.hid (HZ1.out.code hw2 hf2)
            have HC2 := Lib.hid (brush_ref HZ2.out.dr HBr.out)
            clear hw2 hf2 HC1 HZ1 e0 e1 e2
            go_wp2_with fail
            refine HC2.out.mono ?_
            rintro e w3 ⟨rfl, hd3, hf3⟩
            have HR : Hid (∃ T' E' L' br', L'.length ≤ j + 1 ∧ Zz w h n n yb 5 yn yc T' E' L' br' L' br' w3) := ⟨_, _, _, _, by omega, HZ2.out.ref hd3 hf3⟩
            clear hd3 hf3 HC2 HZ2 HBr
            go_wp2_with fail
            go_meet
            exact ⟨rfl, HR.out⟩
        have b5 : (yk == 5) = false := by rw [beq_eq_false_iff_ne]; exact k5
        by_cases k6 : yk = 6
        · as_aux_lemma =>
            subst k6
            rcases HPk.out with ⟨q1, rfl⟩ | ⟨k, hk, hPe, -⟩
            · rw [show ((0 : Nat) : Int) = 0 from rfl] at *
              have HR : Hid (∃ T' E' L' br', L'.length ≤ j + 1 ∧ Zz w h n n yb 6 yn yc T' E' L' br' L' br' V) := ⟨_, _, _, _, by omega, HZ1.out⟩
              clear HZ1 HPk e0 e1 e2
              go_wp2_with fail
              go_meet
              exact ⟨rfl, HR.out⟩
            · have hPE : P ∈ E := hPe ▸ HZ1.out.wr.sub _ (get_in hk)
              have hP0 : (0 : Int) < (P : Int) := by have := HZ1.out.wr.facts hPE; omega
              have HC1 := Lib.hid (HZ1.out.wr.moved hk)
              rw [← hPe] at HC1
              have HK : Hid (k < L.length ∧ L.getD k 0 = P) := ⟨hk, hPe.symm⟩
              unfold pV at HC1
              clear HPk hPe hPE hk
              go_wp2_with fail
              refine HC1.out.mono ?_
              rintro e w2 (⟨hcz, rfl, hw2, hf2⟩ | ⟨t, T2, E2, htL, ht0, ht5, rfl, hw2, hf2⟩)
              · have HC2 := Lib.hid hw2.free
                rw [hcz, show (([] : List Nat).length : Int) = 0 from rfl] at HC2
                unfold pV at HC2
                clear hw2 hf2 HC1 HZ1 e0 e1 e2 hcz HK
                go_wp2_with fail
                refine HC2.out.mono ?_
                rintro e w3 ⟨rfl, hw3, hf3⟩
                have HC3 := Lib.hid (HW.out _ hw3.ts.1 hw3.ts.2)
                have HB3 := Lib.hid hw3.b
                clear hw3 hf3 HC2
                go_wp2_with fail
                refine HC3.out.mono ?_
                rintro e w4 ⟨rfl, hb4⟩
                have HE := Lib.hid (HB3.out.trans (hb4.mono HB3.out.size))
                clear hb4 HB3 HC3
                go_wp2
                go_ret
                exact ⟨rfl, HE.out⟩
              · have ht1 : ((t : Int) == 0) = false := by rw [beq_eq_false_iff_ne]; omega
                have HZ2 := Lib.hid (HZ1.out.code hw2 hf2)
                have HC2 := Lib.hid (move_ref HZ2.out.dr HK.out.1 HK.out.2 htL ht5)
                have HLl : Hid ((L.set k t).length ≤ j + 1) := by unfold Hid; rw [List.length_set]; omega
                clear hw2 hf2 HC1 HZ1 e0 e1 e2 htL ht0 ht5
                go_wp2_with fail
                refine HC2.out.mono ?_
                rintro e w3 ⟨rfl, hd3, hf3⟩
                have HR : Hid (∃ T' E' L' br', L'.length ≤ j + 1 ∧ Zz w h n n yb 6 yn yc T' E' L' br' L' br' w3) := ⟨_, _, _, _, HLl.out, HZ2.out.ref hd3 hf3⟩
                clear hd3 hf3 HC2 HZ2 HLl HK
                go_wp2_with fail
                go_meet
                exact ⟨rfl, HR.out⟩
        have b6 : (yk == 6) = false := by rw [beq_eq_false_iff_ne]; exact k6
        by_cases k7 : yk = 7
        · as_aux_lemma =>
            subst k7
            rcases HPk.out with ⟨q1, rfl⟩ | ⟨k, hk, hPe, -⟩
            · rw [show ((0 : Nat) : Int) = 0 from rfl] at *
              have HR : Hid (∃ T' E' L' br', L'.length ≤ j + 1 ∧ Zz w h n n yb 7 yn yc T' E' L' br' L' br' V) := ⟨_, _, _, _, by omega, HZ1.out⟩
              clear HZ1 HPk e0 e1 e2
              go_wp2_with fail
              go_meet
              exact ⟨rfl, HR.out⟩
            · have hPL : P ∈ L := hPe ▸ get_in hk
              have hP0 : (0 : Int) < (P : Int) := by have := HZ1.out.wr.facts (HZ1.out.wr.sub _ hPL); omega
              have HC1 := Lib.hid (HZ1.out.wr.insert_again hPL)
              have HPL := Lib.hid hPL
              unfold pV at HC1
              clear HPk hPe hPL hk
              go_wp2_with fail
              refine HC1.out.mono ?_
              rintro e w2 ⟨rfl, hw2, hf2⟩
              have HZ2 := Lib.hid (HZ1.out.code hw2 hf2)
              have HC2 := Lib.hid (insert_ref_in HZ2.out.dr HPL.out)
              clear hw2 hf2 HC1 HZ1 e0 e1 e2
              go_wp2_with fail
              refine HC2.out.mono ?_
              rintro e w3 ⟨rfl, hd3, hf3⟩
              have HR : Hid (∃ T' E' L' br', L'.length ≤ j + 1 ∧ Zz w h n n yb 7 yn yc T' E' L' br' L' br' w3) := ⟨_, _, _, _, by omega, HZ2.out.ref hd3 hf3⟩
              clear hd3 hf3 HC2 HZ2 HPL
              go_wp2_with fail
              go_meet
              exact ⟨rfl, HR.out⟩
        have b7 : (yk == 7) = false := by rw [beq_eq_false_iff_ne]; exact k7
        by_cases k8 : yk = 8
        · as_aux_lemma =>
            subst k8
            obtain ⟨B, l, hw1, hbs⟩ := HZ1.out.wr.base
            have HC1 := Lib.hid (hw1.load_wild hbs HZ.out HY.out.2.1)
            have HBs := Lib.hid hbs
            unfold pV at HC1
            clear hw1 hbs HPk
            go_wp2_with fail
            refine HC1.out.mono ?_
            rintro e w2 ⟨v, hrel, rfl, hw2, hf2⟩
            have HZ2 := Lib.hid (HZ1.out.code hw2.wr hf2)
            by_cases hv : v = 1
            · subst hv
              have HR : Hid (∃ T' E' L' br', L'.length ≤ j + 1 ∧ Zz w h n n yb 8 yn yc T' E' L' br' L' br' w2) := ⟨_, _, _, _, by omega, HZ2.out⟩
              clear hrel hw2 hf2 HC1 HZ1 HZ2 HBs e0 e1 e2
              go_wp2_with fail
              go_meet
              exact ⟨rfl, HR.out⟩
            · have hv0 : (v == 1) = false := by rw [beq_eq_false_iff_ne]; exact hv
              have hv1 : (v != 1) = true := by rw [bne, hv0]; rfl
              have HNe := Lib.hid (fun q (q2 : l.getD yn.toNat 0 = 1) => hv ((hrel q).2 q2))
              have HC2 := Lib.hid (hw2.remove_wild HBs.out HZ.out HY.out.2.1 HNe.out)
              unfold pV at HC2
              obtain ⟨e0, e1, e2⟩ := HZ2.out.cells
              clear hw2 hf2 HC1 HZ1 hrel hv
              go_wp2_with fail
              refine HC2.out.mono ?_
              rintro e w3 ⟨rfl, hw3, hf3⟩
              have HZ3 := Lib.hid (HZ2.out.code hw3.wr hf3)
              have HC3 := Lib.hid (hw3.insert_wild HBs.out HZ.out HY.out.2.1 HNe.out)
              unfold pV at HC3
              obtain ⟨e0, e1, e2⟩ := HZ3.out.cells
              clear hw3 hf3 HC2 HZ2
              go_wp2_with fail
              refine HC3.out.mono ?_
              rintro e w4 ⟨rfl, hw4, hf4⟩
              have HR : Hid (∃ T' E' L' br', L'.length ≤ j + 1 ∧ Zz w h n n yb 8 yn yc T' E' L' br' L' br' w4) := ⟨_, _, _, _, by omega, HZ3.out.code hw4.wr hf4⟩
              clear hw4 hf4 HC3 HZ3 HBs HNe e0 e1 e2
              go_wp2_with fail
              go_meet
              exact ⟨rfl, HR.out⟩
        have b8 : (yk == 8) = false := by rw [beq_eq_false_iff_ne]; exact k8
        clear k2 k3 k4 k5 k6 k7 k8
        as_aux_lemma =>
          have HC1 := Lib.hid (HZ1.out.wr.entry yc)
          unfold pV at HC1
          clear HPk
          go_wp2_with fail
          refine HC1.out.mono ?_
          rintro e w2 (⟨-, rfl, hw2, hf2⟩ | ⟨a, -, rfl, haE, hw2, hf2⟩)
          · have HZ2 := Lib.hid (HZ1.out.code hw2 hf2)
            have HR : Hid (∃ T' E' L' br', L'.length ≤ j + 1 ∧ Zz w h n n yb yk yn yc T' E' L' br' L' br' w2) := ⟨_, _, _, _, by omega, HZ2.out⟩
            clear hw2 hf2 HC1 HZ1 HZ2 e0 e1 e2
            go_wp2_with fail
            go_meet
            exact ⟨rfl, HR.out⟩
          · have haf := hw2.facts (List.mem_cons_self ..)
            have ha0 : (0 : Int) < (a : Int) := by omega
            have haL : a ∉ L := fun q => haE (HZ1.out.wr.sub _ q)
            have HZ2 := Lib.hid (HZ1.out.code hw2 hf2)
            have HC2 := Lib.hid (hw2.insert (List.mem_cons_self ..) haL (by omega))
            have HA : Hid (a ∉ L ∧ a ≤ 100000 ∧ L.length < 500 ∧ (L ++ [a]).length ≤ j + 1) := ⟨haL, by omega, by omega, by simp; omega⟩
            unfold pV at HC2
            clear hw2 hf2 HC1 HZ1 e0 e1 e2 haL haf haE
            go_wp2_with fail
            refine HC2.out.mono ?_
            rintro e w3 ⟨rfl, hw3, hf3⟩
            have HZ3 := Lib.hid (HZ2.out.code hw3 hf3)
            have HC3 := Lib.hid (insert_ref_new HZ3.out.dr HA.out.1 HA.out.2.1 HA.out.2.2.1)
            clear hw3 hf3 HC2 HZ2
            go_wp2_with fail
            refine HC3.out.mono ?_
            rintro e w4 ⟨rfl, hd4, hf4⟩
            have HR : Hid (∃ T' E' L' br', L'.length ≤ j + 1 ∧ Zz w h n n yb yk yn yc T' E' L' br' L' br' w4) := ⟨_, _, _, _, HA.out.2.2.2, HZ3.out.ref hd4 hf4⟩
            clear hd4 hf4 HC3 HZ3 HA
            go_wp2_with fail
            go_meet
            exact ⟨rfl, HR.out⟩
      case rest =>
        as_aux_lemma =>
          obtain ⟨rfl, HR⟩ := hcut
          obtain ⟨T2, E2, L2, br2, hL2, hz2⟩ := HR.out
          clear HR HZ1 HPk e0 e1 e2
          obtain ⟨u, hz, hd, hsh⟩ := hz2.zr
          obtain ⟨p2, c2, rfl⟩ := hsh
          have HHd := Lib.hid hd
          have HL2 := Lib.hid hL2
          have HA := Lib.hid (fun W (hW : Zr w h n T2 E2 L2 br2 (.slice p2 L2.length c2) W) => hW.all)
          have HSm := Lib.hid (fun W ua (hW : Zr w h n T2 E2 L2 br2 (.slice p2 L2.length c2) W) (ho : OwnI n W ua L2) => hW.same hd ho)
          have HHa := Lib.hid (fun W (hW : Zr w h n T2 E2 L2 br2 (.slice p2 L2.length c2) W) => hW.hand)
          have HRh := Lib.hid (fun W (hW : Zr w h n T2 E2 L2 br2 (.slice p2 L2.length c2) W) => hW.rhand hd)
          have HBr := Lib.hid (fun W (hW : Zr w h n T2 E2 L2 br2 (.slice p2 L2.length c2) W) => hW.broom)
          have HLe := Lib.hid (fun W (hW : Zr w h n T2 E2 L2 br2 (.slice p2 L2.length c2) W) => hW.len)
          unfold pV at HA HHa HBr HLe
          generalize L2.getD 0 0 = x0 at HHa HRh
          obtain ⟨d0, d1⟩ := hz.cells
          clear hz2 hd
          go_wp2
          go_region_held3 (fun w' => w'.cell? ⟨n, 0, none⟩ = some (.slice p2 L2.length c2) ∧ w'.cell? ⟨n, 1, none⟩ = some (.int .i64 (br2 : Int))) (first | exact ⟨d0, d1⟩ | go_keep) ((first | (go_at_call 58; refine (HA.out _ (by first | exact hz | exact hz.drew)).mono ?_; rintro e wa ⟨ua, rfl, hza, hoa⟩; replace hz := hza; obtain ⟨d0, d1⟩ := hza.cells) | (go_at_call 20; refine (HSm.out _ _ (by first | exact hz | exact hz.drew) (by first | exact hoa | exact hoa.below (Below.refl _ _).drew)).mono ?_; rintro e wb ⟨rfl, hzb⟩; replace hz := hzb; obtain ⟨d0, d1⟩ := hzb.cells) | (go_at_call 59; refine (HHa.out _ (by first | exact hz | exact hz.drew)).mono ?_; rintro e wd ⟨rfl, hzd⟩; replace hz := hzd; obtain ⟨d0, d1⟩ := hzd.cells) | (go_at_call 60; refine (HRh.out _ (by first | exact hz | exact hz.drew)).mono ?_; rintro e we ⟨rfl, hze⟩; replace hz := hze; obtain ⟨d0, d1⟩ := hze.cells) | (go_at_call 61; refine (HBr.out _ (by first | exact hz | exact hz.drew)).mono ?_; rintro e wf ⟨rfl, hzf⟩; replace hz := hzf; obtain ⟨d0, d1⟩ := hzf.cells) | (go_at_call 62; refine (HLe.out _ (by first | exact hz | exact hz.drew)).mono ?_; rintro e wg ⟨rfl, hzg⟩; replace hz := hzg; obtain ⟨d0, d1⟩ := hzg.cells)))
          all_goals
            have HE : Hid (L2.length ≤ j + 1 ∧ Wr w h n T2 E2 L2 br2 _ ∧ Dr n n L2 br2 _) := ⟨HL2.out, hz.wr, hz.dr HHd.out⟩
            clear hz d0 d1 HA HSm HHa HRh HBr HLe HHd HL2
            go_wp2
            go_roundw
            case rel => exact ⟨j + 1, T2, E2, L2, br2, by omega, HE.out.1, by go_num, HE.out.2⟩
            case measure => simp [intOf]; omega
    · obtain rfl : j = Q.length := by omega
      have HT := Lib.hid (HW.out _ HD.out.1.ts.1 HD.out.1.ts.2)
      have HB := Lib.hid HD.out.1.b
      clear HD
      go_wp2_with fail
      refine HT.out.mono ?_
      rintro e w3 ⟨rfl, hb3⟩
      have HE := Lib.hid (HB.out.trans (hb3.mono HB.out.size))
      clear hb3 HT HB
      go_wp2
      go_ret
      exact ⟨rfl, HE.out⟩
end
end Go.Proofs.YtjjfihoplkddfaaGreatDoor.Rin
