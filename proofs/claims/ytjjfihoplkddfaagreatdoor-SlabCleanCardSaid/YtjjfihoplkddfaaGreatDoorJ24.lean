/- memory.Has; places of acts; the bytes of a memory in which nothing lives. A memory's bytes and the text that is written into its blocks. The runs of a memory with slabs: their words, how many begin a free block. The walk of SlabClean. -/
import Derived.Test.YtjjfihoplkddfaaGreatDoorJ19
import Derived.Test.YtjjfihoplkddfaaGreatDoorJ23
import Derived.Test.YtjjfihoplkddfaaGreatDoorJ18
import Derived.Test.YtjjfihoplkddfaaGreatDoorJ21
import Derived.Test.YtjjfihoplkddfaaGreatDoorJ8
import Derived.Test.YtjjfihoplkddfaaGreatDoorJ20
import Derived.Deep.RegionHeld3
import Derived.Lib.SlBytesConst
namespace Go.Proofs.YtjjfihoplkddfaaGreatDoor.Mem
open Go.RowKit Num
open Arn (hasA ArC)
set_option linter.unusedVariables false
theorem has_any (h : Hm) (v : Value) (M : Mm) (u : Value) (X : List Int) (w : World) (hm : MemC h w v M) (hx : Row .u8 w u X) (hX : X.length ≤ 1000000) (ht : Arn.Tb w) :
    Calls Tryz.prog 28 #[v, u] w fun e w' => e = .returned (.bool (hasA M.l X)) ∧ Below w.heap.size w w' := by
  have HM := Lib.hid (made_any h v M w hm)
  have HF := Lib.hid (Arn.hasC_any h.a _ M.l u X w hm.ar hx hX ht)
  obtain ⟨-, c1, -, -⟩ := hm.cells
  obtain rfl := hm.hv
  clear hm hx ht
  generalize hasA M.l X = c at HF ⊢
  go_enter Tryz.func28, Tryz.ntmps28
  go_wp2_with fail
  refine HM.out.mono ?_
  rintro e w' ⟨rfl, rfl⟩
  go_wp2_with fail
  refine HF.out.mono ?_
  rintro e w1 ⟨rfl, hb1⟩
  have HB := Lib.hid hb1
  clear hb1
  go_wp2
  go_ret
  exact ⟨rfl, HB.out⟩
end Go.Proofs.YtjjfihoplkddfaaGreatDoor.Mem
namespace Go.Proofs.YtjjfihoplkddfaaGreatDoor.Sla
open Go.RowKit Num
open Mem (Mm MemC MRet Hm rd blkM)
open Lis (Cf LM LR Tb at_ Nx Pv Nxe Pve Rep Hx valsN)
open Cls (szC blC pdC)
open Arn (wrL is64 hasA)
set_option linter.unusedVariables false
theorem place_any (yk yn : Int) (u : Value) (A : List Nat) (w : World) (hu : Row .i64 w u (Lis.ints A)) (hA : A.length ≤ 200) (hb : ∀ x ∈ A, x ≤ 100000) (h64 : is64 yn) :
    Calls Tryz.prog 14 #[.agg #[.int .i64 yk, .int .i64 yn], u] w fun e w' => ∃ a, e = .returned (.int .i64 a) ∧ is64 a ∧ Below w.heap.size w w' := by
  obtain ⟨p, cap, rfl, r2, r3, r4, r5⟩ := hu
  rw [Lis.ints_length] at *
  have hbm : Below w.heap.size w (w.alloc (.cells #[.int .i64 yk, .int .i64 yn] 34)) := below_made _ _
  by_cases h5 : yk = 5
  · subst h5
    go_enter Tryz.func14, Tryz.ntmps14
    go_wp2
    go_ret
    exact ⟨_, rfl, h64, hbm⟩
  by_cases hn : A = []
  · subst hn
    go_enter Tryz.func14, Tryz.ntmps14
    go_wp2
    go_ret
    exact ⟨_, rfl, h64, hbm⟩
  have hpos : (0 : Int) < (A.length : Int) := by
    have := List.length_pos_iff.2 hn
    omega
  have hz : ¬ ((A.length : Int) = 0) := by omega
  obtain ⟨rm, hrm⟩ : ∃ rm, rm = yn.tmod (A.length : Int) := ⟨_, rfl⟩
  have hb1 : -(A.length : Int) < rm ∧ rm < A.length := by
    rw [hrm]
    exact ⟨Int.lt_tmod_of_pos yn hpos, Int.tmod_lt_of_pos yn hpos⟩
  have hnz : ((A.length : Int) == 0) = false := by simp; omega
  obtain ⟨ab, aoff, rfl, hlt2, hcell2⟩ := r5 (by intro q; exact hn (List.map_eq_nil_iff.1 q))
  obtain ⟨kk, hkk, hcase⟩ : ∃ kk : Nat, kk < A.length ∧ ((rm = (kk : Int)) ∨ (rm = -(kk : Int) ∧ rm < 0)) := by
    by_cases h0 : rm < 0
    · exact ⟨(-rm).toNat, by omega, .inr ⟨by omega, h0⟩⟩
    · exact ⟨rm.toNat, by omega, .inl (by omega)⟩
  have hck := hcell2 kk hkk
  rw [Lis.ints_get] at hck
  have hx : is64 ((A.getD kk 0 : Nat) : Int) := by
    have hm : A.getD kk 0 ∈ A := by
      rw [List.getD, List.getElem?_eq_getElem hkk]
      exact List.getElem_mem _
    have := hb _ hm
    unfold is64
    omega
  generalize A.getD kk 0 = P at hck hx
  have hk0 : (0 : Int) ≤ (kk : Int) := by omega
  have hk1 : (kk : Int) < (A.length : Int) := by omega
  have hk1000 : kk < 1000 := by omega
  have hck2 := (hbm.cell (p := ⟨ab, aoff + kk, none⟩) (World.block_lt_of_cell? w _ hck)).trans hck
  clear hcell2 r2 r3 r4 r5 hn
  rcases hcase with rfl | ⟨rfl, hng⟩
  · have hq : yn.tmod (A.length : Int) = (kk : Int) := hrm.symm
    have hw2 := w_neg kk hk1000
    have hmx : max (kk : Int) (-(kk : Int)) = (kk : Int) := by omega
    clear hrm hb1
    go_enter Tryz.func14, Tryz.ntmps14
    go_wp2
    go_ret
    exact ⟨_, rfl, hx, hbm⟩
  · have hq : yn.tmod (A.length : Int) = -(kk : Int) := hrm.symm
    have hw2 := w_in kk hk1000
    have hnn : - -(kk : Int) = (kk : Int) := Int.neg_neg _
    have hmx : max (-(kk : Int)) (kk : Int) = (kk : Int) := by omega
    clear hrm hb1 hng
    go_enter Tryz.func14, Tryz.ntmps14
    go_wp2
    go_ret
    exact ⟨_, rfl, hx, hbm⟩
end Go.Proofs.YtjjfihoplkddfaaGreatDoor.Sla

namespace Go.Proofs.YtjjfihoplkddfaaGreatDoor.Sla
open Go.RowKit Num
open Mem (Mm MemC MRet Hm rd blkM)
open Lis (Cf LM LR Tb at_ Nx Pv Nxe Pve Rep Hx valsN)
open Cls (szC blC pdC)
open Arn (wrL is64 hasA IsBytes part_bytes)
set_option linter.unusedVariables false
section
variable {h : Hm} {S N : Nat} {l0 l l' : List Int} {T T' : List Sl} {w W W' : World}
theorem begin3_any {Z : List Int} (hZ : ∀ t, 20 ≤ t → Z.getD t 0 = 0) (hr : Lay.rightC (S : Int) (N : Int) = true) (d : SM h (Lis.newCf S N) Z w) :
    Calls Tryz.prog 11 #[pV h] w fun e w' => ∃ l', e = .returned (.int .i64 0) ∧ (∀ t, t < 20 ∨ 60 ≤ t ∧ t < 128 ∨ 128 + 16 * S ≤ t → l'.getD t 0 = Z.getD t 0) ∧ St h S N l' l' (List.replicate S Sl.zero) w' ∧ Fr w.heap.size (blkM h) w w' := by
  have hC := Lis.newCf_ok hr
  have hlx := d.m.len
  have hll : Z.length = Lay.sizeT S N := by
    obtain ⟨-, lk, hm⟩ := d.m
    have h1 := hm.len
    rw [show ((Lis.newCf S N).mm Z lk).l = Z from rfl] at h1
    rw [h1]
    show Lay.sizeC (S : Int) (N : Int) = _
    rw [Lay.sizeC, if_pos hr, Int.toNat_natCast, Int.toNat_natCast]
  have hbs := ok_base hC
  have hBg := Lis.begin_any h (Lis.newCf S N) Z Z w hC d.m (Lis.B1.fresh (by rw [hll]; show 128 + 16 * S ≤ _; rw [show (Lis.newCf S N).s = S from rfl, show (Lis.newCf S N).n = N from rfl] at hbs; omega))
  have hmain : Calls Tryz.prog 70 #[pV h] w fun e w' => ∃ l', e = .returned (.int .i64 0) ∧ (∀ t, t < 20 ∨ 60 ≤ t ∧ t < 128 ∨ 128 + 16 * S ≤ t → l'.getD t 0 = Z.getD t 0) ∧ St h S N l' l' (List.replicate S Sl.zero) w' ∧ Fr w.heap.size (blkM h) w w' := by
    refine hBg.mono ?_
    rintro e w' ⟨l', hl, hrp⟩
    have hq := d.lr hl
    have hx : (Lis.newCf S N).x.length = Lay.sizeT S N := hlx.symm.trans hll
    refine ⟨l', hq.1, fun t ht => hrp.rest t ht, ⟨_, _, ⟨Lis.newCf S N, rfl, rfl, fun _ => rfl, hq.2.1, ⟨hC, rep_self hrp, hx, hrp.llen.trans hll, List.length_replicate .., fun _ _ _ => rfl, fun t ht => ?_, fun j hj => ?_⟩⟩, Co.start S N⟩, hq.2.2⟩
    · obtain ⟨S', N', e1, e2, -, -, -, -, -, hk⟩ := Mem.kinds0_at hr
      obtain rfl : S = S' := by omega
      obtain rfl : N = N' := by omega
      exact hk t
    · have hj' : j < S := hj
      rw [getD_rep _ _ _ hj']
      refine Sh.done (fun t h1 h2 => ?_)
      rw [show (Lis.newCf S N).s = S from rfl, show (Lis.newCf S N).n = N from rfl] at hbs h1 h2
      unfold aT at h1 h2
      constructor
      · obtain ⟨S', N', e1, e2, -, -, -, -, -, hk⟩ := Mem.kinds0_at hr
        obtain rfl : S = S' := by omega
        obtain rfl : N = N' := by omega
        rw [show (Lis.newCf S N).x = Mem.kinds0 S N from rfl, hk]
        unfold Mem.kindT
        have e1 : Lay.endT S N ≤ Lay.baseT S N := by unfold Lay.baseT; omega
        have e2 : Lay.slT S ≤ Lay.endT S N := by unfold Lay.slT Lay.endT; omega
        rw [if_neg (by omega), if_neg (by omega), if_neg (by omega), if_neg (by omega), if_neg (by omega), if_pos (by omega)]
      · rw [hrp.rest t (by right; right; show 128 + 16 * S ≤ t; omega)]
        exact hZ t (by omega)
  have HM := Lib.hid hmain
  clear hmain hBg hlx hll hbs hC d hr
  unfold pV at *
  go_enter Tryz.func11, Tryz.ntmps11
  go_wp2_with fail
  refine HM.out.mono ?_
  rintro e w1 ⟨l', rfl, h0, h1, h2⟩
  have H0 := Lib.hid h0
  have HG : Hid (St h S N l' l' (List.replicate S Sl.zero) w1 ∧ Fr w.heap.size (blkM h) w w1) := ⟨h1, h2⟩
  clear h0 h1 h2 HM
  go_wp2
  go_ret
  exact ⟨l', rfl, H0.out, HG.out⟩
end
theorem start3_any (S N : Nat) (w : World) (hr : Lay.rightC (S : Int) (N : Int) = true) (ht : Ts w) :
    Calls Tryz.prog 9 #[.agg #[.int .i64 (S : Int), .int .i64 (N : Int)]] w fun e w' => ∃ h, e = .returned (pV h) ∧
      (∀ W, Below w'.heap.size w' W → Calls Tryz.prog 11 #[pV h] W fun e W' => ∃ l0, e = .returned (.int .i64 0) ∧ (∀ t, t < 20 ∨ 60 ≤ t ∧ t < 128 ∨ 128 + 16 * S ≤ t → l0.getD t 0 = (newL S N).getD t 0) ∧ Wd w h w'.heap.size S N l0 l0 (List.replicate S Sl.zero) W') ∧ Below w.heap.size w w' := by
  refine (new_z false S N w hr ht.t ht.h).mono ?_
  rintro e w' ⟨h, rfl, hm, hb, hk, hz⟩
  refine ⟨h, rfl, fun W hW => ?_, hb⟩
  refine (begin3_any (fun t ht => newL_far S N ht) hr (hm.below hW)).mono ?_
  rintro e W' ⟨l', rfl, h0, hs, hf⟩
  exact ⟨l', rfl, h0, hs, (hb.trans (hW.mono hb.size)).trans (hf.toBelow (Nat.le_trans hb.size hW.size) (fun k hk' q => by have := hk k q; omega)), hk, hm.lo, Nat.le_trans hW.size hf.size, hb.size, hz⟩

theorem le_get : ∀ (L : List Int), (∀ i, 0 ≤ L.getD i 0) → 0 ≤ le L ∧ ∀ i, L.getD i 0 ≤ le L
  | [], _ => ⟨by decide, fun i => by simp [le]⟩
  | b :: r, h => by
    obtain ⟨g1, g2⟩ := le_get r (fun i => by have := h (i + 1); simpa using this)
    have hb : 0 ≤ b := by have := h 0; simpa using this
    rw [le]
    refine ⟨by omega, fun i => ?_⟩
    cases i with
    | zero => simp; omega
    | succ i =>
      have := g2 i
      simp only [List.getD_cons_succ]
      omega
theorem rd_small {l : List Int} (hl : IsBytes l) {a n : Nat} {v : Int} (h : rd l a n = v) {t : Nat} (h1 : a ≤ t) (h2 : t < a + n) : l.getD t 0 ≤ v := by
  have := (le_get _ (fun i => (part_bytes a n hl i).1)).2 (t - a)
  have e : ((l.drop a).take n).getD (t - a) 0 = l.getD t 0 := by
    rw [List.getD, List.getD, List.getElem?_take, if_pos (by omega), List.getElem?_drop, show a + (t - a) = t by omega]
  rw [e] at this
  rw [← h]
  exact this
theorem low224 : ((newL 7 224).take 20) = [0, 0, 0, 0, 0, 0, 0, 0, 66, 76, 79, 67, 7, 0, 0, 0, 224, 0, 0, 0] := by decide +kernel
theorem low224_get {t : Nat} (ht : t < 20) : (newL 7 224).getD t 0 ≠ 115 := by
  have e : (newL 7 224).getD t 0 = ([0, 0, 0, 0, 0, 0, 0, 0, 66, 76, 79, 67, 7, 0, 0, 0, 224, 0, 0, 0] : List Int).getD t 0 := by
    rw [← low224]
    simp [List.getD, ht]
  rw [e]
  have key : ∀ t : Fin 20, ([0, 0, 0, 0, 0, 0, 0, 0, 66, 76, 79, 67, 7, 0, 0, 0, 224, 0, 0, 0] : List Int).getD t.1 0 ≠ 115 := by decide
  exact key ⟨t, ht⟩
theorem nx_small {L : List Int} {c : Int} {k v : Nat} (h : Nx L c k v) : v ≤ L.length := by
  rcases h with ⟨rfl, -⟩ | ⟨j, rfl, -, h2, -⟩
  · omega
  · omega
theorem pv_small {L : List Int} {c : Int} {k v : Nat} (h : Pv L c k v) : v ≤ k := by
  rcases h with ⟨rfl, -⟩ | ⟨j, rfl, h2, -⟩
  · omega
  · omega
/-- Where nothing lives no byte is 115. -/
theorem no115 {h : Hm} {l0 : List Int} {w : World} (d : St h 7 224 l0 l0 (List.replicate 7 Sl.zero) w) (hl : ∀ t, t < 20 ∨ 60 ≤ t ∧ t < 128 ∨ 128 + 16 * 7 ≤ t → l0.getD t 0 = (newL 7 224).getD t 0) : ∀ t, l0.getD t 0 ≠ 115 := by
  obtain ⟨H, L, ⟨C, q1, q2, q3, q4, q5⟩, e2⟩ := d
  have hr := q5.rep
  rw [q1] at hr
  have hby : IsBytes l0 := q4.m.bytes
  have hlen := hr.len
  intro t
  by_cases h1 : t < 20
  · rw [hl t (.inl h1)]; exact low224_get h1
  by_cases h2 : t < 60
  · obtain ⟨v, g1, g2⟩ := hr.root ((t - 20) / 4) (by omega)
    have := rd_small hby g1 (t := t) (by omega) (by omega)
    have := nx_small g2
    omega
  by_cases h3 : t < 128
  · rw [hl t (.inr (.inl ⟨by omega, h3⟩)), newL_far _ _ (by omega)]; decide
  by_cases h4 : t < 240
  · have hj : (t - 128) / 16 < 7 := by omega
    have hh := e2.h _ hj
    rw [getD_rep _ _ _ hj, zero_v (s := Sl.zero) rfl] at hh
    obtain ⟨a1, a2, a3⟩ := hr.head _ hj
    rw [hh] at a1 a2 a3
    by_cases o2 : (t - 128) % 16 < 2
    · have := rd_small hby a1 (t := t) (by omega) (by omega)
      have t2 : l0.getD t 0 ≤ (0 : Int) := this
      omega
    by_cases o4 : (t - 128) % 16 < 4
    · have := rd_small hby a2 (t := t) (by omega) (by omega)
      have t2 : l0.getD t 0 ≤ (0 : Int) := this
      omega
    by_cases o8 : (t - 128) % 16 < 8
    · have := rd_small hby a3 (t := t) (by omega) (by omega)
      have t2 : l0.getD t 0 ≤ (0 : Int) := this
      omega
    by_cases o12 : (t - 128) % 16 < 12
    · obtain ⟨v, g1, g2⟩ := hr.nxt _ hj
      have := rd_small hby g1 (t := t) (by omega) (by omega)
      rcases g2 with ⟨-, rfl⟩ | ⟨-, g2⟩
      · omega
      · have := nx_small g2
        omega
    · obtain ⟨v, g1, g2⟩ := hr.prv _ hj
      have := rd_small hby g1 (t := t) (by omega) (by omega)
      rcases g2 with ⟨-, rfl⟩ | ⟨-, g2⟩
      · omega
      · have := pv_small g2
        omega
  · rw [hl t (.inr (.inr (by omega))), newL_far _ _ (by omega)]; decide
theorem has_no {l : List Int} (h : ∀ t, l.getD t 0 ≠ 115) : hasA l sg = false := by
  unfold hasA
  rw [List.any_eq_false]
  intro i _ he
  rw [beq_iff_eq] at he
  have e : ((l.drop i).take sg.length).getD 0 0 = l.getD i 0 := by
    rw [List.getD, List.getD, List.getElem?_take, if_pos (by decide), List.getElem?_drop, Nat.add_zero]
  rw [he] at e
  exact h i e.symm
theorem has_yes {l : List Int} {a : Nat} (h : a + 9 ≤ l.length) (he : ∀ i, i < 9 → l.getD (a + i) 0 = sg.getD i 0) : hasA l sg = true := by
  unfold hasA
  rw [List.any_eq_true]
  refine ⟨a, List.mem_range.2 (by show a < l.length + 1 - 9; omega), ?_⟩
  rw [beq_iff_eq]
  refine Mem.list_of_getD (by rw [List.length_take, List.length_drop]; show min 9 _ = 9; omega) (fun i hi => ?_)
  have hi9 : i < 9 := by rw [List.length_take] at hi; exact Nat.lt_of_lt_of_le hi (Nat.min_le_left _ _)
  rw [← he i hi9, List.getD, List.getD, List.getElem?_take, if_pos (by exact hi9), List.getElem?_drop]
/-- Each live block begins with the text. -/
def Txt (S N : Nat) (T : List Sl) (l : List Int) : Prop := ∀ j k, j < S → k ∈ (T.getD j Sl.zero).v → ∀ i, i < 9 → l.getD (pl (aT S N j) (T.getD j Sl.zero).c k + i) 0 = sg.getD i 0
section
variable {S N : Nat} {l l' : List Int} {T T' : List Sl}
theorem sz9 {s : Sl} {k : Nat} (hk : k ∈ s.v) : 32 ≤ szC (s.c : Int) := (bl_in (mem_lt hk).1).2.2
theorem Txt.keep (h : Txt S N T l) (hv : ∀ j k, j < S → k ∈ (T'.getD j Sl.zero).v → k ∈ (T.getD j Sl.zero).v ∧ (T'.getD j Sl.zero).c = (T.getD j Sl.zero).c) (hk : Kp S N T T' l l') : Txt S N T' l' := by
  intro j k hj hk' i hi
  obtain ⟨g1, g2⟩ := hv j k hj hk'
  rw [g2, hk j k hj g1 hk' g2 i (by have := sz9 g1; omega)]
  exact h j k hj g1 i hi
theorem Txt.give (h : Txt S N T l) {j0 k0 : Nat} (hg : Gvn S N T T' j0 k0) (hk : Kp S N T T' l l') : Txt S N T' l' := by
  refine h.keep (fun j k hj hv => ?_) hk
  by_cases e : j = j0
  · subst e
    refine ⟨((hg.mem k).1 hv).2, hg.cls (fun q => by rw [q] at hv; cases hv)⟩
  · rw [hg.oth j e] at hv ⊢
    exact ⟨hv, rfl⟩
theorem Txt.none (S N : Nat) (l : List Int) : Txt S N (List.replicate S Sl.zero) l := by
  intro j k hj hv
  rw [getD_rep _ _ _ hj, zero_v (s := Sl.zero) rfl] at hv
  cases hv
theorem Txt.take (h : Txt S N T l) {c : Int} {j0 k0 : Nat} (ht : Tkn S N T T' c j0 k0) (hk : Kp S N T T' l l') {X : List Int} (hX : ∀ i, i < 9 → X.getD i 0 = sg.getD i 0) (h9 : 9 ≤ X.length) (hXl : X.length ≤ szC c) (hl : pl (aT S N j0) c k0 + X.length ≤ l'.length) : Txt S N T' (wrL l' (pl (aT S N j0) c k0) X) := by
  intro j k hj hv i hi
  have hin0 := bl_in ht.hk
  by_cases e : j = j0
  · subst e
    rw [ht.cls]
    by_cases ek : k = k0
    · subst ek
      rw [Mem.wr_get _ _ _ _ hl, if_pos (by omega), show pl (aT S N j) c k + i - pl (aT S N j) c k = i by omega]
      exact hX i hi
    · have hv0 : k ∈ (T.getD j Sl.zero).v := ((ht.mem k).1 hv).resolve_left ek
      have hc : ((T.getD j Sl.zero).c : Int) = c := by
        rcases ht.old with q | q
        · exact q
        · rw [zero_v q] at hv0; cases hv0
      have hsz := sz9 hv0
      rw [hc] at hsz
      rw [Mem.wr_get _ _ _ _ hl, if_neg (by
        rcases Nat.lt_or_gt_of_ne ek with q | q
        · have := bl_apart c q
          unfold pl
          omega
        · have := bl_apart c q
          unfold pl
          omega)]
      have h1 := hk j k hj hv0 hv (by have := ht.cls; omega) i (by rw [hc]; omega)
      rw [hc] at h1
      rw [h1]
      have h2 := h j k hj hv0 i hi
      rw [hc] at h2
      exact h2
  · have hv0 : k ∈ (T.getD j Sl.zero).v := by rw [← ht.oth j e]; exact hv
    have hin := bl_in (mem_lt hv0).1
    rw [ht.oth j e]
    rw [Mem.wr_get _ _ _ _ hl, if_neg (by
      rcases Nat.lt_or_gt_of_ne e with q | q
      · unfold pl aT
        omega
      · unfold pl aT
        omega)]
    rw [hk j k hj hv0 hv (by rw [ht.oth j e]) i (by omega)]
    exact h j k hj hv0 i hi
theorem lvF_none : ∀ k, lvF T k = 0 → ∀ j, j < k → (T.getD j Sl.zero).v = []
  | 0, _, j, hj => by omega
  | k + 1, h, j, hj => by
    rw [lvF] at h
    by_cases e : j = k
    · subst e
      exact List.length_eq_zero_iff.1 (by omega)
    · exact lvF_none k (by omega) j (by omega)
theorem lvF_some : ∀ k, 0 < lvF T k → ∃ j, j < k ∧ (T.getD j Sl.zero).v ≠ []
  | 0, h => by cases h
  | k + 1, h => by
    rw [lvF] at h
    by_cases e : (T.getD k Sl.zero).v = []
    · rw [e] at h
      obtain ⟨j, h1, h2⟩ := lvF_some k (by simpa using h)
      exact ⟨j, by omega, h2⟩
    · exact ⟨k, by omega, e⟩
end
theorem has_live {w0 w W : World} {h : Hm} {n : Nat} {l0 l : List Int} {T : List Sl} (d0 : St h 7 224 l0 l0 (List.replicate 7 Sl.zero) w) (hl : ∀ t, l0.getD t 0 ≠ 115) (d : Wd w0 h n 7 224 l0 l T W) (ht : Txt 7 224 T l) : hasA l sg = decide ((0 : Int) < (lvF T 7 : Int)) := by
  by_cases h0 : lvF T 7 = 0
  · have hn : ∀ x, ¬ Lv 7 224 T x := by
      rintro x ⟨j, k, hj, hk, -⟩
      rw [lvF_none 7 h0 j hj] at hk
      cases hk
    have := zero_same d0 d.st (fun j hj => none_zero d.st hn hj)
    rw [this, has_no hl, h0]
    rfl
  · obtain ⟨j, hj, hv⟩ := lvF_some (T := T) 7 (by omega)
    obtain ⟨k, hk⟩ := List.exists_mem_of_ne_nil _ hv
    have hp := d.pl_len hj hk
    have hsz := sz9 hk
    rw [has_yes (a := pl (aT 7 224 j) (T.getD j Sl.zero).c k) (by omega) (ht j k hj hk)]
    exact (decide_eq_true (by omega)).symm
end Go.Proofs.YtjjfihoplkddfaaGreatDoor.Sla

namespace Go.Proofs.YtjjfihoplkddfaaGreatDoor.Mem
open Go.RowKit Num Arn Wat
set_option linter.unusedVariables false
theorem runs_new (h : Hm) (v : Value) (M : Mm) (w : World) (hm : MemC h w v M) :
    Calls Tryz.prog 25 #[v] w fun e w' => ∃ u, e = .returned u ∧ RowR w' u (rl M.x M.x.length) ∧ Below w.heap.size w w' ∧ ∀ b, u.ownBlock = some b → w.heap.size ≤ b := by
  have HM := Lib.hid (made_any h v M w hm)
  have HF := Lib.hid (Wat.runsC_new h.w _ M.x M.lk M.ft w hm.wa)
  obtain ⟨c0, -, -, -⟩ := hm.cells
  obtain rfl := hm.hv
  clear hm
  go_enter Tryz.func25, Tryz.ntmps25
  go_wp2_with fail
  refine HM.out.mono ?_
  rintro e w' ⟨rfl, rfl⟩
  go_wp2_with fail
  refine HF.out.mono ?_
  rintro e w1 ⟨u, rfl, hr1, hb1, hn1⟩
  have HR := Lib.hid hr1
  have HN := Lib.hid hn1
  clear hr1 hn1
  go_wp2
  go_ret
  exact ⟨_, rfl, HR.out, hb1, HN.out⟩

end Go.Proofs.YtjjfihoplkddfaaGreatDoor.Mem
namespace Go.Proofs.YtjjfihoplkddfaaGreatDoor.Reg
open Go.RowKit
open Cls (szC blC pdC)
open Sla (pl aT lk Sl St Wd Ts pV SlabOk bl_in bl_apart lvF rmF fB)
open Wat (Rn)
open Mem (blkM Hm)
set_option linter.unusedVariables false
section
variable {h : Hm} {S N : Nat} {l0 l : List Int} {T : List Sl} {W : World}
theorem st_runs_new (d : St h S N l0 l T W) : Calls Tryz.prog 25 #[pV h] W fun e W' => ∃ u, e = .returned u ∧ ZRow W' u (stJ S N T) ∧ Below W.heap.size W W' ∧ ∀ b, u.ownBlock = some b → W.heap.size ≤ b := by
  obtain ⟨M, h1, h2, h3, h4, h5, h6, h7, h8, h9⟩ := st_map d
  obtain ⟨L, hL, hg⟩ := til_join h8 (by omega)
  rw [good_rl hg] at hL
  refine (Mem.runs_new h (pV h) M W h1).mono ?_
  rintro e W' ⟨u, rfl, hr, hb, hn⟩
  refine ⟨u, rfl, ?_, hb, hn⟩
  have := zrow_of_row hr
  rw [← hL] at this
  exact this
end

theorem run_bd {h : Hm} {l0 l : List Int} {T : List Sl} {W : World} (d : St h 7 224 l0 l T W) : ∀ r ∈ stJ 7 224 T, 0 ≤ r.1 ∧ 0 ≤ r.2.1 ∧ r.1 + r.2.1 ≤ 100000 := by
  obtain ⟨M, h1, h2, h3, h4, h5, h6, h7, h8, h9⟩ := st_map d
  obtain ⟨L, hL, hg⟩ := til_join h8 (by omega)
  intro r hr
  unfold stJ at hr
  rw [hL] at hr
  obtain ⟨q, hq, rfl⟩ := List.mem_map.1 hr
  obtain ⟨a, b, c⟩ := good_all hg q hq
  simp only [cstW]
  omega
/-- The first words of the runs: how many begin a free block. -/
def cnW (p : Nat → Bool) (J : List RZ) (i t : Nat) : Nat := (fF (J.take i)).countP p + ((f1 (J.getD i rz0)).take t).countP p
theorem cnW_zero (p : Nat → Bool) (J : List RZ) : cnW p J 0 0 = 0 := by simp [cnW, fF]
theorem cnW_next (p : Nat → Bool) (J : List RZ) {i : Nat} (hi : i < J.length) {t : Nat} (ht : (f1 (J.getD i rz0)).length ≤ t) : cnW p J i t = cnW p J (i + 1) 0 := by
  unfold cnW
  rw [List.take_of_length_le ht, List.take_zero, List.countP_nil, Nat.add_zero, List.take_succ_eq_append_getElem hi, fF_app, fF_one, List.countP_append, List.getD, List.getElem?_eq_getElem hi, Option.getD_some]
theorem cnW_end (p : Nat → Bool) (J : List RZ) : cnW p J J.length 0 = (fF J).countP p := by
  unfold cnW
  rw [List.take_of_length_le (Nat.le_refl _), List.take_zero, List.countP_nil, Nat.add_zero]
theorem fF_sub {p : Nat → Bool} (J : List RZ) : ∀ i, (fF (J.take i)).countP p ≤ (fF J).countP p := by
  intro i
  have e : fF J = fF (J.take i) ++ fF (J.drop i) := by rw [← fF_app, List.take_append_drop]
  rw [e, List.countP_append]
  omega
theorem cnW_le (p : Nat → Bool) (J : List RZ) {i : Nat} (hi : i < J.length) (t : Nat) : cnW p J i t ≤ (fF J).countP p := by
  have h1 := fF_sub (p := p) J (i + 1)
  have h2 : ((f1 (J.getD i rz0)).take t).countP p ≤ (f1 (J.getD i rz0)).countP p := (List.take_sublist _ _).countP_le
  have h3 := cnW_next p J hi (Nat.le_refl _)
  unfold cnW at h3 ⊢
  simp only [List.take_of_length_le (Nat.le_refl _), List.take_zero, List.countP_nil, Nat.add_zero] at h3
  omega
theorem cnW_step (p : Nat → Bool) (J : List RZ) {i a m t : Nat} (h1 : f1 (J.getD i rz0) = (List.range m).map fun i => a + 8 * i) (ht : t < m) : cnW p J i (t + 1) = cnW p J i t + if p (a + 8 * t) = true then 1 else 0 := by
  unfold cnW
  have hl : t < (f1 (J.getD i rz0)).length := by rw [h1, List.length_map, List.length_range]; exact ht
  rw [List.take_succ_eq_append_getElem hl, List.countP_append, Nat.add_assoc]
  congr 2
  have e : (f1 (J.getD i rz0))[t] = a + 8 * t := by rw [List.getElem_of_eq h1 hl, List.getElem_map, List.getElem_range]
  rw [e]
  by_cases hp : p (a + 8 * t) = true
  · simp [hp]
  · simp [hp]
/-- A run of free bytes and its words. -/
theorem run_six {h : Hm} {l0 l : List Int} {T : List Sl} {W : World} (d : St h 7 224 l0 l T W) {i : Nat} (hi : i < (stJ 7 224 T).length) (h6 : ((stJ 7 224 T).getD i rz0).2.2 = 6) :
    ∃ a m : Nat, (stJ 7 224 T).getD i rz0 = ((a : Int), ((8 * m : Nat) : Int), 6) ∧ a + 8 * m ≤ 100000 ∧ f1 ((stJ 7 224 T).getD i rz0) = ((List.range m).map fun i => a + 8 * i) ∧ ∀ t, t < m → a + 8 * t ∈ fF (stJ 7 224 T) := by
  obtain ⟨g1, -, -⟩ := stJ_facts (S := 7) (N := 224) (T := T) (fun j hj => d.ok hj)
  have hm : (stJ 7 224 T).getD i rz0 ∈ stJ 7 224 T := by
    rw [List.getD, List.getElem?_eq_getElem hi]
    exact List.getElem_mem hi
  obtain ⟨a, n, e1, e2, e3⟩ := g1 _ hm h6
  have hb := run_bd d _ hm
  have hf : f1 ((stJ 7 224 T).getD i rz0) = ((List.range (n / 8)).map fun i => a + 8 * i) := by
    unfold f1
    rw [if_pos h6, e1, e2, Int.toNat_natCast, Int.toNat_natCast]
  refine ⟨a, n / 8, ?_, by omega, hf, fun t ht => ?_⟩
  · generalize (stJ 7 224 T).getD i rz0 = r at e1 e2 h6
    obtain ⟨r1, r2, r3⟩ := r
    simp only at e1 e2 h6
    rw [e1, e2, h6, show 8 * (n / 8) = n by omega]
  · refine List.mem_flatMap.2 ⟨_, hm, ?_⟩
    rw [hf]
    exact List.mem_map.2 ⟨t, List.mem_range.2 ht, rfl⟩
theorem run_other {r : RZ} (h : r.2.2 ≠ 6) : f1 r = [] := by unfold f1; rw [if_neg h]
section
variable {w0 W : World} {h : Hm} {n : Nat} {l0 l : List Int} {T : List Sl}
theorem w_block (d : Wd w0 h n 7 224 l0 l T W) {x : Nat} (hx : x ∈ fF (stJ 7 224 T)) : ∃ j b : Int, 0 ≤ j ∧ j ≤ 6 ∧ (b = (x : Int) ↔ stB 7 224 T x = true) ∧
    ∀ W, Wd w0 h n 7 224 l0 l T W → Calls Tryz.prog 30 #[pV h, .int .i64 (x : Int)] W fun e W' => e = .returned (.tuple #[.int .i64 j, .int .i64 b, .bool true]) ∧ Wd w0 h n 7 224 l0 l T W' ∧ Fr W.heap.size (blkM h) W W' := by
  have hT : ∀ j, j < 7 → (T.getD j Sl.zero).Ok := fun j hj => d.st.ok hj
  obtain ⟨-, -, g3⟩ := stJ_facts (S := 7) (N := 224) hT
  obtain ⟨j, k, i, hj, hk, hi, rfl⟩ := g3 x hx
  have hkb := (hT j hj).lt k hk
  have hw := pl_word (N := 224) hT hj hk hi
  have hin := bl_in hkb
  obtain ⟨-, -, -, -, -, hp, hl⟩ := d.st.free_at hj hk
  refine ⟨j, (pl (aT 7 224 j) (T.getD j Sl.zero).c k : Int), by omega, by omega, ?_, fun W d => ?_⟩
  · rw [hw, decide_eq_true_iff]
    omega
  · refine (d.st.block (a := ((pl (aT 7 224 j) (T.getD j Sl.zero).c k + 8 * i : Nat) : Int)) (by unfold Arn.is64; omega)).mono ?_
    rintro e W' ⟨rfl, h1, h2⟩
    refine ⟨?_, d.fr h1 h2, h2⟩
    unfold Sla.bkF
    rw [Sla.fnd_at (N := 224) (T := T) d.st.right hj hkb hi]
    rfl
theorem w_load (d : Wd w0 h n 7 224 l0 l T W) {x : Nat} (hx : x ∈ fF (stJ 7 224 T)) :
    Calls Tryz.prog 31 #[pV h, .int .i64 (x : Int), .int .i64 8, .int .i64 6] W fun e W' => ∃ v : Int, e = .returned (.int .u64 v) ∧ (stB 7 224 T x = true → 0 ≤ v ∧ v.tmod 4294967296 = 0) ∧ (stB 7 224 T x = false → v = 0) ∧ Wd w0 h n 7 224 l0 l T W' ∧ Fr W.heap.size (blkM h) W W' := by
  have hT : ∀ j, j < 7 → (T.getD j Sl.zero).Ok := fun j hj => d.st.ok hj
  obtain ⟨-, -, g3⟩ := stJ_facts (S := 7) (N := 224) hT
  obtain ⟨j, k, i, hj, hk, hi, rfl⟩ := g3 x hx
  have hw := pl_word (N := 224) hT hj hk hi
  refine (d.st.load8 hj hk (i := 8 * i) hi (by omega)).mono ?_
  rintro e W' ⟨v, rfl, h1, h2, h3, h4⟩
  refine ⟨v, rfl, fun q => h1 ?_, fun q => h2 ?_, d.fr h3 h4, h4⟩
  · rw [hw, decide_eq_true_iff] at q
    omega
  · rw [hw, decide_eq_false_iff_not] at q
    omega
theorem w_get (d : Wd w0 h n 7 224 l0 l T W) {x : Nat} (hx : stB 7 224 T x = true) :
    Calls Tryz.prog 32 #[pV h, .int .i64 (x : Int)] W fun e W' => ∃ nx, e = .returned (.tuple #[(fB nx).agg, .int .i64 0]) ∧ Wd w0 h n 7 224 l0 l T W' ∧ Fr W.heap.size (blkM h) W W' := by
  obtain ⟨j, k, hj, hk, rfl⟩ := stB_iff.1 hx
  refine (d.st.get hj hk).mono ?_
  rintro e W' ⟨nx, rfl, h1, h2⟩
  exact ⟨nx, rfl, d.fr h1 h2, h2⟩
end
theorem frF_le {T : List Sl} : ∀ {S : Nat}, (∀ j, j < S → (T.getD j Sl.zero).Ok) → ∀ k, k ≤ S → frF T k ≤ 32 * k
  | S, hT, 0, _ => Nat.le_refl _
  | S, hT, k + 1, h => by
    have := frF_le hT k (by omega)
    have := (Sla.v_le _ (hT k (by omega))).2
    rw [frF]
    omega
end Go.Proofs.YtjjfihoplkddfaaGreatDoor.Reg

namespace Go.Proofs.YtjjfihoplkddfaaGreatDoor.Sla
open Go.RowKit Num
open Mem (Mm MemC MRet Hm rd blkM)
open Lis (Cf LM LR Tb at_ Nx Pv Rep Hx valsN)
open Cls (szC blC pdC)
open Arn (wrL is64 hasA)
open Reg (stJ fF f1 cnW stB frF RZ rz0 ZRow caF)
set_option linter.unusedVariables false

def tx : List Int := [115, 111, 109, 101, 116, 104, 105, 110, 103, 32, 104, 101, 114, 101, 44, 32, 111, 102, 32, 116, 104, 105, 114, 116, 121, 32, 98, 121, 116, 101, 115]
abbrev txA : Array Value := #[.int .u8 115, .int .u8 111, .int .u8 109, .int .u8 101, .int .u8 116, .int .u8 104, .int .u8 105, .int .u8 110, .int .u8 103, .int .u8 32, .int .u8 104, .int .u8 101, .int .u8 114, .int .u8 101, .int .u8 44, .int .u8 32, .int .u8 111, .int .u8 102, .int .u8 32, .int .u8 116, .int .u8 104, .int .u8 105, .int .u8 114, .int .u8 116, .int .u8 121, .int .u8 32, .int .u8 98, .int .u8 121, .int .u8 116, .int .u8 101, .int .u8 115]
theorem conv_tx (W : World) : (convert 57 57 (.slice (some ⟨W.heap.size, 0, none⟩) 31 31)).run Tryz.prog (W.alloc (.cells txA 5)) = .ok (.slice (some ⟨W.heap.size, 0, none⟩) 31 31) (W.alloc (.cells txA 5 (31, 32))) :=
  Lib.run_convert_bytes_const (P := Tryz.prog) W 57 5 txA 31 31 Tryz.underlying57 Tryz.underlying5
theorem Txt.gv {S N : Nat} {T : List Sl} {l l' : List Int} (h : Txt S N T l) (hT : Tk S T) (hr : Lay.rightC (S : Int) (N : Int) = true) {a : Int} (hk : Kp S N T (gvF S N T a).2 l l') : Txt S N (gvF S N T a).2 l' := by
  rcases gv_cases (N := N) hT hr a with e | ⟨j, k, hj, hv, hg⟩
  · rw [e] at hk ⊢
    exact h.keep (fun j k hj hv => ⟨hv, rfl⟩) hk
  · exact h.give hg hk
section
variable {w0 W W' : World} {h : Hm} {n : Nat} {l0 l l' : List Int} {T T' : List Sl}
theorem wd_has (d : Wd w0 h n 7 224 l0 l T W) (hb8 : Arn.Tb W) {u : Value} (hu : Row .u8 W u sg) :
    Calls Tryz.prog 28 #[pV h, u] W fun e W' => e = .returned (.bool (hasA l sg)) ∧ Below W.heap.size W W' := by
  obtain ⟨H, L, ⟨C, -, -, h3, h4, h5⟩, d2⟩ := d.st
  obtain ⟨ht, lk0, hm⟩ := id h4.m
  exact Mem.has_any h _ (C.mm l lk0) u sg W hm hu (by decide) hb8
/-- A row of runs behind a bound. -/
def ZRn (n : Nat) (W : World) (u : Value) (J : List RZ) : Prop := ZRow W u J ∧ ∀ b, u.ownBlock = some b → n ≤ b
theorem ZRn.fr {u : Value} {J : List RZ} (hz : ZRn n W u J) (hf : Fr W.heap.size (blkM h) W W') (hl : Lo h n) : ZRn n W' u J := by
  obtain ⟨⟨a, cap, rfl, h2, h3, h5⟩, hn⟩ := hz
  refine ⟨⟨a, cap, rfl, h2, h3, fun hne => ?_⟩, hn⟩
  obtain ⟨b, off, rfl, hlt, hc⟩ := h5 hne
  refine ⟨b, off, rfl, Nat.lt_of_lt_of_le hlt hf.size, fun i hi j x hx => hf.cell (hc i hi j x hx) hlt (fun q => ?_)⟩
  have h1 := hl.m b q
  have h2 := hn b rfl
  omega
theorem ZRn.below {u : Value} {J : List RZ} (hz : ZRn n W u J) (hb : Below W.heap.size W W') : ZRn n W' u J := ⟨hz.1.mono hb (Nat.le_refl _), hz.2⟩
end
theorem caF_le {T : List Sl} (hT : ∀ j, j < 7 → (T.getD j Sl.zero).Ok) : ∀ k, caF T 7 k ≤ 224 * k
  | 0 => Nat.le_refl _
  | k + 1 => by
    have h1 := caF_le hT k
    have h2 := rmF_le hT ((k + 1 : Nat) : Int) 7 (Nat.le_refl _)
    rw [caF]
    omega
set_option maxRecDepth 100000 in
set_option maxHeartbeats 8000000 in
theorem slabClean_walk (v : Value) (B : List Act) (w : World) (ht : Ts w) (hb8 : Arn.Tb w) (hr : ActRow w v B) :
    Calls Tryz.prog 4 #[v] w fun e w' => e = .returned (.bool true) ∧ Below w.heap.size w w' := by
  obtain ⟨i0, hi0, hz0, hz1, hz2⟩ := info_parts Lis.infoInt
  have HW := Lib.hid (fun V (hv : Ts V) => takes_any V hv)
  have HTs := Lib.hid ht
  have HTb := Lib.hid hb8
  obtain ⟨ad, cap, U, rfl, q2, q3, q4, q5⟩ := hr
  have HC := Lib.hid q5
  have HS := Lib.hid q4
  have HN := Lib.hid (start3_any 7 224 w (by decide) ht)
  clear q4 q5 ht hb8
  by_cases hL : 200 < B.length
  · have hL1 : (200 : Int) < (B.length : Int) := by omega
    go_enter Tryz.func4, Tryz.ntmps4
    go_wp2_with fail
    refine (HW.out _ HTs.out).mono ?_
    rintro e w1 ⟨rfl, hb⟩
    go_wp2
    go_ret
    exact ⟨rfl, hb⟩
  have hL0 : ¬ (200 : Int) < (B.length : Int) := by omega
  have hL0' : decide ((200 : Int) < (B.length : Int)) = false := by rw [decide_eq_false_iff_not]; omega
  rw [show ((7 : Nat) : Int) = 7 from rfl, show ((224 : Nat) : Int) = 224 from rfl] at HN
  unfold pV at HN
  go_enter Tryz.func4, Tryz.ntmps4
  go_wp2_with fail
  refine HN.out.mono ?_
  rintro e w1 ⟨h, rfl, hB1, hb1⟩
  have HBg := Lib.hid (hB1 w1 (Below.refl _ _))
  clear hB1 hb1 HN
  obtain ⟨n, hn⟩ : ∃ n, n = w1.heap.size := ⟨_, rfl⟩
  rw [← hn] at HBg
  clear hn
  go_wp2_with fail
  refine HBg.out.mono ?_
  rintro e w2 ⟨l0, rfl, h0, hd2⟩
  have HD0 := Lib.hid hd2.st
  have HF5 := Lib.hid (no115 hd2.st h0)
  have HD2 := Lib.hid hd2
  clear hd2 h0 HBg
  go_wp2
  go_loopw [4, 5] (fun v i wr => ∃ (j : Nat) (A : List Nat) (l : List Int) (T : List Sl), j ≤ B.length ∧ A.length ≤ j ∧ i = .int .i64 j ∧ Hid (Wd w h n 7 224 l0 l T wr) ∧ Hid (OwnI n wr v A) ∧ Hid (∀ x ∈ A, x ≤ 100000) ∧ Hid (Txt 7 224 T l)) (fun _ i _ => B.length - (intOf i).toNat)
  case atStart => exact ⟨0, [], l0, _, Nat.zero_le _, Nat.le_refl _, rfl, HD2.out, OwnI.nil _ _, (fun _ q => by cases q), Txt.none _ _ _⟩
  case round =>
    clear HD2
    obtain ⟨j, A, l, T, hj, hjA, rfl, HD, HA, HB, HX⟩ := hrel
    by_cases hlt : j < B.length
    · have hlt1 : (j : Int) < (B.length : Int) := by omega
      have hlt0 : (0 : Int) ≤ (j : Int) := by omega
      have hjw : IntKind.i64.wrap ((j : Int) + 1) = ((j + 1 : Nat) : Int) := (Arn.wrap_id (by omega) (by omega)).trans (by omega)
      obtain ⟨rb, off, rfl, hlb, hc⟩ := HC.out (by rintro rfl; simp at hlt)
      obtain ⟨hs1, hs2, hs3⟩ := HS.out j hlt
      have hcw : ∀ W, Below w.heap.size w W → W.cell? ⟨rb, off + j * 2, none⟩ = some (.int .i64 (B.getD j Act.zero).k) ∧ W.cell? ⟨rb, off + j * 2 + 1, none⟩ = some (.int .i64 (B.getD j Act.zero).n) := fun W hb => by
        have g0 := hc j hlt 0 (.int .i64 (B.getD j Act.zero).k) (by rw [hs2]; rfl)
        have g1 := hc j hlt 1 (.int .i64 (B.getD j Act.zero).n) (by rw [hs2]; rfl)
        exact ⟨(hb.cell (p := ⟨rb, off + j * 2, none⟩) hlb).trans g0, (hb.cell (p := ⟨rb, off + j * 2 + 1, none⟩) hlb).trans g1⟩
      have h64 := hs3.2
      generalize (B.getD j Act.zero).k = yk at hcw hs3
      generalize (B.getD j Act.zero).n = yn at hcw h64
      obtain ⟨d0, d1⟩ := hcw _ HD.out.b
      by_cases hk3 : yk < 3
      · have HTk := Lib.hid (HD.out.take yn)
        unfold pV at HTk
        clear hs1 hs2 hs3 hc hcw
        go_wp2_with fail
        refine HTk.out.mono ?_
        rintro e w4 (⟨l', x, er, hne, rfl, hd4, hf4, hk4⟩ | ⟨l', T', jj, k, rfl, htk, hd4, hf4, hk4, -⟩)
        · have hne1 : (er == 0) = false := by simpa using hne
          have HD4 := Lib.hid hd4
          have HA4 := Lib.hid (HA.out.fr hf4 HD.out.lo)
          have HX4 := Lib.hid (HX.out.keep (fun j k hj hv => ⟨hv, rfl⟩) hk4)
          clear hne hd4 hf4 hk4 HD HA HX HTk d0 d1
          go_wp2
          go_roundw
          case rel => exact ⟨j + 1, A, l', T, by omega, by omega, by go_num, HD4.out, HA4.out, HB.out, HX4.out⟩
          case measure => simp [intOf]; omega
        · have hA4 := HA.out.fr hf4 HD.out.lo
          have hmem : k ∈ (T'.getD jj Sl.zero).v := (htk.mem k).2 (.inl rfl)
          have hin := bl_in htk.hk
          have hp5 := lv_bd hd4.st (x := pl (aT 7 224 jj) (T'.getD jj Sl.zero).c k) ⟨jj, k, htk.hj, hmem, rfl⟩
          have hpl := hd4.pl_len htk.hj hmem
          rw [htk.cls] at hp5 hpl
          have HX4 := Lib.hid (HX.out.take htk hk4 (X := tx) (by decide) (by decide) (by show 31 ≤ _; omega) (by show _ + 31 ≤ _; omega))
          have HB4 : Hid (∀ x ∈ A ++ [pl (aT 7 224 jj) yn k], x ≤ 100000) := fun x hx => by
            rcases List.mem_append.1 hx with hx | hx
            · exact HB.out x hx
            · obtain rfl := List.mem_singleton.1 hx
              exact hp5
          have HWr : Hid (∀ W, Wd w h n 7 224 l0 l' T' W → Calls Tryz.prog 27 #[.pointer (some ⟨h.g, 0, none⟩), .int .i64 (pl (aT 7 224 jj) yn k : Int), .slice (some ⟨W.heap.size, 0, none⟩) 31 31, .int .i64 5] (W.alloc (.cells txA 5 (31, 32))) fun e W' =>
              e = .returned (.bool true) ∧ Wd w h n 7 224 l0 (wrL l' (pl (aT 7 224 jj) yn k) tx) T' W' ∧ Fr W.heap.size (blkM h) W W') := fun W hW => by
            have hb := below_made W (.cells txA 5 (31, 32))
            have hrow : Row .u8 (W.alloc (.cells txA 5 (31, 32))) (.slice (some ⟨W.heap.size, 0, none⟩) tx.length tx.length) tx := Row.made_mark W tx 5 _ _ rfl (by decide) (by decide)
            have := (hW.below hb).write htk.hj hmem (X := tx) (by rw [htk.cls]; show 31 ≤ _; omega) hrow (fun b hb => by simp only [Value.ownBlock, Option.some.injEq] at hb; have := hW.nn; omega)
            rw [htk.cls] at this
            refine this.mono ?_
            rintro e W' ⟨rfl, h1, h2⟩
            exact ⟨rfl, h1, (Fr.of_below hb).trans (h2.mono hb.size (fun _ _ q => q))⟩
          have HLo := Lib.hid HD.out.lo
          have hd4n := hd4.nn
          have HD4 := Lib.hid hd4
          clear htk hmem hin hp5 hpl hd4 hf4 hk4 HD HA HTk HX HB d0 d1
          generalize pl (aT 7 224 jj) yn k = P at HB4 HWr HX4
          go_wp2_with (at_builtin; refine wpList_append_own _ rfl (.tmp 52) (.tmp 54) 32 rfl n 3 i0 (.int .i64 0) 1 8 Tryz.underlying32 hi0 hz0 hz1 hz2 rfl (by decide) _ _ _ rfl (World.ownsRow.alloc hA4 _) ⟨w4.heap.size, 0, none⟩ 1 1 [.int .i64 (P : Int)] rfl rfl (news_one _ _ _ _) (oneCell_one _ _) (by unfold maxLen; omega) (by omega) (by simp; omega) ?_)
          intro v5 w5 hown5 hgrow5 _
          have hb5 : Below n w4 w5 := ((Below.refl n w4).alloc hd4n _).grown hgrow5 (by simp; omega) (fun r hr => (World.ownsRow.lt hA4 r hr).1)
          have HD5 := Lib.hid (HD4.out.low hb5)
          have HA5 : Hid (OwnI n w5 v5 (A ++ [P])) := by
            unfold Hid OwnI
            rw [Lis.valsN_snoc, List.length_append]
            exact hown5
          clear hA4 hown5 hgrow5 hb5 HD4
          have kc := conv_tx w5
          unfold txA at kc
          go_wp2_with fail
          refine (HWr.out _ HD5.out).mono ?_
          rintro e w6 ⟨rfl, hd6, hf6⟩
          have HD6 := Lib.hid hd6
          have HA6 := Lib.hid (HA5.out.fr hf6 HLo.out)
          clear hd6 hf6 HD5 HA5 HWr
          go_wp2
          go_roundw
          case rel => exact ⟨j + 1, A ++ [P], _, T', by omega, by rw [List.length_append, List.length_singleton]; omega, by go_num, HD6.out, HA6.out, HB4.out, HX4.out⟩
          case measure => simp [intOf]; omega
      · have HPl := Lib.hid (place_any yk yn _ A wr (HA.out.row HB.out).1 (by omega) HB.out h64)
        clear hs1 hs2 hs3 hc hcw
        go_wp2_with fail
        refine HPl.out.mono ?_
        rintro e w4 ⟨a, rfl, ha64, hb4⟩
        have HD4 := Lib.hid (HD.out.below hb4)
        have HA4 := Lib.hid (HA.out.below hb4)
        have HGv : Hid (Calls Tryz.prog 15 #[.pointer (some ⟨h.g, 0, none⟩), .int .i64 a] w4 fun e W' => ∃ r l' T', e = .returned (.int .i64 r) ∧ Wd w h n 7 224 l0 l' T' W' ∧ Fr w4.heap.size (blkM h) w4 W' ∧ Txt 7 224 T' l') := by
          refine (HD4.out.st.give ha64).mono ?_
          rintro e W' ⟨l', rfl, hs, hf, hk⟩
          exact ⟨_, l', _, rfl, HD4.out.fr hs hf, hf, HX.out.gv HD.out.st.tk HD.out.st.right hk⟩
        clear hb4 ha64 HD HA HPl d0 d1
        go_wp2_with fail
        refine HGv.out.mono ?_
        rintro e w5 ⟨r, l', T', rfl, hd5, hf5, hx5⟩
        have HA5 := Lib.hid (HA4.out.fr hf5 HD4.out.lo)
        have HD5 := Lib.hid hd5
        have HX5 := Lib.hid hx5
        clear hd5 hf5 hx5 HD4 HA4 HX HGv
        go_wp2
        go_roundw
        case rel => exact ⟨j + 1, A, l', T', by omega, by omega, by go_num, HD5.out, HA5.out, HB.out, HX5.out⟩
        case measure => simp [intOf]; omega
    · obtain rfl : j = B.length := by omega
      have hTb := HTb.out.keep HD.out.b
      have HHs : Hid (Calls Tryz.prog 28 #[.pointer (some ⟨h.g, 0, none⟩), .slice (some ⟨wr.heap.size, 0, none⟩) 9 9] (wr.alloc (.cells sgA 5 (9, 10))) fun e W' => e = .returned (.bool (decide ((0 : Int) < (lvF T 7 : Int)))) ∧ Below wr.heap.size wr W') := by
        have hb := below_made wr (.cells sgA 5 (9, 10))
        have hrow : Row .u8 (wr.alloc (.cells sgA 5 (9, 10))) (.slice (some ⟨wr.heap.size, 0, none⟩) sg.length sg.length) sg := Row.made_mark wr sg 5 _ _ rfl (by decide) (by decide)
        have := wd_has (HD.out.below hb) (hTb.keep hb) hrow
        rw [has_live HD0.out HF5.out HD.out HX.out] at this
        refine this.mono ?_
        rintro e W' ⟨rfl, h1⟩
        exact ⟨rfl, hb.trans (h1.mono hb.size)⟩
      have HLv : Hid (∀ W, Wd w h n 7 224 l0 l T W → Calls Tryz.prog 29 #[.pointer (some ⟨h.g, 0, none⟩)] W fun e W' => e = .returned (.int .i64 (lvF T 7 : Int)) ∧ Wd w h n 7 224 l0 l T W') := fun W hW => by
        refine (lives_any hW.st).mono ?_
        rintro e W' ⟨rfl, h1, h2⟩
        exact ⟨rfl, hW.fr h1 h2⟩
      have hT := fun j hj => HD.out.st.ok (j := j) hj
      have hcn : (fF (stJ 7 224 T)).countP (stB 7 224 T) = frF T 7 := (Reg.stJ_facts hT).2.1
      have hfr := Reg.frF_le hT 7 (Nat.le_refl _)
      have hca := Reg.caF_all hT
      have HCa := Lib.hid (caF_le hT)
      have hsix := fun i hi h6 => Reg.run_six HD.out.st (i := i) hi h6
      have hbk := fun x hx => Reg.w_block HD.out (x := x) hx
      have hld := fun W x (d : Wd w h n 7 224 l0 l T W) hx => Reg.w_load d (x := x) hx
      have hgt := fun W x (d : Wd w h n 7 224 l0 l T W) hx => Reg.w_get d (x := x) hx
      have hru := fun W (d : Wd w h n 7 224 l0 l T W) => Reg.st_runs_new d.st
      have HRm : Hid (∀ W (c : Int), Wd w h n 7 224 l0 l T W → Calls Tryz.prog 22 #[.pointer (some ⟨h.g, 0, none⟩), .int .i64 c] W fun e W' => e = .returned (.int .i64 (rmF T c 7 : Int)) ∧ Wd w h n 7 224 l0 l T W') := fun W c hW => by
        refine (room_any hW.st c).mono ?_
        rintro e W' ⟨rfl, h1, h2⟩
        exact ⟨rfl, hW.fr h1 h2⟩
      generalize stJ 7 224 T = J at hcn hsix hbk hld hru
      generalize stB 7 224 T = p at hcn hbk hld hgt
      unfold pV at hbk hld hgt hru
      have HSix := Lib.hid hsix
      have HBk := Lib.hid hbk
      have HLd := Lib.hid hld
      have HGt := Lib.hid hgt
      have HRu := Lib.hid hru
      have HCn := Lib.hid hcn
      have HFr := Lib.hid hfr
      have HCe := Lib.hid hca
      clear hT hcn hfr hca hsix hbk hld hgt hru hTb HX HB HF5 HD0
      obtain ⟨z, hz⟩ : ∃ z, (lvF T 7 : Int) = z := ⟨_, rfl⟩
      rw [hz] at HHs HLv
      obtain ⟨c, hc⟩ : ∃ c, decide ((0 : Int) < z) = c := ⟨_, rfl⟩
      rw [hc] at HHs
      clear hz
      have kc := conv_sg wr
      unfold sgA at kc
      go_wp2_with fail
      refine HHs.out.mono ?_
      rintro e w3 ⟨rfl, hb3⟩
      have HD3 := Lib.hid (HD.out.below hb3)
      clear hb3 HD HHs kc
      go_wp2_with fail
      refine (HLv.out _ HD3.out).mono ?_
      rintro e w4 ⟨rfl, hd4⟩
      have HD4 := Lib.hid hd4
      clear hd4 HD3 HLv
      go_wp2_with fail
      refine (HRu.out _ HD4.out).mono ?_
      rintro e w5 ⟨u5, rfl, hz5, hb5, hn5⟩
      have HD5 := Lib.hid (HD4.out.below hb5)
      have hnn := HD4.out.nn
      have HZ5 : Hid (ZRn n w5 u5 J) := ⟨hz5, fun b hb => Nat.le_trans hnn (hn5 b hb)⟩
      obtain ⟨ra, rc, rfl, hrc, hrc2, -⟩ := hz5
      clear hb5 hn5 hnn HD4 HRu hc
      go_wp2
      go_loopw [8, 10] (fun f i wr => ∃ (k : Nat), k ≤ J.length ∧ f = .int .i64 ((cnW p J k 0 : Nat) : Int) ∧ i = .int .i64 k ∧ Hid (Wd w h n 7 224 l0 l T wr) ∧ Hid (ZRn n wr (.slice ra J.length rc) J)) (fun _ i _ => J.length - (intOf i).toNat)
      case atStart => exact ⟨0, Nat.zero_le _, by rw [Reg.cnW_zero]; rfl, rfl, HD5.out, HZ5.out⟩
      case round =>
        clear HD5 HZ5
        obtain ⟨k, hk, rfl, rfl, HD, HZ⟩ := hrel
        by_cases hlt : k < J.length
        · have hlt1 : (k : Int) < (J.length : Int) := by omega
          have hlt0 : (0 : Int) ≤ (k : Int) := by omega
          have hkw : IntKind.i64.wrap ((k : Int) + 1) = ((k + 1 : Nat) : Int) := (wrap_ok (by omega) (by omega)).trans (by omega)
          obtain ⟨rb, off, rfl⟩ : ∃ rb off, ra = some ⟨rb, off, none⟩ := by
            obtain ⟨a', c', e1, -, -, g5⟩ := HZ.out.1
            injection e1 with e1 e2 e3
            obtain ⟨rb, off, e4, -⟩ := g5 (by rintro rfl; simp at hlt)
            exact ⟨rb, off, e1.trans e4⟩
          have hcl : ∀ W, ZRn n W (.slice (some ⟨rb, off, none⟩) J.length rc) J → W.cell? ⟨rb, off + k * 3, none⟩ = some (.int .i64 (J.getD k rz0).1) ∧ W.cell? ⟨rb, off + k * 3 + 1, none⟩ = some (.int .i64 (J.getD k rz0).2.1) ∧ W.cell? ⟨rb, off + k * 3 + 2, none⟩ = some (.int .i64 (J.getD k rz0).2.2) := fun W hZ => by
            obtain ⟨a', c', e1, -, -, g5⟩ := hZ.1
            injection e1 with e1 e2 e3
            obtain ⟨rb', off', e4, -, g6⟩ := g5 (by rintro rfl; simp at hlt)
            rw [← e1] at e4
            injection e4 with e4
            injection e4 with e4 e5 _
            subst e4 e5
            exact ⟨g6 k hlt 0 _ rfl, g6 k hlt 1 _ rfl, g6 k hlt 2 _ rfl⟩
          by_cases h6 : (J.getD k rz0).2.2 = 6
          · obtain ⟨a, m, e, hb, hf1, hmem⟩ := HSix.out k hlt h6
            rw [e] at hcl
            simp only at hcl
            have HCl := Lib.hid hcl
            have HF1 := Lib.hid hf1
            have HMem := Lib.hid hmem
            obtain ⟨c0, c1, c2⟩ := hcl _ HZ.out
            have hlec : cnW p J k 0 ≤ 100000 := by have := Reg.cnW_le p J hlt 0; have := HCn.out; have := HFr.out; omega
            have hext : cnW p J k m = cnW p J (k + 1) 0 := Reg.cnW_next p J hlt (by rw [hf1, List.length_map, List.length_range]; exact Nat.le_refl _)
            have HExt := Lib.hid hext
            obtain ⟨E, hE⟩ : ∃ E, E = a + 8 * m := ⟨_, rfl⟩
            have hEw : IntKind.i64.wrap ((a : Int) + ((8 * m : Nat) : Int)) = (E : Int) := (wrap_ok (by omega) (by omega)).trans (by omega)
            have HE := Lib.hid hE
            clear hcl hf1 hmem hext hE e h6
            go_wp2
            go_loopw [8, 11] (fun f x wr => ∃ (t : Nat), t ≤ m ∧ f = .int .i64 ((cnW p J k t : Nat) : Int) ∧ x = .int .i64 ((a + 8 * t : Nat) : Int) ∧ Hid (Wd w h n 7 224 l0 l T wr) ∧ Hid (ZRn n wr (.slice (some ⟨rb, off, none⟩) J.length rc) J)) (fun _ x _ => E - (intOf x).toNat)
            case atStart => exact ⟨0, Nat.zero_le _, rfl, rfl, HD.out, HZ.out⟩
            case round =>
              clear HD HZ c0 c1 c2
              obtain ⟨t, ht, rfl, rfl, HD, HZ⟩ := hrel
              obtain ⟨c0, c1, -⟩ := HCl.out _ HZ.out
              have hEo := HE.out
              obtain ⟨x, hx⟩ : ∃ x, x = a + 8 * t := ⟨_, rfl⟩
              rw [← hx]
              by_cases htm : t < m
              · have hl1 : (x : Int) < (E : Int) := by omega
                have hxw : IntKind.i64.wrap ((x : Int) + 8) = ((a + 8 * (t + 1) : Nat) : Int) := (wrap_ok (by omega) (by omega)).trans (by omega)
                have hxm : x ∈ fF J := by rw [hx]; exact HMem.out t htm
                have hst := Reg.cnW_step p J HF1.out htm
                rw [← hx] at hst
                have hle2 : cnW p J k (t + 1) ≤ 100000 := by have := Reg.cnW_le p J hlt (t + 1); have := HCn.out; have := HFr.out; omega
                have hmx : E - (a + 8 * (t + 1)) < E - x := by omega
                obtain ⟨jb, b, hj0, hj6, hbx, hcall⟩ := HBk.out x hxm
                have HCall := Lib.hid hcall
                have HXm := Lib.hid hxm
                have HHx := Lib.hid hx
                have hj0' : ¬ jb < 0 := by omega
                have hj6' : ¬ (6 : Int) < jb := by omega
                clear hEo hcall hxm hx
                go_wp2_with fail
                go_region
                go_wp2_with fail
                refine (HCall.out _ HD.out.drew).mono ?_
                rintro e w6 ⟨rfl, hd6, hf6⟩
                have HZ6 := Lib.hid ((HZ.out.below (Below.refl _ _).drew).fr hf6 HD.out.lo)
                have HD6 := Lib.hid hd6
                clear hd6 hf6 HD HZ HCall c0 c1
                go_wp2_with fail
                refine (HLd.out _ _ HD6.out HXm.out).mono ?_
                rintro e w7 ⟨v, rfl, hv1, hv2, hd7, hf7⟩
                have HZ7 := Lib.hid (HZ6.out.fr hf7 HD6.out.lo)
                have HD7 := Lib.hid hd7
                clear hd7 hf7 HD6 HZ6
                by_cases hp : p x = true
                · have hb : b = (x : Int) := hbx.2 hp
                  obtain ⟨hv0, hvm⟩ := hv1 hp
                  rw [if_pos hp] at hst
                  have hfw : IntKind.i64.wrap (((cnW p J k t : Nat) : Int) + 1) = ((cnW p J k (t + 1) : Nat) : Int) := (wrap_ok (by omega) (by omega)).trans (by omega)
                  obtain ⟨f1', hf1'⟩ : ∃ f, cnW p J k (t + 1) = f := ⟨_, rfl⟩
                  rw [hf1'] at hfw hle2
                  have HFe := Lib.hid hf1'
                  have HGt2 := Lib.hid (HGt.out _ _ HD7.out hp)
                  clear hst hv1 hv2 hbx hf1'
                  go_wp2_with fail
                  refine HGt2.out.mono ?_
                  rintro e w8 ⟨nx, he, hd8, hf8⟩
                  rw [show (fB nx).agg = .agg #[.int .i64 0, .int .i64 0, .bool false, .int .i64 0, .int .u32 nx, .int .u32 0, .int .u32 0, .int .u32 0, .int .u64 0, .int .u16 0, .int .i64 0, .int .u32 0] from rfl] at he
                  obtain rfl := he
                  have HZ8 := Lib.hid (HZ7.out.fr hf8 HD7.out.lo)
                  have HD8 := Lib.hid hd8
                  clear hd8 hf8 HD7 HZ7 HGt2
                  go_wp2_with fail
                  go_roundw
                  case rel => exact ⟨t + 1, by omega, by rw [HFe.out], by go_num, HD8.out.below (below_made _ _), HZ8.out.below (below_made _ _)⟩
                  case measure => simp [intOf]; have := HHx.out; have := HE.out; omega
                · have hb : ¬ b = (x : Int) := fun q => hp (hbx.1 q)
                  obtain rfl := hv2 (by simpa using hp)
                  rw [if_neg hp, Nat.add_zero] at hst
                  have HFe := Lib.hid hst
                  clear hst hv1 hv2 hbx hle2
                  go_wp2
                  go_roundw
                  case rel => exact ⟨t + 1, by omega, by rw [HFe.out, Nat.add_zero], by go_num, HD7.out, HZ7.out⟩
                  case measure => simp [intOf]; have := HHx.out; have := HE.out; omega
              · have hl2 : ¬ (x : Int) < (a : Int) + 8 * (m : Int) := by omega
                have hl3 : (a : Int) + 8 * (m : Int) ≤ (x : Int) := by omega
                obtain rfl : t = m := by omega
                have hl1 : ¬ (x : Int) < (E : Int) := by omega
                clear hEo hx
                go_wp2_with fail
                go_region
                go_wp2
                go_roundw
                case rel => exact ⟨k + 1, by omega, by rw [HExt.out], by go_num, HD.out.drew, HZ.out.below (Below.refl _ _).drew⟩
                case measure => simp [intOf]; omega
          · obtain ⟨-, -, c2⟩ := hcl _ HZ.out
            have hx0 := Reg.cnW_next p J hlt (t := 0) (by rw [Reg.run_other h6]; exact Nat.le_refl _)
            have HFe := Lib.hid hx0
            generalize (J.getD k rz0).2.2 = q at c2 h6
            clear hcl hx0
            go_wp2
            go_roundw
            case rel => exact ⟨k + 1, by omega, by rw [HFe.out], by go_num, HD.out, HZ.out⟩
            case measure => simp [intOf]; omega
        · obtain rfl : k = J.length := by omega
          have hfree : cnW p J J.length 0 = frF T 7 := (Reg.cnW_end p J).trans HCn.out
          rw [hfree]
          generalize frF T 7 = F at HCe HFr
          clear hfree
          go_wp2
          go_loopw [18, 19] (fun s c wr => ∃ (q : Nat), q ≤ 9 ∧ s = .int .i64 ((caF T 7 q : Nat) : Int) ∧ c = .int .i64 ((q + 1 : Nat) : Int) ∧ Hid (Wd w h n 7 224 l0 l T wr)) (fun _ c _ => 10 - (intOf c).toNat)
          case atStart => exact ⟨0, by omega, rfl, rfl, HD.out⟩
          case round =>
            clear HD HZ
            obtain ⟨q, hq, rfl, rfl, HD⟩ := hrel
            obtain ⟨c, hc⟩ : ∃ c, c = q + 1 := ⟨_, rfl⟩
            rw [← hc]
            by_cases hq9 : q < 9
            · have hl1 : (c : Int) ≤ 9 := by omega
              have hcs : caF T 7 (q + 1) = caF T 7 q + rmF T (c : Int) 7 := by rw [hc]; rfl
              have hsw : IntKind.i64.wrap (((caF T 7 q : Nat) : Int) + ((rmF T (c : Int) 7 : Nat) : Int)) = ((caF T 7 (q + 1) : Nat) : Int) := (wrap_ok (by omega) (by have := HCa.out (q + 1); omega)).trans (by omega)
              have hcw : IntKind.i64.wrap ((c : Int) + 1) = ((q + 1 + 1 : Nat) : Int) := (wrap_ok (by omega) (by omega)).trans (by omega)
              have HR := Lib.hid (HRm.out _ (c : Int) HD.out)
              have HHc := Lib.hid hc
              clear hcs hc
              go_wp2_with fail
              refine HR.out.mono ?_
              rintro e w8 ⟨rfl, hd8⟩
              have HD8 := Lib.hid hd8
              clear hd8 HR HD
              go_wp2
              go_roundw
              case rel => exact ⟨q + 1, by omega, by rfl, by go_num, HD8.out⟩
              case measure => simp [intOf]; have := HHc.out; omega
            · obtain rfl : q = 9 := by omega
              subst hc
              rw [HCe.out]
              have HWt := Lib.hid (HW.out)
              go_wp2_with fail
              refine (HW.out _ HD.out.st.ts).mono ?_
              rintro e w9 ⟨rfl, hb9⟩
              have HB9 := Lib.hid (HD.out.b.trans (hb9.mono HD.out.b.size))
              clear hb9 HD
              go_wp2
              go_ret
              exact ⟨rfl, HB9.out⟩
end Go.Proofs.YtjjfihoplkddfaaGreatDoor.Sla
