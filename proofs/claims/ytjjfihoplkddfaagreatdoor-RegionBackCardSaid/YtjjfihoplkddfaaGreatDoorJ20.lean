/- A memory that is restored of another one's bytes. Two memories of the same slabs, side by side; RegionBack. -/
import Derived.Test.YtjjfihoplkddfaaGreatDoorJ19
import Derived.Deep.RegionWith
import Derived.Deep.RegionHeld3
namespace Go.Proofs.YtjjfihoplkddfaaGreatDoor.Sla
open Go.RowKit Num
open Mem (Mm MemC MRet Hm rd blkM)
open Lis (Cf LM LR Tb at_ Nx Pv Rep Hx valsN)
open Cls (szC blC pdC)
open Arn (wrL)
set_option linter.unusedVariables false
section
variable {h : Hm} {S N : Nat} {l0 l l' : List Int} {T T' : List Sl} {w W W' : World}
theorem begin2_any {Z : List Int} (hZ : ∀ t, 20 ≤ t → Z.getD t 0 = 0) (hr : Lay.rightC (S : Int) (N : Int) = true) (d : SM h (Lis.newCf S N) Z w) :
    Calls Tryz.prog 11 #[pV h] w fun e w' => ∃ l', e = .returned (.int .i64 0) ∧ (∀ t, t < 20 → l'.getD t 0 = Z.getD t 0) ∧ St h S N l' l' (List.replicate S Sl.zero) w' ∧ Fr w.heap.size (blkM h) w w' := by
  have hC := Lis.newCf_ok hr
  have hlx := d.m.len
  have hll : Z.length = Lay.sizeT S N := by
    obtain ⟨-, lk, hm⟩ := d.m
    have h1 := hm.len
    rw [show ((Lis.newCf S N).mm Z lk).l = Z from rfl] at h1
    rw [h1]
    show Lay.sizeC (S : Int) (N : Int) = _
    rw [Lay.sizeC, if_pos hr, Int.toNat_natCast, Int.toNat_natCast]
  have hbs := ok_base hC
  have hBg := Lis.begin_any h (Lis.newCf S N) Z Z w hC d.m (Lis.B1.fresh (by rw [hll]; show 128 + 16 * S ≤ _; rw [show (Lis.newCf S N).s = S from rfl, show (Lis.newCf S N).n = N from rfl] at hbs; omega))
  have hmain : Calls Tryz.prog 70 #[pV h] w fun e w' => ∃ l', e = .returned (.int .i64 0) ∧ (∀ t, t < 20 → l'.getD t 0 = Z.getD t 0) ∧ St h S N l' l' (List.replicate S Sl.zero) w' ∧ Fr w.heap.size (blkM h) w w' := by
    refine hBg.mono ?_
    rintro e w' ⟨l', hl, hrp⟩
    have hq := d.lr hl
    have hx : (Lis.newCf S N).x.length = Lay.sizeT S N := hlx.symm.trans hll
    refine ⟨l', hq.1, fun t ht => hrp.rest t (.inl ht), ⟨_, _, ⟨Lis.newCf S N, rfl, rfl, fun _ => rfl, hq.2.1, ⟨hC, rep_self hrp, hx, hrp.llen.trans hll, List.length_replicate .., fun _ _ _ => rfl, fun t ht => ?_, fun j hj => ?_⟩⟩, Co.start S N⟩, hq.2.2⟩
    · obtain ⟨S', N', e1, e2, -, -, -, -, -, hk⟩ := Mem.kinds0_at hr
      obtain rfl : S = S' := by omega
      obtain rfl : N = N' := by omega
      exact hk t
    · have hj' : j < S := hj
      rw [getD_rep _ _ _ hj']
      refine Sh.done (fun t h1 h2 => ?_)
      rw [show (Lis.newCf S N).s = S from rfl, show (Lis.newCf S N).n = N from rfl] at hbs h1 h2
      unfold aT at h1 h2
      constructor
      · obtain ⟨S', N', e1, e2, -, -, -, -, -, hk⟩ := Mem.kinds0_at hr
        obtain rfl : S = S' := by omega
        obtain rfl : N = N' := by omega
        rw [show (Lis.newCf S N).x = Mem.kinds0 S N from rfl, hk]
        unfold Mem.kindT
        have e1 : Lay.endT S N ≤ Lay.baseT S N := by unfold Lay.baseT; omega
        have e2 : Lay.slT S ≤ Lay.endT S N := by unfold Lay.slT Lay.endT; omega
        rw [if_neg (by omega), if_neg (by omega), if_neg (by omega), if_neg (by omega), if_neg (by omega), if_pos (by omega)]
      · rw [hrp.rest t (by right; right; show 128 + 16 * S ≤ t; omega)]
        exact hZ t (by omega)
  have HM := Lib.hid hmain
  clear hmain hBg hlx hll hbs hC d hr
  unfold pV at *
  go_enter Tryz.func11, Tryz.ntmps11
  go_wp2_with fail
  refine HM.out.mono ?_
  rintro e w1 ⟨l', rfl, h0, h1, h2⟩
  have HG : Hid ((∀ t, t < 20 → l'.getD t 0 = Z.getD t 0) ∧ St h S N l' l' (List.replicate S Sl.zero) w1 ∧ Fr w.heap.size (blkM h) w w1) := ⟨h0, h1, h2⟩
  clear h0 h1 h2 HM
  go_wp2
  go_ret
  exact ⟨l', rfl, HG.out⟩
end
theorem start2_any (S N : Nat) (w : World) (hr : Lay.rightC (S : Int) (N : Int) = true) (ht : Ts w) :
    Calls Tryz.prog 9 #[.agg #[.int .i64 (S : Int), .int .i64 (N : Int)]] w fun e w' => ∃ h, e = .returned (pV h) ∧
      (∀ W, Below w'.heap.size w' W → Calls Tryz.prog 11 #[pV h] W fun e W' => ∃ l0, e = .returned (.int .i64 0) ∧ (∀ t, t < 20 → l0.getD t 0 = (newL S N).getD t 0) ∧ Wd w h w'.heap.size S N l0 l0 (List.replicate S Sl.zero) W') ∧ Below w.heap.size w w' := by
  refine (new_z false S N w hr ht.t ht.h).mono ?_
  rintro e w' ⟨h, rfl, hm, hb, hk, hz⟩
  refine ⟨h, rfl, fun W hW => ?_, hb⟩
  refine (begin2_any (fun t ht => newL_far S N ht) hr (hm.below hW)).mono ?_
  rintro e W' ⟨l', rfl, h0, hs, hf⟩
  exact ⟨l', rfl, h0, hs, (hb.trans (hW.mono hb.size)).trans (hf.toBelow (Nat.le_trans hb.size hW.size) (fun k hk' q => by have := hk k q; omega)), hk, hm.lo, Nat.le_trans hW.size hf.size, hb.size, hz⟩
end Go.Proofs.YtjjfihoplkddfaaGreatDoor.Sla
namespace Go.Proofs.YtjjfihoplkddfaaGreatDoor.Reg
open Go.RowKit
open Cls (szC blC pdC)
open Sla (pl aT lk Sl St Sb Co Wd Ts pV)
open Mem (rd Hm blkM MemC stampB fatM fwdM)
open Lis (Cf)
open Arn (wrL mayN)
open Wat (Rn)
set_option linter.unusedVariables false

theorem stamp_at {l : List Int} {k a : Nat} {b0 b1 b2 b3 : Int} (hl : 20 ≤ l.length) (hf : fatM k = (a : Int)) (hw : fwdM k = 4) (ha : a + 4 ≤ 20) (h4 : a % 4 = 0) (h0 : l.getD a 0 = b0) (h1 : l.getD (a + 1) 0 = b1) (h2 : l.getD (a + 2) 0 = b2) (h3 : l.getD (a + 3) 0 = b3) : stampB l k = Num.le [b0, b1, b2, b3] := by
  unfold stampB Num.ldv
  rw [hf, hw, if_pos (by decide)]
  have hp : Num.plc (l.length : Int) (a : Int) 4 = 0 := by
    unfold Num.plc
    rw [if_neg (by omega), if_pos (by omega)]
  rw [if_pos hp]
  have e : (l.drop (a : Int).toNat).take (4 : Int).toNat = [b0, b1, b2, b3] := by
    rw [Int.toNat_natCast, show (4 : Int).toNat = 4 from rfl]
    refine Mem.list_of_getD (by simp; omega) (fun i hi => ?_)
    have hi4 : i < 4 := by simp at hi; omega
    have e2 : ((l.drop a).take 4).getD i 0 = l.getD (a + i) 0 := by simp [List.getD, hi4]
    rw [e2]
    match i, hi4 with
    | 0, _ => exact h0
    | 1, _ => exact h1
    | 2, _ => exact h2
    | 3, _ => exact h3
  rw [e]
theorem low20 : ((Sla.newL 7 226).take 20) = [0, 0, 0, 0, 0, 0, 0, 0, 66, 76, 79, 67, 7, 0, 0, 0, 226, 0, 0, 0] := by decide +kernel
theorem low_get {t : Nat} (ht : t < 20) : (Sla.newL 7 226).getD t 0 = ([0, 0, 0, 0, 0, 0, 0, 0, 66, 76, 79, 67, 7, 0, 0, 0, 226, 0, 0, 0] : List Int).getD t 0 := by
  rw [← low20]
  simp [List.getD, ht]
theorem row_slice' {k : IntKind} {w : World} {v : Value} {l : List Int} (h : Row k w v l) : ∃ a c, v = .slice a l.length c ∧ l.length ≤ c ∧ c ≤ 9223372036854775807 := by
  obtain ⟨a, c, h1, h2, h3, -, -⟩ := h
  exact ⟨a, c, h1, h2, h3⟩
theorem good_len {x : List Int} {p : Nat} {L : List Rn} (h : Wat.Good x p L) : L.length ≤ p := by
  induction h with
  | nil => exact Nat.le_refl _
  | snoc h1 h2 h3 h4 ih => rw [List.length_append, List.length_singleton]; omega
/-- The stamp of such a memory's bytes. -/
theorem st_stamp {h : Hm} {l0 l : List Int} {T : List Sl} {W : World} (d : St h 7 226 l0 l T W) (h0 : ∀ t, t < 20 → l0.getD t 0 = (Sla.newL 7 226).getD t 0) : stampB l 0 = 1129270338 ∧ stampB l 1 = 7 ∧ stampB l 2 = 226 := by
  obtain ⟨C, H, L, lk, e1, e2, -, -, h5, -⟩ := Reg.st_mapx d
  have hb := Sla.ok_base h5.ok
  have hl : 20 ≤ l.length := by rw [h5.ll]; omega
  have hg : ∀ t, t < 20 → l.getD t 0 = ([0, 0, 0, 0, 0, 0, 0, 0, 66, 76, 79, 67, 7, 0, 0, 0, 226, 0, 0, 0] : List Int).getD t 0 := fun t ht => by rw [h5.low t (by omega) (.inl ht), h0 t ht, low_get ht]
  refine ⟨?_, ?_, ?_⟩
  · rw [stamp_at (k := 0) (a := 8) hl rfl rfl (by omega) (by omega) (hg 8 (by omega)) (hg 9 (by omega)) (hg 10 (by omega)) (hg 11 (by omega))]; rfl
  · rw [stamp_at (k := 1) (a := 12) hl rfl rfl (by omega) (by omega) (hg 12 (by omega)) (hg 13 (by omega)) (hg 14 (by omega)) (hg 15 (by omega))]; rfl
  · rw [stamp_at (k := 2) (a := 16) hl rfl rfl (by omega) (by omega) (hg 16 (by omega)) (hg 17 (by omega)) (hg 18 (by omega)) (hg 19 (by omega))]; rfl

set_option maxRecDepth 100000 in
set_option maxHeartbeats 4000000 in
theorem restore_any {h : Hm} {S N : Nat} {l0 l : List Int} {T : List Sl} {w : World} (d : St h S N l0 l T w) (hs : stampB l 0 = 1129270338 ∧ stampB l 1 = (S : Int) ∧ stampB l 2 = (N : Int)) (u : Value) (hu : Row .u8 w u l) :
    Calls Tryz.prog 35 #[.agg #[.int .i64 (S : Int), .int .i64 (N : Int)], u] w fun e w' => ∃ h2, e = .returned (.tuple #[pV h2, .int .i64 0]) ∧ St h2 S N l0 l T w' ∧ Below w.heap.size w w' ∧ (∀ k, blkM h2 k → w.heap.size ≤ k) ∧ h2.z = false := by
  obtain ⟨C, H, L0, lk0, e1, e2, -, h4, h5, h6, h7, h8, h9, h10⟩ := st_mapx d
  obtain ⟨L, hL, hg⟩ := til_join h9 (by omega)
  have hbs := Sla.ok_base h5.ok
  have ha4 : A4 (joinZ (headR S N ++ allT S N T S)) := A4.join (A4.app head_a4 (all_a4 (by rw [← e1, ← e2]; exact hbs.2.1) T S))
  have hts := d.ts
  have hright := d.right
  have hll : l.length = Lay.sizeC (S : Int) (N : Int) := by
    rw [h5.ll, Lay.sizeC, if_pos hright, Int.toNat_natCast, Int.toNat_natCast, e1, e2]
  have hmay : mayN l.length = true := by
    have : l.length % 4 = 0 := by rw [h5.ll]; omega
    unfold mayN
    simp
    rw [h5.ll] at this ⊢
    omega
  have HFrom := Lib.hid (fun W (hb : Below w.heap.size w W) => Mem.from_yes (S : Int) (N : Int) u l W hright (hu.mono hb (Nat.le_refl _)) hll hmay (tab_keep hb hts.t.c) (hts.t.p.keep hb) hs.1 hs.2.1 hs.2.2)
  have HMap := Lib.hid (fun (W : World) (h2 : Hm) (x : List Int) (hm : MemC h2 W (pV h2) ⟨(S : Int), (N : Int), l, x, 0, 0⟩) (ht : Cls.Tab W) => map_ok h2 (pV h2) ⟨(S : Int), (N : Int), l, x, 0, 0⟩ S N _ W hm ht rfl rfl h8)
  have hk0 : (Mem.kinds0 (S : Int) (N : Int)).length = C.x.length := by
    rw [Mem.kinds0_length, ← hll, h5.ll, h5.xl]
  have hgl : ∀ q ∈ L, 1 ≤ q.2.1 ∧ q.1 + q.2.1 ≤ C.x.length := fun q hq => ⟨(good_all hg q hq).1, (good_all hg q hq).2.1⟩
  have hk8 : ∀ q ∈ L, 0 ≤ q.2.2 ∧ q.2.2 ≤ 8 := fun q hq => by
    obtain ⟨g1, g2, g3⟩ := good_all hg q hq
    have e := g3 0 (by omega)
    obtain ⟨r, hr, er⟩ := til_hit h9 (q.1 + 0) (by omega)
    rw [e] at er
    have := ((head_k8 S N).append (all_k8 S N T S)) r hr
    omega
  have hq4 : ∀ q ∈ L, q.1 % 4 = 0 ∧ q.2.1 % 4 = 0 := fun q hq => by
    rw [hL] at ha4
    obtain ⟨a, n, f1, f2, f3, f4⟩ := ha4 (cstW q) (List.mem_map.2 ⟨q, hq, rfl⟩)
    simp only [cstW] at f1 f2
    omega
  have HMk : Hid (∀ (W : World) (h2 : Hm) (k : Nat), k < L.length → MemC h2 W (pV h2) ⟨(S : Int), (N : Int), l, mkK (Mem.kinds0 (S : Int) (N : Int)) (L.take k), 0, 0⟩ →
      Calls Tryz.prog 114 #[pV h2, .int .i64 ((L.getD k (0, 0, 0)).1 : Int), .int .i64 ((L.getD k (0, 0, 0)).2.1 : Int), .int .i64 (L.getD k (0, 0, 0)).2.2] W fun e W' => e = .returned (.int .i64 0) ∧ MemC h2 W' (pV h2) ⟨(S : Int), (N : Int), l, mkK (Mem.kinds0 (S : Int) (N : Int)) (L.take (k + 1)), 0, 0⟩ ∧ Fr W.heap.size (blkM h2) W W') := fun W h2 k hk hm => by
    have hmem : L.getD k (0, 0, 0) ∈ L := by
      rw [List.getD, List.getElem?_eq_getElem hk]
      exact List.getElem_mem hk
    obtain ⟨g1, g2⟩ := hgl _ hmem
    obtain ⟨g3, g4⟩ := hk8 _ hmem
    obtain ⟨g5, g6⟩ := hq4 _ hmem
    have hlen : (mkK (Mem.kinds0 (S : Int) (N : Int)) (L.take k)).length = C.x.length := mkK_len hk0 _ (fun q hq => (hgl q (List.mem_of_mem_take hq)).2)
    have hmy := Mem.mark_yes (x := mkK (Mem.kinds0 (S : Int) (N : Int)) (L.take k)) (p := (L.getD k (0, 0, 0)).1) (q := (L.getD k (0, 0, 0)).2.1) (k := (L.getD k (0, 0, 0)).2.2) (by rw [hlen]; exact g2) g5 g6 g3 g4
    refine (Mem.mark_any h2 (pV h2) _ ((L.getD k (0, 0, 0)).1 : Int) ((L.getD k (0, 0, 0)).2.1 : Int) (L.getD k (0, 0, 0)).2.2 W hm (by unfold Arn.is64; omega)).mono ?_
    intro e W' hq
    unfold Mem.Mm.mark at hq
    simp only at hq
    rw [hmy, ← mkK_take _ _ _ hk] at hq
    exact hq
  have hend : mkK (Mem.kinds0 (S : Int) (N : Int)) L = C.x := good_whole (by have := hg; exact this) hk0
  have HEnd : Hid (∀ (W : World) (h2 : Hm), Below w.heap.size w W → h2.z = false → MemC h2 W (pV h2) ⟨(S : Int), (N : Int), l, mkK (Mem.kinds0 (S : Int) (N : Int)) L, 0, 0⟩ → St h2 S N l0 l T W) := fun W h2 hb hz hm => by
    rw [hend] at hm
    have ht2 := hts.keep hb
    refine ⟨H, L0, ⟨⟨C.s, C.n, C.x, 0⟩, e1, e2, fun _ => rfl, ⟨⟨ht2.t, 0, ?_⟩, ht2.h⟩, ⟨⟨h5.ok.lo, h5.ok.hi, h5.ok.right, h5.ok.len, h5.ok.big, h5.ok.root, h5.ok.head⟩, h5.rep, h5.xl, h5.ll, h5.tl, h5.low, h5.xlow, h5.sl⟩⟩, h6⟩
    show MemC h2 W _ ⟨(C.s : Int), (C.n : Int), l, C.x, 0, 0⟩
    rw [e1, e2]
    exact hm
  have hJl : (joinZ (headR S N ++ allT S N T S)).length = L.length := by rw [hL, List.length_map]
  have HJ : Hid (∀ k, k < L.length → (joinZ (headR S N ++ allT S N T S)).getD k rz0 = cstW (L.getD k (0, 0, 0))) := fun k hk => by
    rw [hL]
    simp [List.getD, hk]
  have HTs := Lib.hid hts
  have hLl : (L.length : Int) ≤ 1000000 := by
    have := good_len hg
    omega
  obtain ⟨J, hJ⟩ : ∃ J, J = joinZ (headR S N ++ allT S N T S) := ⟨_, rfl⟩
  rw [← hJ] at HMap hJl HJ
  obtain ⟨u0, uc, rfl, huc, hum⟩ := row_slice' hu
  have BB := Lib.hid (below_made w (.cells #[.int .i64 (S : Int), .int .i64 (N : Int)] 25))
  clear d hs hu h4 h5 h6 h7 h8 h9 h10 hL hg hbs ha4 hts hright hmay hk0 hgl hk8 hq4 hend hJ hll
  unfold pV at *
  go_enter Tryz.func35, Tryz.ntmps35
  go_wp2_with fail
  refine (HFrom.out _ BB.out).mono ?_
  rintro e w1 ⟨v, h', rfl, hm, hb1, hk1⟩
  have hv := hm.hv
  subst hv
  obtain ⟨h2, hh2⟩ : ∃ h2 : Hm, h2 = { h' with z := false } := ⟨_, rfl⟩
  have hg2 : h'.g = h2.g := by rw [hh2]
  have hm2 : MemC h2 w1 (.pointer (some ⟨h2.g, 0, none⟩)) ⟨(S : Int), (N : Int), l, mkK (Mem.kinds0 (S : Int) (N : Int)) (L.take 0), 0, 0⟩ := by rw [hh2]; exact hm.lax false
  have HK2 : Hid (∀ k, blkM h2 k → w.heap.size ≤ k) := fun k hk => by
    have : blkM h' k := by rw [hh2] at hk; exact hk
    have := hk1 k this
    simp at this
    omega
  have HZ2 : Hid (h2.z = false) := by rw [hh2]; rfl
  have HB1 := Lib.hid (BB.out.trans (hb1.mono BB.out.size))
  have HM1 := Lib.hid hm2
  rw [hg2]
  clear hh2 hg2 hm hm2 hk1 hb1 HFrom
  go_wp2_with fail
  refine (HMap.out w1 h2 _ HM1.out (HTs.out.keep HB1.out).t.c).mono ?_
  rintro e w2 ⟨u, rfl, hb2, hz2, ho2⟩
  have HNe : Hid (∀ b, u.ownBlock = some b → ¬ blkM h2 b) := fun b hb hk => by have := ho2 b hb; have := HM1.out.lt b hk; omega
  clear ho2
  have HB2 := Lib.hid (HB1.out.trans (hb2.mono HB1.out.size))
  have HM2 := Lib.hid (HM1.out.below hb2)
  obtain ⟨a0, c0, rfl, hc0, hc1, hz3⟩ := id hz2
  have HR := Lib.hid hz2
  have HQ := Lib.hid hz3
  clear hz2 hz3 hb2 HB1 HM1 HMap
  have hJl1 : (J.length : Int) ≤ 1000000 := by omega
  go_wp2
  go_loopw [30] (fun i wr => ∃ k : Nat, k ≤ J.length ∧ i = .int .i64 k ∧ Hid (MemC h2 wr (.pointer (some ⟨h2.g, 0, none⟩)) ⟨(S : Int), (N : Int), l, mkK (Mem.kinds0 (S : Int) (N : Int)) (L.take k), 0, 0⟩) ∧ Hid (Fr w2.heap.size (blkM h2) w2 wr) ∧ Hid (Below w.heap.size w wr)) (fun i _ => J.length - (intOf i).toNat)
  case atStart => exact ⟨0, Nat.zero_le _, rfl, HM2.out, Fr.refl _ _ _, HB2.out⟩
  case round =>
    obtain ⟨k, hk, rfl, HM, HF, HB⟩ := hrel
    by_cases hlt : k < J.length
    · have hlt1 : (k : Int) < (J.length : Int) := by omega
      have hlt0 : (0 : Int) ≤ (k : Int) := by omega
      have hkw : IntKind.i64.wrap ((k : Int) + 1) = ((k + 1 : Nat) : Int) := (wrap_id (by omega) (by omega)).trans (by omega)
      obtain ⟨b0, o0, rfl, hb0, -⟩ := HQ.out (by rintro rfl; simp at hlt)
      obtain ⟨d0, d1, d2⟩ := HR.out.cells hlt
      have hne := HNe.out b0 rfl
      have hkL : k < L.length := by omega
      rw [HJ.out k hkL] at d0 d1 d2
      obtain ⟨r, hr⟩ : ∃ r, r = L.getD k (0, 0, 0) := ⟨_, rfl⟩
      have HMk2 := Lib.hid (fun W => HMk.out W h2 k hkL)
      rw [← hr] at d0 d1 d2 HMk2
      obtain ⟨x1, x2, x3⟩ := r
      simp only [cstW] at d0 d1 d2 HMk2
      replace d0 := HF.out.cell d0 hb0 hne
      replace d1 := HF.out.cell d1 hb0 hne
      replace d2 := HF.out.cell d2 hb0 hne
      obtain ⟨g0, g1, g2⟩ := box_run wr (x1 : Int) (x2 : Int) x3
      have hbm := below_made wr (.cells #[.int .i64 (x1 : Int), .int .i64 (x2 : Int), .int .i64 x3] 60)
      have HMB := Lib.hid (HM.out.below hbm)
      have HFB := Lib.hid (HF.out.trans ((Fr.of_below (S := blkM h2) hbm).mono HF.out.size (fun _ _ q => q)))
      have HBB := Lib.hid (HB.out.trans (hbm.mono HB.out.size))
      clear hbm hr HM HF HB
      go_wp2_with fail
      refine (HMk2.out _ HMB.out).mono ?_
      rintro e w4 ⟨rfl, hm4, hf4⟩
      have HM4 := Lib.hid hm4
      have HF4 := Lib.hid (HFB.out.trans (hf4.mono HFB.out.size (fun _ _ q => q)))
      have HB4 : Hid (Below w.heap.size w w4) := HBB.out.trans (hf4.toBelow HBB.out.size (fun k _ q => by have := HK2.out k q; omega))
      clear hm4 hf4 HMB HFB HBB HMk2 d0 d1 d2 g0 g1 g2
      go_wp2
      go_roundw
      case rel => exact ⟨k + 1, by omega, by go_num, HM4.out, HF4.out, HB4.out⟩
      case measure => simp [intOf]; omega
    · obtain rfl : k = J.length := by omega
      have hm9 := HM.out
      rw [hJl, List.take_length] at hm9
      have HSt := Lib.hid (HEnd.out wr h2 HB.out HZ2.out hm9)
      clear hm9
      go_wp2
      go_ret2
      exact ⟨h2, rfl, HSt.out, HB.out, HK2.out, HZ2.out⟩
end Go.Proofs.YtjjfihoplkddfaaGreatDoor.Reg

namespace Go.Proofs.YtjjfihoplkddfaaGreatDoor.Reg
open Go.RowKit
open Cls (szC blC pdC)
open Sla (pl aT lk Sl St Sb Co Wd Ts pV Kp tkF gvF Tk Tkn Gvn kp kpA)
open Mem (rd Hm blkM MemC stampB fatM fwdM)
open Lis (Cf)
open Arn (wrL is64)
set_option linter.unusedVariables false

theorem ts_lt {w : World} (ht : Ts w) : 1 < w.heap.size ∧ 2 < w.heap.size ∧ 3 < w.heap.size ∧ 5 < w.heap.size := by
  have lt : ∀ {b o : Nat} {v : Value}, w.cell? ⟨b, o, none⟩ = some v → b < w.heap.size := fun {b o v} hc => World.block_lt_of_cell? w _ hc
  exact ⟨lt (ht.t.p.cell 0 (by omega)), lt (ht.t.c.cell 0 (by omega)), ht.h.lt.1, ht.h.lt.2⟩
theorem st_off {w0 W W' : World} {h : Hm} {S N : Nat} {l0 l : List Int} {T : List Sl} {Q : Nat → Prop} (d : St h S N l0 l T W) (hf : Fr W.heap.size Q W W') (hQ : ∀ k, Q k → w0.heap.size ≤ k ∧ ¬ blkM h k) (ht : Ts w0) : St h S N l0 l T W' := by
  obtain ⟨H, L, ⟨C, e1, e2, h3, h4, h5⟩, d2⟩ := d
  obtain ⟨g1, g2, g3, g4⟩ := ts_lt ht
  have hlt := h4.t.lt
  refine ⟨H, L, ⟨C, e1, e2, h3, ⟨h4.m.stay hf (fun k hk => ⟨(hQ k hk).2, ?_, ?_⟩), h4.t.keepS (Bn := 3) ⟨hf.size, ?_⟩⟩, h5⟩, d2⟩
  · rintro rfl; have := (hQ _ hk).1; omega
  · rintro rfl; have := (hQ _ hk).1; omega
  · rintro k (rfl | rfl | rfl)
    · exact hf.block _ hlt.1 (fun q => by have := (hQ _ q).1; omega)
    · exact hf.block _ hlt.1 (fun q => by have := (hQ _ q).1; omega)
    · exact hf.block _ hlt.2 (fun q => by have := (hQ _ q).1; omega)

/-- What is taken in two memories of the same bytes leaves the same bytes. -/
theorem eq_take {h1 h2 : Hm} {S N : Nat} {l0 l l1 l2 : List Int} {T : List Sl} {c : Int} {W1 W2 : World} (hT : Tk S T) (d1 : St h1 S N l0 l1 (tkF S N T c).2 W1) (d2 : St h2 S N l0 l2 (tkF S N T c).2 W2)
    (k1 : Kp S N T (tkF S N T c).2 l l1) (k2 : Kp S N T (tkF S N T c).2 l l2)
    (z1 : (tkF S N T c).1.2 = 0 → ∀ i, i < szC c → l1.getD ((tkF S N T c).1.1.toNat + i) 0 = 0) (z2 : (tkF S N T c).1.2 = 0 → ∀ i, i < szC c → l2.getD ((tkF S N T c).1.1.toNat + i) 0 = 0) : l1 = l2 := by
  refine st_same d1 d2 fun j k hj hk i hi => ?_
  rcases Sla.tk_spec (N := N) hT c with ⟨q1, q2⟩ | ⟨q1, j0, k0, q2, q3⟩
  · rw [q2] at hk hi k1 k2 ⊢
    rw [k1 j k hj hk hk rfl i hi, k2 j k hj hk hk rfl i hi]
  · have z1 := z1 q1
    have z2 := z2 q1
    rw [q2, Int.toNat_natCast] at z1 z2
    generalize (tkF S N T c).2 = T' at *
    by_cases e : j = j0
    · subst e
      have hcl := q3.cls
      by_cases ek : k = k0
      · subst ek
        rw [hcl] at hi ⊢
        rw [z1 i hi, z2 i hi]
      · have hkT : k ∈ (T.getD j Sl.zero).v := ((q3.mem k).1 hk).resolve_left ek
        have hc0 : (T.getD j Sl.zero).c ≠ 0 := fun e0 => by rw [Sla.zero_v e0] at hkT; cases hkT
        have hcc : (T'.getD j Sl.zero).c = (T.getD j Sl.zero).c := by rcases q3.old with q | q <;> omega
        rw [hcc] at hi ⊢
        rw [k1 j k hj hkT hk hcc i hi, k2 j k hj hkT hk hcc i hi]
    · have ho := q3.oth j e
      rw [ho] at hk hi ⊢
      have hkT := hk
      rw [k1 j k hj hkT (by rw [ho]; exact hk) (by rw [ho]) i hi, k2 j k hj hkT (by rw [ho]; exact hk) (by rw [ho]) i hi]
theorem eq_give {h1 h2 : Hm} {S N : Nat} {l0 l l1 l2 : List Int} {T T' : List Sl} {j0 k0 : Nat} {W1 W2 : World} (hg : Gvn S N T T' j0 k0) (d1 : St h1 S N l0 l1 T' W1) (d2 : St h2 S N l0 l2 T' W2)
    (k1 : Kp S N T T' l l1) (k2 : Kp S N T T' l l2) : l1 = l2 := by
  refine st_same d1 d2 fun j k hj hk i hi => ?_
  by_cases e : j = j0
  · subst e
    have hkT := ((hg.mem k).1 hk).2
    have hcc := hg.cls (fun q => by rw [q] at hk; cases hk)
    rw [hcc] at hi ⊢
    rw [k1 j k hj hkT hk hcc i hi, k2 j k hj hkT hk hcc i hi]
  · have ho := hg.oth j e
    rw [ho] at hk hi ⊢
    rw [k1 j k hj hk (by rw [ho]; exact hk) (by rw [ho]) i hi, k2 j k hj hk (by rw [ho]; exact hk) (by rw [ho]) i hi]

theorem nat_mem_getD {X : List Nat} {k : Nat} (h : k < X.length) : X.getD k 0 ∈ X := by
  rw [List.getD, List.getElem?_eq_getElem h]
  exact List.getElem_mem h
/-- Two memories in one world. -/
structure V2 (w0 : World) (h1 h2 : Hm) (l0 l1 l2 : List Int) (T1 T2 : List Sl) (W : World) : Prop where
  a : St h1 7 226 l0 l1 T1 W
  b : St h2 7 226 l0 l2 T2 W
  bl : Below w0.heap.size w0 W
  k1 : ∀ k, blkM h1 k → w0.heap.size ≤ k
  k2 : ∀ k, blkM h2 k → w0.heap.size ≤ k
  dj : ∀ k, blkM h1 k → ¬ blkM h2 k
  ts : Ts w0
  z2 : h2.z = false
section
variable {w0 W W' : World} {h1 h2 : Hm} {l0 l l1 l2 l1' l2' : List Int} {T T1 T2 T1' T2' : List Sl}
theorem V2.below (d : V2 w0 h1 h2 l0 l1 l2 T1 T2 W) (hb : Below W.heap.size W W') : V2 w0 h1 h2 l0 l1 l2 T1 T2 W' :=
  ⟨d.a.below hb, d.b.below hb, d.bl.trans (hb.mono d.bl.size), d.k1, d.k2, d.dj, d.ts, d.z2⟩
theorem V2.drew (d : V2 w0 h1 h2 l0 l1 l2 T1 T2 W) : V2 w0 h1 h2 l0 l1 l2 T1 T2 W.drew := d.below (Below.refl _ _).drew
theorem V2.atA (d : V2 w0 h1 h2 l0 l1 l2 T1 T2 W) (hs : St h1 7 226 l0 l1' T1' W') (hf : Fr W.heap.size (blkM h1) W W') : V2 w0 h1 h2 l0 l1' l2 T1' T2 W' :=
  ⟨hs, st_off (w0 := w0) d.b hf (fun k hk => ⟨d.k1 k hk, d.dj k hk⟩) d.ts, d.bl.trans (hf.toBelow d.bl.size (fun k hk q => by have := d.k1 k q; omega)), d.k1, d.k2, d.dj, d.ts, d.z2⟩
theorem V2.atB (d : V2 w0 h1 h2 l0 l1 l2 T1 T2 W) (hs : St h2 7 226 l0 l2' T2' W') (hf : Fr W.heap.size (blkM h2) W W') : V2 w0 h1 h2 l0 l1 l2' T1 T2' W' :=
  ⟨st_off (w0 := w0) d.a hf (fun k hk => ⟨d.k2 k hk, fun q => d.dj k q hk⟩) d.ts, hs, d.bl.trans (hf.toBelow d.bl.size (fun k hk q => by have := d.k2 k q; omega)), d.k1, d.k2, d.dj, d.ts, d.z2⟩
theorem V2.takeA (d : V2 w0 h1 h2 l0 l l T T W) (c : Int) : Calls Tryz.prog 12 #[pV h1, .int .i64 c] W fun e W' => ∃ l1, e = .returned (.tuple #[.int .i64 (tkF 7 226 T c).1.1, .int .i64 (tkF 7 226 T c).1.2]) ∧ V2 w0 h1 h2 l0 l1 l (tkF 7 226 T c).2 T W' ∧ Fr W.heap.size (blkM h1) W W' ∧
    Kp 7 226 T (tkF 7 226 T c).2 l l1 ∧ ((tkF 7 226 T c).1.2 = 0 → ∀ i, i < szC c → l1.getD ((tkF 7 226 T c).1.1.toNat + i) 0 = 0) := by
  refine (d.a.take c).mono ?_
  rintro e W' ⟨l', q1, q2, q3, q4, q5⟩
  exact ⟨l', q1, d.atA q2 q3, q3, q4, q5⟩
theorem V2.takeB {c : Int} (hT : Tk 7 T) (d : V2 w0 h1 h2 l0 l1 l (tkF 7 226 T c).2 T W) (k1 : Kp 7 226 T (tkF 7 226 T c).2 l l1) (z1 : (tkF 7 226 T c).1.2 = 0 → ∀ i, i < szC c → l1.getD ((tkF 7 226 T c).1.1.toNat + i) 0 = 0) :
    Calls Tryz.prog 12 #[pV h2, .int .i64 c] W fun e W' => e = .returned (.tuple #[.int .i64 (tkF 7 226 T c).1.1, .int .i64 (tkF 7 226 T c).1.2]) ∧ V2 w0 h1 h2 l0 l1 l1 (tkF 7 226 T c).2 (tkF 7 226 T c).2 W' ∧ Fr W.heap.size (blkM h2) W W' := by
  refine (d.b.take c).mono ?_
  rintro e W' ⟨l', q1, q2, q3, q4, q5⟩
  obtain rfl := eq_take hT d.a q2 k1 q4 z1 q5
  exact ⟨q1, d.atB q2 q3, q3⟩
theorem V2.giveA (d : V2 w0 h1 h2 l0 l l T T W) {a : Int} (ha : is64 a) : Calls Tryz.prog 15 #[pV h1, .int .i64 a] W fun e W' => ∃ l1, e = .returned (.int .i64 (gvF 7 226 T a).1) ∧ V2 w0 h1 h2 l0 l1 l (gvF 7 226 T a).2 T W' ∧ Fr W.heap.size (blkM h1) W W' ∧ Kp 7 226 T (gvF 7 226 T a).2 l l1 := by
  refine (d.a.give ha).mono ?_
  rintro e W' ⟨l', q1, q2, q3, q4⟩
  exact ⟨l', q1, d.atA q2 q3, q3, q4⟩
theorem V2.giveB {a : Int} {j0 k0 : Nat} (hg : Gvn 7 226 T (gvF 7 226 T a).2 j0 k0) (d : V2 w0 h1 h2 l0 l1 l (gvF 7 226 T a).2 T W) (k1 : Kp 7 226 T (gvF 7 226 T a).2 l l1) (ha : is64 a) :
    Calls Tryz.prog 15 #[pV h2, .int .i64 a] W fun e W' => e = .returned (.int .i64 (gvF 7 226 T a).1) ∧ V2 w0 h1 h2 l0 l1 l1 (gvF 7 226 T a).2 (gvF 7 226 T a).2 W' ∧ Fr W.heap.size (blkM h2) W W' := by
  refine (d.b.give ha).mono ?_
  rintro e W' ⟨l', q1, q2, q3, q4⟩
  obtain rfl := eq_give hg d.a q2 k1 q4
  exact ⟨q1, d.atB q2 q3, q3⟩
theorem V2.live (d : V2 w0 h1 h2 l0 l l T T W) : Calls Tryz.prog 21 #[pV h1, .int .i64 0] W fun e W' => ∃ (p : Option Addr) (X : List Nat) (c : Nat), e = .returned (.slice p X.length c) ∧ V2 w0 h1 h2 l0 l l T T W' ∧ Fr W.heap.size (blkM h1) W W' ∧ Row .i64 W' (.slice p X.length c) (Lis.ints X) ∧ X.length ≤ 32 ∧ X.length ≤ c ∧
    (∀ k, k < X.length → is64 ((X.getD k 0 : Nat) : Int) ∧ ∃ i, Gvn 7 226 T (gvF 7 226 T ((X.getD k 0 : Nat) : Int)).2 0 i) := by
  refine (live_any d.a (j := 0) (by omega)).mono ?_
  rintro e W' ⟨v, rfl, q1, q2, q3, q4⟩
  have hl := Sla.kpA_len 7 226 0 (T.getD 0 Sl.zero) 5
  obtain ⟨p, c, rfl, hc, -⟩ := id q3
  rw [Lis.ints_length] at *
  refine ⟨p, _, c, rfl, d.atA q1 q2, q2, q3, hl, hc, fun k hk => ?_⟩
  have hm := nat_mem_getD hk
  generalize (kpA 7 226 0 (T.getD 0 Sl.zero) 5).getD k 0 = y at hm
  unfold kpA at hm
  obtain ⟨i, hi, e⟩ := List.mem_map.1 hm
  rw [Sla.kp_live] at hi
  subst e
  refine ⟨?_, i, ?_⟩
  · obtain ⟨k1, k2⟩ := Sla.mem_lt hi
    have hb := Sla.bl_in k1
    have hbt : aT 7 226 0 ≤ 100000 := by decide
    unfold is64 pl
    omega
  · exact (Sla.gv_yes (S := 7) (N := 226) d.a.tk d.a.right (by omega) hi).2
end

/-- A box of an act. -/
structure BxA (W : World) (bx : Nat) (yk yn : Int) : Prop where
  h : W.heap[bx]? = some (.cells #[.int .i64 yk, .int .i64 yn] 78 (0, 0))
theorem BxA.fr {W W' : World} {bx : Nat} {yk yn : Int} {Q : Nat → Prop} (d : BxA W bx yk yn) (hf : Fr W.heap.size Q W W') (hQ : ¬ Q bx) : BxA W' bx yk yn := ⟨(hf.block _ (Array.getElem?_eq_some_iff.1 d.h).1 hQ).trans d.h⟩
theorem BxA.cells {W : World} {bx : Nat} {yk yn : Int} (d : BxA W bx yk yn) : W.cell? ⟨bx, 0, none⟩ = some (.int .i64 yk) ∧ W.cell? ⟨bx, 1, none⟩ = some (.int .i64 yn) := ⟨(cell_block d.h 0).trans rfl, (cell_block d.h 1).trans rfl⟩

set_option maxRecDepth 100000 in
set_option maxHeartbeats 16000000 in
theorem regionBack_walk (v v2 : Value) (B C : List Act) (w : World) (ht : Ts w) (hr : ActRow w v B) (hr2 : ActRow w v2 C) :
    Calls Tryz.prog 5 #[v, v2] w fun e w' => e = .returned (.bool true) ∧ Below w.heap.size w w' := by
  have HW := Lib.hid (fun V (hv : Ts V) => maps_any V hv)
  have HTs := Lib.hid ht
  have hp := fun (hB : B.length ≤ 200) => played_gen (fun l0 => ∀ t, t < 20 → l0.getD t 0 = (Sla.newL 7 226).getD t 0) v B w hr hB (Sla.start2_any 7 226 w (by decide) ht)
  obtain ⟨ad, cap, U, rfl, q2, q3, q4, q5⟩ := hr
  obtain ⟨ad2, cap2, U2, rfl, r2, r3, r4, r5⟩ := hr2
  clear q4 q5
  by_cases hL : 100 < B.length
  · have hL1 : (100 : Int) < (B.length : Int) := by omega
    clear hp r4 r5
    go_enter Tryz.func5, Tryz.ntmps5
    go_wp2_with fail
    refine (HW.out _ HTs.out).mono ?_
    rintro e w1 ⟨rfl, hb⟩
    go_wp2
    go_ret
    exact ⟨rfl, hb⟩
  have hL0 : ¬ (100 : Int) < (B.length : Int) := by omega
  by_cases hK : 100 < C.length
  · have hK1 : (100 : Int) < (C.length : Int) := by omega
    clear hp r4 r5
    go_enter Tryz.func5, Tryz.ntmps5
    go_wp2_with fail
    refine (HW.out _ HTs.out).mono ?_
    rintro e w1 ⟨rfl, hb⟩
    go_wp2
    go_ret
    exact ⟨rfl, hb⟩
  have hK0 : ¬ (100 : Int) < (C.length : Int) := by omega
  have HC := Lib.hid r5
  have HS := Lib.hid r4
  have hp := hp (by omega)
  unfold pV at hp
  have HP := Lib.hid hp
  clear hp r4 r5
  go_enter Tryz.func5, Tryz.ntmps5
  go_wp2_with fail
  refine HP.out.mono ?_
  rintro e w1 ⟨h, n, l0, l, T, rfl, hp0, hd1⟩
  have HStamp := Lib.hid (st_stamp hd1.st hp0)
  have HD1 := Lib.hid hd1
  have HCf : Hid (∀ W, Wd w h n 7 226 l0 l T W → Calls Tryz.prog 36 #[.pointer (some ⟨h.g, 0, none⟩)] W fun e W' => e = .returned (.agg #[.int .i64 7, .int .i64 226]) ∧ Below W.heap.size W W') := fun W d => by
    obtain ⟨M, h1, -, h3, h4, -⟩ := st_map d.st
    have := Mem.config_any h (pV h) M W h1
    rw [h3, h4] at this
    exact this
  clear HP hd1 hp0
  go_wp2_with fail
  refine (HCf.out _ HD1.out).mono ?_
  rintro e w2 ⟨rfl, hb2⟩
  have HD2 := Lib.hid (HD1.out.below hb2)
  have him := HD2.out.st.image
  unfold pV at him
  have HIm := Lib.hid him
  clear him hb2 HD1 HCf
  go_wp2_with fail
  refine HIm.out.mono ?_
  rintro e w3 ⟨u3, rfl, hb3, hn3⟩
  have HD3 := Lib.hid (HD2.out.below hb3)
  have hre := restore_any HD3.out.st HStamp.out u3 hn3.1
  rw [show ((7 : Nat) : Int) = 7 from rfl, show ((226 : Nat) : Int) = 226 from rfl] at hre
  have HRe := Lib.hid hre
  obtain ⟨u3a, u3c, rfl, -, -⟩ := row_slice' hn3.1
  clear hre hn3 hb3 HD2 HIm HStamp
  go_wp2_with fail
  refine HRe.out.mono ?_
  rintro e w4 ⟨h2, rfl, hs4, hb4, hk4, hz4⟩
  have hd4 := HD3.out.below hb4
  have hv4 : V2 w h h2 l0 l l T T w4 := ⟨hd4.st, hs4, hd4.b, hd4.kk, fun k hk => Nat.le_trans HD3.out.b.size (hk4 k hk), fun k hk q => by
    have e1 := hk4 k q
    have e2 := HD3.out.lo.m k hk
    have e3 := HD3.out.nn
    omega, HTs.out, hz4⟩
  have HV4 := Lib.hid hv4
  clear hs4 hb4 hk4 hz4 hd4 hv4 HD3 HRe
  have hRA : ∀ W, V2 w h h2 l0 l l T T W → Calls Tryz.prog 25 #[pV h] W fun e W' => ∃ u, e = .returned u ∧ ZRow W' u (stJ 7 226 T) ∧ Below W.heap.size W W' := fun W d => st_runs_any d.a
  have hRB : ∀ W, V2 w h h2 l0 l l T T W → Calls Tryz.prog 25 #[pV h2] W fun e W' => ∃ u, e = .returned u ∧ ZRow W' u (stJ 7 226 T) ∧ Below W.heap.size W W' := fun W d => st_runs_any d.b
  generalize stJ 7 226 T = Jr at hRA hRB
  unfold pV at hRA hRB
  have HRA := Lib.hid hRA
  have HRB := Lib.hid hRB
  clear hRA hRB
  go_wp2_with fail
  refine (HRA.out _ HV4.out).mono ?_
  rintro e w5 ⟨u5, rfl, hz5, hb5⟩
  have HV5 := Lib.hid (HV4.out.below hb5)
  have HZ5 := Lib.hid hz5
  obtain ⟨u5a, u5c, rfl, -⟩ := hz5
  clear hb5 HV4 HRA
  go_wp2_with fail
  refine (HRB.out _ HV5.out).mono ?_
  rintro e w6 ⟨u6, rfl, hz6, hb6⟩
  have HV6 := Lib.hid (HV5.out.below hb6)
  have HZ6 := Lib.hid hz6
  have HZ7 := Lib.hid (HZ5.out.mono hb6 (Nat.le_refl _))
  obtain ⟨u6a, u6c, rfl, -⟩ := hz6
  clear hb6 HV5 HRB HZ5
  go_wp2_with fail
  refine (sameZ_any _ _ Jr _ HZ7.out HZ6.out).mono ?_
  rintro e w8 ⟨rfl, hm8⟩
  have HV8 := Lib.hid (HV6.out.below (Lay.below_drawn (Below.refl _ _) hm8))
  clear hm8 HV6 HZ6 HZ7
  go_wp2
  go_loopw [8] (fun i wr => ∃ (j : Nat) (l : List Int) (T : List Sl), j ≤ C.length ∧ i = .int .i64 j ∧ Hid (V2 w h h2 l0 l l T T wr)) (fun i _ => C.length - (intOf i).toNat)
  case atStart => exact ⟨0, l, T, Nat.zero_le _, rfl, HV8.out⟩
  case round =>
    clear HV8
    obtain ⟨j, l, T, hj, rfl, HV⟩ := hrel
    by_cases hlt : j < C.length
    · have hlt1 : (j : Int) < (C.length : Int) := by omega
      have hlt0 : (0 : Int) ≤ (j : Int) := by omega
      have hjw : IntKind.i64.wrap ((j : Int) + 1) = ((j + 1 : Nat) : Int) := (wrap_id (by omega) (by omega)).trans (by omega)
      obtain ⟨rb, off, rfl, hlb, hc⟩ := HC.out (by rintro rfl; simp at hlt)
      obtain ⟨hs1, hs2, hs3⟩ := HS.out j hlt
      have hcw : ∀ W, Below w.heap.size w W → W.cell? ⟨rb, off + j * 2, none⟩ = some (.int .i64 (C.getD j Sla.Act.zero).k) ∧ W.cell? ⟨rb, off + j * 2 + 1, none⟩ = some (.int .i64 (C.getD j Sla.Act.zero).n) := fun W hb => by
        have g0 := hc j hlt 0 (.int .i64 (C.getD j Sla.Act.zero).k) (by rw [hs2]; rfl)
        have g1 := hc j hlt 1 (.int .i64 (C.getD j Sla.Act.zero).n) (by rw [hs2]; rfl)
        exact ⟨(hb.cell (p := ⟨rb, off + j * 2, none⟩) hlb).trans g0, (hb.cell (p := ⟨rb, off + j * 2 + 1, none⟩) hlb).trans g1⟩
      have h64 := hs3.2
      generalize (C.getD j Sla.Act.zero).k = yk at hcw hs3
      generalize (C.getD j Sla.Act.zero).n = yn at hcw h64
      obtain ⟨d0, d1⟩ := hcw _ HV.out.bl
      have hbm := below_made wr (.cells #[.int .i64 yk, .int .i64 yn] 78)
      have hbx : BxA (wr.alloc (.cells #[.int .i64 yk, .int .i64 yn] 78)) wr.heap.size yk yn := ⟨heap_alloc_new _ _⟩
      have HNA : Hid (¬ blkM h wr.heap.size) := fun q => by have := HV.out.a.lo.m _ q; omega
      have HNB : Hid (¬ blkM h2 wr.heap.size) := fun q => by have := HV.out.b.lo.m _ q; omega
      have HV0 := Lib.hid (HV.out.below hbm)
      have HX0 := Lib.hid hbx
      obtain ⟨x0, x1⟩ := hbx.cells
      have hT := HV.out.a.tk
      have HT := Lib.hid hT
      have Hbx := Lib.hid (show wr.heap.size = wr.heap.size from rfl)
      clear hs1 hs2 hs3 hc hcw hbm hbx HV hT
      by_cases hk3 : yk < 3
      · have htk := HV0.out.takeA yn
        unfold pV at htk
        have HTk := Lib.hid htk
        have htb := fun (W : World) (l1 : List Int) (d : V2 w h h2 l0 l1 l (tkF 7 226 T yn).2 T W) k1 z1 => V2.takeB (c := yn) HT.out d k1 z1
        unfold pV at htb
        have HTb := Lib.hid htb
        clear htk htb
        obtain ⟨rx, hrx⟩ : ∃ rx, rx = (tkF 7 226 T yn).1.1 := ⟨_, rfl⟩
        obtain ⟨re, hre⟩ : ∃ re, re = (tkF 7 226 T yn).1.2 := ⟨_, rfl⟩
        obtain ⟨T', hT'⟩ : ∃ T', T' = (tkF 7 226 T yn).2 := ⟨_, rfl⟩
        rw [← hrx, ← hre, ← hT'] at HTk HTb
        clear hrx hre hT'
        go_wp2_with fail
        refine HTk.out.mono ?_
        rintro e w9 ⟨l1, rfl, hv9, hf9, hk9, hz9⟩
        have HX9 := Lib.hid (HX0.out.fr hf9 HNA.out)
        obtain ⟨y0, y1⟩ := HX9.out.cells
        have HTb2 := Lib.hid (HTb.out w9 l1 hv9 hk9 hz9)
        clear hv9 hf9 hk9 hz9 HTk HTb HV0 HX0 x0 x1 d0 d1
        go_wp2_with fail
        refine HTb2.out.mono ?_
        rintro e w10 ⟨rfl, hv10, hf10⟩
        have HV10 := Lib.hid hv10
        clear hv10 hf10 HTb2 y0 y1 HX9
        go_wp2
        go_roundw
        case rel => exact ⟨j + 1, l1, T', by omega, by go_num, HV10.out⟩
        case measure => simp [intOf]; omega
      · have hli := HV0.out.live
        unfold pV at hli
        have HLi := Lib.hid hli
        clear hli
        go_wp2_with fail
        refine HLi.out.mono ?_
        rintro e w9 ⟨p, X, c, rfl, hv9, hf9, hr9, hx9, hxc, hg9⟩
        have HX9 := Lib.hid (HX0.out.fr hf9 HNA.out)
        obtain ⟨y0, y1⟩ := HX9.out.cells
        have HV9 := Lib.hid hv9
        have HR9 := Lib.hid hr9
        have HG9 := Lib.hid hg9
        clear hv9 hf9 hr9 hg9 HLi HV0 HX0 x0 x1 d0 d1
        by_cases hX0 : X.length = 0
        · have hX1 : ¬ (0 : Int) < (X.length : Int) := by omega
          clear hX0
          go_wp2
          go_roundw
          case rel => exact ⟨j + 1, l, T, by omega, by go_num, HV9.out⟩
          case measure => simp [intOf]; omega
        have hpos : (0 : Int) < (X.length : Int) := by omega
        by_cases hn0 : yn < 0
        · have hn1 : ¬ (0 : Int) ≤ yn := by omega
          go_wp2
          go_roundw
          case rel => exact ⟨j + 1, l, T, by omega, by go_num, HV9.out⟩
          case measure => simp [intOf]; omega
        have hn1 : (0 : Int) ≤ yn := by omega
        have hAz : ((X.length : Int) == 0) = false := by rw [beq_eq_false_iff_ne]; omega
        obtain ⟨rm, hrm⟩ : ∃ rm, rm = yn.tmod (X.length : Int) := ⟨_, rfl⟩
        have hr0 : 0 ≤ rm := by rw [hrm]; exact Int.tmod_nonneg _ (by omega)
        have hr1 : rm < X.length := by rw [hrm]; exact Int.tmod_lt_of_pos yn hpos
        obtain ⟨kk, rfl⟩ : ∃ kk : Nat, rm = kk := ⟨rm.toNat, by omega⟩
        have hkA : kk < X.length := by omega
        have hq : yn.tmod (X.length : Int) = (kk : Int) := hrm.symm
        have hkA1 : (kk : Int) < (X.length : Int) := by omega
        have hk0 : (0 : Int) ≤ (kk : Int) := by omega
        obtain ⟨a', cap', e', -, -, -, q5⟩ := id HR9.out
        injection e' with e1 e2 e3
        subst e1
        obtain ⟨b, off2, rfl, hbl, hcc⟩ := q5 (by rintro q; rw [← Lis.ints_length, q] at hkA; simp at hkA)
        have hck := hcc kk (by rw [Lis.ints_length]; exact hkA)
        rw [Lis.ints_get] at hck
        obtain ⟨hP64, i0, hgv⟩ := HG9.out kk hkA
        generalize X.getD kk 0 = P at hck hP64 hgv
        have hga := HV9.out.giveA hP64
        have hgb := fun (W : World) (l1 : List Int) (d : V2 w h h2 l0 l1 l (gvF 7 226 T (P : Int)).2 T W) k1 => V2.giveB hgv d k1 hP64
        unfold pV at hga hgb
        obtain ⟨re, hre⟩ : ∃ re, re = (gvF 7 226 T (P : Int)).1 := ⟨_, rfl⟩
        obtain ⟨T', hT'⟩ : ∃ T', T' = (gvF 7 226 T (P : Int)).2 := ⟨_, rfl⟩
        rw [← hre, ← hT'] at hga hgb
        have HGa := Lib.hid hga
        have HGb := Lib.hid hgb
        clear hrm hr0 hr1 hcc hX0 hn0 e2 e3 q5 hga hgb hgv hre hT'
        go_wp2_with fail
        refine HGa.out.mono ?_
        rintro e w11 ⟨l1, rfl, hv11, hf11, hk11⟩
        have HGb2 := Lib.hid (HGb.out w11 l1 hv11 hk11)
        clear hv11 hf11 hk11 HGa HGb y0 y1 hck HX9 HR9 HV9
        go_wp2_with fail
        refine HGb2.out.mono ?_
        rintro e w12 ⟨rfl, hv12, hf12⟩
        have HV12 := Lib.hid hv12
        clear hv12 hf12 HGb2
        go_wp2
        go_roundw
        case rel => exact ⟨j + 1, l1, T', by omega, by go_num, HV12.out⟩
        case measure => simp [intOf]; omega
    · obtain rfl : j = C.length := by omega
      have hImA : ∀ W g, g = Value.pointer (some ⟨h.g, 0, none⟩) → V2 w h h2 l0 l l T T W → Calls Tryz.prog 37 #[g] W fun e W' => ∃ u, e = .returned u ∧ Below W.heap.size W W' ∧ Arn.NewRow W.heap.size W' u l := fun W g e d => e ▸ d.a.image
      have hImB : ∀ W g, g = Value.pointer (some ⟨h2.g, 0, none⟩) → V2 w h h2 l0 l l T T W → Calls Tryz.prog 37 #[g] W fun e W' => ∃ u, e = .returned u ∧ Below W.heap.size W W' ∧ Arn.NewRow W.heap.size W' u l := fun W g e d => e ▸ d.b.image
      have hAgA : ∀ W g, g = Value.pointer (some ⟨h.g, 0, none⟩) → V2 w h h2 l0 l l T T W → Calls Tryz.prog 38 #[g] W fun e W' => e = .returned (.bool true) ∧ Below W.heap.size W W' := fun W g e d => e ▸ agree_any d.a
      have hAgB : ∀ W g, g = Value.pointer (some ⟨h2.g, 0, none⟩) → V2 w h h2 l0 l l T T W → Calls Tryz.prog 38 #[g] W fun e W' => e = .returned (.bool true) ∧ Below W.heap.size W W' := fun W g e d => e ▸ agree_any d.b
      have hFa : ∀ W, V2 w h h2 l0 l l T T W → Calls Tryz.prog 19 #[pV h2] W fun e W' => e = .returned (.int .i64 0) ∧ Below W.heap.size W W' := fun W d => d.b.faults d.z2
      have hMp : ∀ W, V2 w h h2 l0 l l T T W → Calls Tryz.prog 33 #[] W fun e W' => e = .returned (.bool true) ∧ Below W.heap.size W W' := fun W d => HW.out W (HTs.out.keep d.bl)
      have hSS : ∀ W v, Row .u8 W v l → (convert 57 9 v).run Tryz.prog W = .ok (.string (strOfNums l)) W := fun W v hr => hr.string (P := Tryz.prog) 57 9 5 Tryz.underlying57 Tryz.underlying5 Tryz.underlying9
      unfold pV at hFa
      have HImA := Lib.hid hImA
      have HImB := Lib.hid hImB
      have HAgA := Lib.hid hAgA
      have HAgB := Lib.hid hAgB
      have HFa := Lib.hid hFa
      have HMp := Lib.hid hMp
      have HSS := Lib.hid hSS
      have hd := HV.out
      clear hImA hImB hAgA hAgB hFa hMp hSS HV
      go_wp2_with fail
      generalize strOfNums l = sx at HSS
      go_region_with (first | (have hq := hd9; go_at_call 33; refine (HMp.out _ hd9).mono ?_; rintro e w10 ⟨rfl, hb10⟩; have hd10 := hd9.below hb10) | (have hq := hd8; go_at_call 19; refine (HFa.out _ hd8).mono ?_; rintro e w9 ⟨rfl, hb9⟩; have hd9 := hd8.below hb9) | (have hq := hd7; go_at_call 38; refine (HAgB.out _ _ (by rfl) hd7).mono ?_; rintro e w8 ⟨rfl, hb8⟩; have hd8 := hd7.below hb8) | (have hq := hd6; go_at_call 38; refine (HAgA.out _ _ (by rfl) hd6).mono ?_; rintro e w7 ⟨rfl, hb7⟩; have hd7 := hd6.below hb7) | (have hq := hd5; go_at_call 37; refine (HImB.out _ _ (by rfl) hd5).mono ?_; rintro e w6 ⟨uB, rfl, hb6, hr6⟩; have hd6 := hd5.below hb6; obtain ⟨va, vc, rfl, -⟩ := id hr6.1; have hcA6 := HSS.out _ _ (hr5.1.mono hb6 (Nat.le_refl _)); have hcB6 := HSS.out _ _ hr6.1) | (go_at_call 37; refine (HImA.out _ _ (by rfl) (by first | exact hd | exact hd.drew)).mono ?_; rintro e w5 ⟨uA, rfl, hb5, hr5⟩; have hd5 := (show V2 w h h2 l0 l l T T _ from (by first | exact hd | exact hd.drew)).below hb5; obtain ⟨ua, uc, rfl, -⟩ := id hr5.1; have hcA5 := HSS.out _ _ hr5.1))
      all_goals
        have HBe := Lib.hid hd10.bl
        clear hd10 hd9 hd8 hd7 hd6 hd5 hd hb10 hb9 hb8 hb7 hb6 hb5 hr5 hr6
        go_wp2
        go_ret
        exact ⟨rfl, HBe.out⟩
end Go.Proofs.YtjjfihoplkddfaaGreatDoor.Reg
