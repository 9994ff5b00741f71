/- HeadApart. -/
import Derived.Test.YtkknegnipodcnaaDoorJ13
namespace Go.Proofs.YtkknegnipodcnaaDoor.Hea
open Go.RowKit Num
open Mem (Mm MemC MRet Hm rd blkM)
set_option linter.unusedVariables false

theorem rep_get (n i : Nat) (v : Int) (h : i < n) : (List.replicate n v).getD i 0 = v := by simp [List.getD, h]
theorem size_small : Lay.sizeC 7 224 = 8304 := by decide
def mrkX (M : Mm) (k : Int) : Mm := { M with x := (Wat.mrkA M.x 1136 64 k).1 }
theorem mrkX_l (M : Mm) (k : Int) : (mrkX M k).l = M.l := rfl
theorem mrkX_x (M : Mm) (k : Int) : (mrkX M k).x = (Wat.mrkA M.x 1136 64 k).1 := rfl
theorem mrkX_f (M : Mm) (k : Int) : (mrkX M k).ft = M.ft := rfl
theorem mrkX_m (M : Mm) (k : Int) : (M.mark 1136 64 k).2 = mrkX M k := rfl
theorem new_f (s n : Int) : (Mm.new s n).ft = 0 := rfl
theorem M0_x : (Mm.new 7 224).x.length = 8304 := (Mem.new_x 7 224).trans size_small
theorem M0_l : (Mm.new 7 224).l.length = 8304 := (Mem.new_l 7 224).trans size_small
/-- There is room for a head in a row of bytes of its kind. -/
theorem mrkX_room {M : Mm} (hx : M.x.length = 8304) {t : Int} (ht : 0 ≤ t ∧ t ≤ 2) : Room (mrkX M (kdF t)) 1136 t := by
  have hk : 0 ≤ kdF t ∧ kdF t ≤ 8 := by unfold kdF; split <;> omega
  have h1 : Wat.mrkA M.x (1136 : Int) (64 : Int) (kdF t) = (Arn.wrL M.x 1136 (List.replicate 64 (kdF t)), 0) :=
    Mem.mark_yes (p := 1136) (q := 64) (by omega) (by decide) (by decide) hk.1 hk.2
  have hs := sz_bd ht
  refine ⟨ht, by decide, ?_, fun j hj => ?_⟩
  · rw [mrkX_x, Wat.mrkA_length]
    omega
  · rw [mrkX_x, h1, Mem.wr_rep _ _ _ _ _ (by omega), if_pos (by omega)]
theorem Room.lk {M : Mm} {a : Nat} {t : Int} (h : Room M a t) (l : List Int) (lk : Int) : Room { M with l := l, lk := lk } a t := ⟨h.tag, h.al, h.len, h.kind⟩
def vU (L : List Int) : List Value := L.map (Value.int .u64)
theorem vU_get (L : List Int) (i : Nat) (h : i < L.length) : (vU L)[i]? = some (.int .u64 (L.getD i 0)) := by simp [vU, h, List.getD]
theorem vU_set (L : List Int) (i : Nat) (y : Int) : (vU L).toArray.setIfInBounds i (.int .u64 y) = (vU (L.set i y)).toArray := by simp [vU, List.map_set]
theorem infoU : (Tryd.prog.info? 23).map (fun i => (i.zero, i.size, i.bytes)) = some (some (.int .u64 0), 1, 8) := by kernel_rfl
theorem vU_zeros (n : Nat) : madeCells #[Value.int .u64 0] n = (vU (List.replicate n 0)).toArray := by
  rw [madeCells_one]; simp [vU]
theorem setU_getD (L : List Int) (s i : Nat) (v : Int) (hs : s < L.length) : (L.set s v).getD i 0 = if s = i then v else L.getD i 0 := by
  unfold List.getD
  rw [List.getElem?_set]
  by_cases h : s = i
  · subst h
    simp [hs]
  · rw [if_neg h, if_neg h]

set_option maxRecDepth 100000 in
set_option maxHeartbeats 32000000 in
theorem headApart_walk {Tb : World → Prop} (D : Does Tb) (E : DoesM Tb) (hcls : ∀ u, Tb u → Cls.Tab u) (hpl : ∀ u, Tb u → Mem.TabP u) (b : Blk) (f y : Int) (w : World) (ht : Tb w) (hb : b.Ok) (f64 : i64 f) (y0 : 0 ≤ y) (y1 : y < 18446744073709551616) :
    Calls Tryd.prog 7 #[b.agg, .int .i64 f, .int .u64 y] w fun e w' => e = .returned (.bool true) ∧ Below w.heap.size w w' := by
  have HH := Lib.hid (fun u (hu : Tb u) => heads_any D u hu)
  have hx := BX.first w b
  have hb0 : Below w.heap.size w (BW w b) := hx.bel
  have HX : Hid (∀ W, Below (BW w b).heap.size (BW w b) W → BX w W b) := fun W hb => hx.below hb
  have HT : Hid (∀ W, Below (BW w b).heap.size (BW w b) W → Tb W) := fun W hb1 => D.keep w W (hb0.trans (hb1.mono hb0.size)) ht
  have HBw : Hid (∀ W, Below (BW w b).heap.size (BW w b) W → Below w.heap.size w W) := fun W hb1 => hb0.trans (hb1.mono hb0.size)
  have HNew := Lib.hid (Mem.new_yes 7 224 (BW w b) (by decide) (hcls _ (HT.out _ (Below.refl _ _))) (hpl _ (HT.out _ (Below.refl _ _))))
  have HRi := Lib.hid (fun u (hu : Tb u) => D.right b u hu hb)
  have HWh := Lib.hid (fun u (hu : Tb u) => D.whr b.tag f u hu hb.tag f64)
  have c11 : ((1136 : Nat) : Int) = 1136 := rfl
  have hpno := fun h v M u (hu : Tb u) hm hn => E.put_no h v M 1136 b u hu hm hb hn
  have hpok := fun h v M u (hu : Tb u) hm hp hr => E.put_ok h v M 1136 b u hu hm hb hp hr
  have hget := fun h v M u (hu : Tb u) hm hp hr hl => E.get_ok h v M 1136 b u hu hm hb hp hr hl
  have hld := fun h v M t (g : Nat) (hg : g < 12) u (hu : Tb u) hm hr hl => E.load_ok h v M 1136 t g u hu hm hr hl (by unfold i64; omega)
  have hst := fun h v M t u (hu : Tb u) hm hr hl => E.store_ok h v M 1136 t f y u hu hm hr hl f64 y0 y1
  rw [c11] at hpno hpok hget hld hst
  have HPno := Lib.hid hpno
  have HPok := Lib.hid hpok
  have HGet := Lib.hid hget
  have HLd := Lib.hid hld
  have HSt := Lib.hid hst
  clear c11 hpno hpok hget hld hst
  have hMk := fun h v u hm => Mem.mark_any h v (Mm.new 7 224) 1136 64 (kdF b.tag) u hm (by unfold Arn.is64; omega)
  rw [mrkX_m] at hMk
  have hroom := @mrkX_room _ M0_x b.tag
  have hlen := (congrArg List.length (mrkX_l (Mm.new 7 224) (kdF b.tag))).trans M0_l
  have hft := (mrkX_f (Mm.new 7 224) (kdF b.tag)).trans (new_f 7 224)
  obtain ⟨N, hN⟩ : ∃ N, N = mrkX (Mm.new 7 224) (kdF b.tag) := ⟨_, rfl⟩
  obtain ⟨r0, hr0⟩ : ∃ r0, r0 = ((Mm.new 7 224).mark 1136 64 (kdF b.tag)).1 := ⟨_, rfl⟩
  obtain ⟨M0, hM0⟩ : ∃ M0, M0 = Mm.new 7 224 := ⟨_, rfl⟩
  rw [← hN, ← hr0, ← hM0] at hMk
  rw [← hN] at hroom hlen hft
  rw [← hM0] at HNew
  have HMk := Lib.hid hMk
  have hkd : (b.tag = 0 ∧ kdF b.tag = 6) ∨ (¬ b.tag = 0 ∧ kdF b.tag = 5) := by
    unfold kdF
    split
    · exact .inl ⟨by assumption, rfl⟩
    · exact .inr ⟨by assumption, rfl⟩
  obtain ⟨kd, hkk⟩ : ∃ kd, kd = kdF b.tag := ⟨_, rfl⟩
  rw [← hkk] at hkd HMk
  have hx2 := hx
  obtain ⟨c0, c1, c2, c3, c4, c5, c6, c7, c8, c9, c10, c11, -, -⟩ := hx2
  clear hN hr0 hM0 hMk hkk
  by_cases hp : RightP b
  · have ht3 := right_tag hp
    have hRoom := hroom ht3
    have hback := dec_enc hb hp
    have hsz := sz_bd ht3
    obtain ⟨l2, hl2⟩ : ∃ l2, l2 = Arn.wrL N.l 1136 (encL b) := ⟨_, rfl⟩
    have hpart : (l2.drop 1136).take (encL b).length = encL b := by rw [hl2]; exact Mem.wr_part _ _ _ (by omega)
    have hl2n : l2.length = 8304 := by rw [hl2, Arn.wrL_length _ _ _ (by omega), hlen]
    have htag2 : l2.getD 1136 0 = b.tag := by
      rw [hl2, Mem.wr_get _ _ _ _ (by omega), if_pos (by omega)]
      rfl
    obtain ⟨l3, hl3⟩ : ∃ l3, l3 = stF l2 1136 b.tag f y := ⟨_, rfl⟩
    have hl3n : l3.length = 8304 := by rw [hl3, stF_length ht3 (by omega), hl2n]
    have HTag3 : Hid (f ≠ 0 → l3.getD 1136 0 = b.tag) := fun hf => by rw [hl3, st_tag ht3 (by omega) hf, htag2]
    obtain ⟨mk, hmk⟩ : ∃ mk : List Int → Int → Mm, mk = fun l lk => { N with l := l, lk := lk } := ⟨_, rfl⟩
    have hrm : ∀ l lk, Room (mk l lk) 1136 b.tag := fun l lk => by rw [hmk]; exact hRoom.lk l lk
    have hml : ∀ l lk, (mk l lk).l = l := fun l lk => by rw [hmk]
    have hmf : ∀ l lk, (mk l lk).ft = 0 := fun l lk => by rw [hmk]; exact hft
    have hmu : ∀ l lk l' lk', ({ mk l lk with l := l', lk := lk' } : Mm) = mk l' lk' := fun l lk l' lk' => by rw [hmk]
    have hmv : ∀ l lk lk', ({ mk l lk with lk := lk' } : Mm) = mk l lk' := fun l lk lk' => by rw [hmk]
    obtain ⟨X, hX⟩ : ∃ X : Nat → Int, X = fun (g : Nat) => ldF l2 1136 b.tag (g : Int) := ⟨_, rfl⟩
    obtain ⟨Z, hZ⟩ : ∃ Z : Nat → Int, Z = fun (g : Nat) => ldF l3 1136 b.tag (g : Int) := ⟨_, rfl⟩
    obtain ⟨ok, hok⟩ : ∃ ok, ok = okF b.tag f y := ⟨_, rfl⟩
    have HXZ : Hid (∀ g, g < 12 → Z g = if ok = true ∧ f = (g : Int) then y else X g) := fun g hg => by
      rw [hZ, hX, hok, hl3]
      exact ld_st ht3 (by omega) y0 g hg
    have HPut : Hid (∀ h v u, Tb u → MemC h u v N → Calls Tryd.prog 21 #[v, .int .i64 1136, b.agg] u fun e w' => ∃ lk, MRet h u v (mk l2 lk) (.int .i64 0) e w') := fun h v u hu hm => by
      have := HPok.out h v N u hu hm hp hRoom
      rw [← hl2] at this
      rw [hmk]
      exact this
    have HGe : Hid (∀ h v u lk, Tb u → MemC h u v (mk l2 lk) → Calls Tryd.prog 22 #[v, .int .i64 1136] u fun e w' => ∃ lk', MRet h u v (mk l2 lk') (.tuple #[b.agg, .int .i64 0]) e w') := fun h v u lk hu hm => by
      refine (HGet.out h v _ u hu hm hp (hrm _ _) (by rw [hml]; exact hpart)).mono ?_
      rintro e w' ⟨lk', hr⟩
      rw [hmv] at hr
      exact ⟨lk', hr⟩
    have HL2 : Hid (∀ h v u lk (g : Nat), g < 12 → Tb u → MemC h u v (mk l2 lk) → Calls Tryd.prog 24 #[v, .int .i64 1136, .int .i64 (g : Int)] u fun e w' => ∃ lk', MRet h u v (mk l2 lk') (.int .u64 (X g)) e w') := fun h v u lk g hg hu hm => by
      refine (HLd.out h v _ b.tag g hg u hu hm (hrm _ _) (fun _ => by rw [hml]; exact htag2)).mono ?_
      rintro e w' ⟨lk', hr⟩
      rw [hmv, hml] at hr
      rw [hX]
      exact ⟨lk', hr⟩
    have HL3 : Hid (f ≠ 0 → ∀ h v u lk (g : Nat), g < 12 → Tb u → MemC h u v (mk l3 lk) → Calls Tryd.prog 24 #[v, .int .i64 1136, .int .i64 (g : Int)] u fun e w' => ∃ lk', MRet h u v (mk l3 lk') (.int .u64 (Z g)) e w') := fun hf h v u lk g hg hu hm => by
      refine (HLd.out h v _ b.tag g hg u hu hm (hrm _ _) (fun _ => by rw [hml]; exact HTag3.out hf)).mono ?_
      rintro e w' ⟨lk', hr⟩
      rw [hmv, hml] at hr
      rw [hZ]
      exact ⟨lk', hr⟩
    have HS2 : Hid (∀ h v u lk, Tb u → MemC h u v (mk l2 lk) → Calls Tryd.prog 25 #[v, .int .i64 1136, .int .i64 f, .int .u64 y] u fun e w' => ∃ lk', MRet h u v (mk l3 lk') (.bool ok) e w') := fun h v u lk hu hm => by
      refine (HSt.out h v _ b.tag u hu hm (hrm _ _) (fun _ => by rw [hml]; exact htag2)).mono ?_
      rintro e w' ⟨lk', hr⟩
      rw [hmu, hml, ← hl3, ← hok] at hr
      exact ⟨lk', hr⟩
    have HFa : Hid (∀ h v u lk, MemC h u v (mk l2 lk) → Calls Tryd.prog 23 #[v] u fun e w' => e = .returned (.int .i64 0) ∧ Below u.heap.size u w') := fun h v u lk hm => by
      have := Mem.faults_any h v _ u hm
      rw [hmf] at this
      exact this
    have hokv := ok_is y0 y1 (f := f) ht3
    rw [← hok] at hokv
    obtain ⟨off, ho⟩ : ∃ off, off = (whF b.tag f).1 := ⟨_, rfl⟩
    obtain ⟨n, hn⟩ : ∃ n, n = (whF b.tag f).2 := ⟨_, rfl⟩
    rw [← ho, ← hn] at HWh
    rw [← hn] at hokv
    have hns : n = 0 ∨ n = 1 ∨ n = 2 ∨ n = 4 ∨ n = 8 := by
      by_cases hz : (whF b.tag f).2 = 0
      · exact .inl (hn.trans hz)
      · obtain ⟨k, rfl, hk⟩ := wh_in hz
        have := isW_cases (wh_wide ht3 k hk hz).1
        omega
    have HOk : Hid (n = 0 ∧ ok = false ∨ n = 1 ∧ ok = decide (y < 256) ∨ n = 2 ∧ ok = decide (y < 65536) ∨ n = 4 ∧ ok = decide (y < 4294967296) ∨ n = 8 ∧ ok = true) := by
      rcases hns with rfl | rfl | rfl | rfl | rfl
      · exact .inl ⟨rfl, hokv⟩
      · exact .inr (.inl ⟨rfl, by rw [hokv]; simp⟩)
      · exact .inr (.inr (.inl ⟨rfl, by rw [hokv]; simp⟩))
      · exact .inr (.inr (.inr (.inl ⟨rfl, by rw [hokv]; simp⟩)))
      · exact .inr (.inr (.inr (.inr ⟨rfl, by rw [hokv]; simp⟩)))
    clear hp ht3 hRoom hback hsz hl2 hpart hl2n htag2 hl3 hl3n HTag3 hmk hrm hml hmf hmu hmv hX hZ hok hokv ho hn hns hx hb0 HPno HPok HGet HLd HSt HRi hcls hpl E D hb hroom hlen hft
    unfold BW at HX HT HBw HNew c0 c1 c2 c3 c4 c5 c6 c7 c8 c9 c10 c11
    unfold Blk.agg at HPut HGe ⊢
    obtain ⟨tag, cls, used, lab, name, next, prev, refs, exp, typ, size, hash⟩ := b
    simp only [] at HPut HGe HWh HX HT HBw HNew c0 c1 c2 c3 c4 c5 c6 c7 c8 c9 c10 c11 hkd
    have hkd2 : ((tag == 0) = true ∧ kd = 6) ∨ ((tag == 0) = false ∧ kd = 5) := by
      rcases hkd with ⟨h1, h2⟩ | ⟨h1, h2⟩
      · exact .inl ⟨by simpa using h1, h2⟩
      · exact .inr ⟨by simpa using h1, h2⟩
    clear hkd
    obtain ⟨i0, hi, hz0, hz1, hz2⟩ := info_parts infoU
    rcases hkd2 with ⟨ht0, rfl⟩ | ⟨ht0, rfl⟩
    all_goals
      go_enter Tryd.func7, Tryd.ntmps7
      go_wp2_with fail
      refine HNew.out.mono ?_
      rintro e w1 ⟨v, h, rfl, hm1, hb1, hk1⟩
      obtain rfl := hm1.hv
      have HK := Lib.hid hk1
      have HB1 := Lib.hid hb1
      have HM1 := Lib.hid hm1
      clear c0 c1 c2 c3 c4 c5 c6 c7 c8 c9 c10 c11 hb1 hm1 hk1 HNew
      obtain ⟨c0, c1, c2, c3, c4, c5, c6, c7, c8, c9, c10, c11, -, -⟩ := HX.out _ HB1.out
      simp only [] at c0 c1 c2 c3 c4 c5 c6 c7 c8 c9 c10 c11
      go_wp2_with fail
      refine (HMk.out _ _ _ HM1.out).mono ?_
      rintro e w2 hr2
      obtain rfl := hr2.1
      have HM2 := Lib.hid hr2.2.1
      have HB2 := Lib.hid (HB1.out.trans (hr2.2.2.toBelow HB1.out.size (fun k hk hh => by have := HK.out k hh; omega)))
      clear hr2 c0 c1 c2 c3 c4 c5 c6 c7 c8 c9 c10 c11 HMk
      obtain ⟨c0, c1, c2, c3, c4, c5, c6, c7, c8, c9, c10, c11, -, -⟩ := HX.out _ HB2.out
      simp only [] at c0 c1 c2 c3 c4 c5 c6 c7 c8 c9 c10 c11
      go_wp2_with fail
      refine (HPut.out h _ w2 (HT.out _ HB2.out) HM2.out).mono ?_
      rintro e w3 ⟨lk3, hr3⟩
      obtain rfl := hr3.1
      have HM3 := Lib.hid hr3.2.1
      have HB3 := Lib.hid (HB2.out.trans (hr3.2.2.toBelow HB2.out.size (fun k hk hh => by have := HK.out k hh; omega)))
      clear hr3 c0 c1 c2 c3 c4 c5 c6 c7 c8 c9 c10 c11 HM2 HPut
      go_wp2_with fail
      refine (HGe.out h _ w3 lk3 (HT.out _ HB3.out) HM3.out).mono ?_
      rintro e w4 ⟨lk4, hr4⟩
      obtain rfl := hr4.1
      have HM4 := Lib.hid hr4.2.1
      have HB4 := Lib.hid (HB3.out.trans (hr4.2.2.toBelow HB3.out.size (fun k hk hh => by have := HK.out k hh; omega)))
      clear hr4 HM3 HGe
      have hy5 := heap_alloc_new w4 (.cells #[.int .i64 tag, .int .i64 cls, .bool used, .int .i64 lab, .int .u32 name, .int .u32 next, .int .u32 prev, .int .u32 refs, .int .u64 exp, .int .u16 typ, .int .i64 size, .int .u32 hash] 26)
      have hb5 := below_made w4 (.cells #[.int .i64 tag, .int .i64 cls, .bool used, .int .i64 lab, .int .u32 name, .int .u32 next, .int .u32 prev, .int .u32 refs, .int .u64 exp, .int .u16 typ, .int .i64 size, .int .u32 hash] 26)
      have HB5 := Lib.hid (HB4.out.trans (hb5.mono HB4.out.size))
      have HM5 := Lib.hid (HM4.out.below hb5)
      have HY5 : Hid ((w4.alloc (.cells #[.int .i64 tag, .int .i64 cls, .bool used, .int .i64 lab, .int .u32 name, .int .u32 next, .int .u32 prev, .int .u32 refs, .int .u64 exp, .int .u16 typ, .int .i64 size, .int .u32 hash] 26)).heap[w4.heap.size]? = some (.cells (cellsA ⟨tag, cls, used, lab, name, next, prev, refs, exp, typ, size, hash⟩) 26 (0, 0))) := hy5
      obtain ⟨c0, c1, c2, c3, c4, c5, c6, c7, c8, c9, c10, c11, -, -⟩ := HX.out _ HB5.out
      obtain ⟨d0, d1, d2, d3, d4, d5, d6, d7, d8, d9, d10, d11⟩ := cells_of HY5.out
      simp only [] at c0 c1 c2 c3 c4 c5 c6 c7 c8 c9 c10 c11 d0 d1 d2 d3 d4 d5 d6 d7 d8 d9 d10 d11
      clear hy5 hb5 HM4
      go_wp2_with fail
      refine (HFa.out h _ _ lk4 HM5.out).mono ?_
      rintro e w6 ⟨rfl, hb6⟩
      have HM6 := Lib.hid (HM5.out.below hb6)
      have HB6 := Lib.hid (HB5.out.trans (hb6.mono HB5.out.size))
      clear hb6 c0 c1 c2 c3 c4 c5 c6 c7 c8 c9 c10 c11 d0 d1 d2 d3 d4 d5 d6 d7 d8 d9 d10 d11 HM5 HY5 HB5 HFa
      go_wp2_with (refine wpList_make_row rfl (.const (.int .i64 12)) (.const (.int .i64 12)) 54 rfl 23 i0 (.int .u64 0) 8 Tryd.underlying54 hi hz0 hz1 hz2 .i64 .i64 12 rfl rfl (by omega) (by omega) ?_)
      have hg7 := heap_alloc_new w6 (.cells (madeCells #[.int .u64 0] 12) 23)
      have hb7 := below_made w6 (.cells (madeCells #[.int .u64 0] 12) 23)
      obtain ⟨g, hg⟩ : ∃ g, g = w6.heap.size := ⟨_, rfl⟩
      rw [← hg] at hg7 ⊢
      have HGb : Hid ((w.alloc (.cells #[.int .i64 tag, .int .i64 cls, .bool used, .int .i64 lab, .int .u32 name, .int .u32 next, .int .u32 prev, .int .u32 refs, .int .u64 exp, .int .u16 typ, .int .i64 size, .int .u32 hash] 26)).heap.size ≤ g) := by unfold Hid; rw [hg]; exact HB6.out.size
      have HGn : Hid (∀ k, blkM h k → k < g) := fun k hk => by rw [hg]; exact HM6.out.lt k hk
      have HI7 : Hid ((MemC h (w6.alloc (.cells (madeCells #[.int .u64 0] 12) 23)) (.pointer (some ⟨h.g, 0, none⟩)) (mk l2 lk4) ∧ Below (w.alloc (.cells #[.int .i64 tag, .int .i64 cls, .bool used, .int .i64 lab, .int .u32 name, .int .u32 next, .int .u32 prev, .int .u32 refs, .int .u64 exp, .int .u16 typ, .int .i64 size, .int .u32 hash] 26)).heap.size (w.alloc (.cells #[.int .i64 tag, .int .i64 cls, .bool used, .int .i64 lab, .int .u32 name, .int .u32 next, .int .u32 prev, .int .u32 refs, .int .u64 exp, .int .u16 typ, .int .i64 size, .int .u32 hash] 26)) (w6.alloc (.cells (madeCells #[.int .u64 0] 12) 23))) ∧ (w6.alloc (.cells (madeCells #[.int .u64 0] 12) 23)).heap[g]? = some (.cells (vU (List.replicate 12 0)).toArray 23 (0, 0))) := ⟨⟨HM6.out.below hb7, HB6.out.trans (hb7.mono HB6.out.size)⟩, by rw [vU_zeros] at hg7 ⊢; exact hg7⟩
      clear hg7 hb7 hg HM6 HB6 HB1 HB2 HB3 HB4 HM1
      generalize w6.alloc (.cells (madeCells #[.int .u64 0] 12) 23) = w7 at HI7 ⊢
      have HSt2 : Hid (∀ W M o u, MemC h W (.pointer (some ⟨h.g, 0, none⟩)) M → Below (w.alloc (.cells #[.int .i64 tag, .int .i64 cls, .bool used, .int .i64 lab, .int .u32 name, .int .u32 next, .int .u32 prev, .int .u32 refs, .int .u64 exp, .int .u16 typ, .int .i64 size, .int .u32 hash] 26)).heap.size (w.alloc (.cells #[.int .i64 tag, .int .i64 cls, .bool used, .int .i64 lab, .int .u32 name, .int .u32 next, .int .u32 prev, .int .u32 refs, .int .u64 exp, .int .u16 typ, .int .i64 size, .int .u32 hash] 26)) W → MemC h (W.setCell ⟨g, o, none⟩ u) (.pointer (some ⟨h.g, 0, none⟩)) M ∧ Below (w.alloc (.cells #[.int .i64 tag, .int .i64 cls, .bool used, .int .i64 lab, .int .u32 name, .int .u32 next, .int .u32 prev, .int .u32 refs, .int .u64 exp, .int .u16 typ, .int .i64 size, .int .u32 hash] 26)).heap.size (w.alloc (.cells #[.int .i64 tag, .int .i64 cls, .bool used, .int .i64 lab, .int .u32 name, .int .u32 next, .int .u32 prev, .int .u32 refs, .int .u64 exp, .int .u16 typ, .int .i64 size, .int .u32 hash] 26)) (W.setCell ⟨g, o, none⟩ u)) := fun W M o u hm hb => by
        refine ⟨?_, hb.setCell (p := ⟨g, o, none⟩) HGb.out _⟩
        exact hm.stay ((Fr.refl W.heap.size (fun k => k = g) W).setCell (p := ⟨g, o, none⟩) (.inr rfl) u) (fun k hk => ⟨hm.lt k hk, fun e => by have := HGn.out k hk; omega⟩)
      have HRet : Hid (∀ W M r e W' L, MRet h W (.pointer (some ⟨h.g, 0, none⟩)) M r e W' → Below (w.alloc (.cells #[.int .i64 tag, .int .i64 cls, .bool used, .int .i64 lab, .int .u32 name, .int .u32 next, .int .u32 prev, .int .u32 refs, .int .u64 exp, .int .u16 typ, .int .i64 size, .int .u32 hash] 26)).heap.size (w.alloc (.cells #[.int .i64 tag, .int .i64 cls, .bool used, .int .i64 lab, .int .u32 name, .int .u32 next, .int .u32 prev, .int .u32 refs, .int .u64 exp, .int .u16 typ, .int .i64 size, .int .u32 hash] 26)) W → W.heap[g]? = some (.cells (vU L).toArray 23 (0, 0)) → Below (w.alloc (.cells #[.int .i64 tag, .int .i64 cls, .bool used, .int .i64 lab, .int .u32 name, .int .u32 next, .int .u32 prev, .int .u32 refs, .int .u64 exp, .int .u16 typ, .int .i64 size, .int .u32 hash] 26)).heap.size (w.alloc (.cells #[.int .i64 tag, .int .i64 cls, .bool used, .int .i64 lab, .int .u32 name, .int .u32 next, .int .u32 prev, .int .u32 refs, .int .u64 exp, .int .u16 typ, .int .i64 size, .int .u32 hash] 26)) W' ∧ W'.heap[g]? = some (.cells (vU L).toArray 23 (0, 0))) := fun W M r e W' L hr hb hg => by
        refine ⟨hb.trans (hr.2.2.toBelow hb.size (fun k hk hh => by have := HK.out k hh; omega)), ?_⟩
        exact (hr.2.2.block g (lt_block hg) (fun hh => by have := HGn.out g hh; omega)).trans hg
      go_loopw [12] (fun i wr => ∃ (k : Nat) (lk : Int) (L : List Int), k ≤ 12 ∧ i = .int .i64 k ∧ Hid (L.length = 12 ∧ ∀ j, j < k → L.getD j 0 = X j) ∧ Hid ((MemC h wr (.pointer (some ⟨h.g, 0, none⟩)) (mk l2 lk) ∧ Below (w.alloc (.cells #[.int .i64 tag, .int .i64 cls, .bool used, .int .i64 lab, .int .u32 name, .int .u32 next, .int .u32 prev, .int .u32 refs, .int .u64 exp, .int .u16 typ, .int .i64 size, .int .u32 hash] 26)).heap.size (w.alloc (.cells #[.int .i64 tag, .int .i64 cls, .bool used, .int .i64 lab, .int .u32 name, .int .u32 next, .int .u32 prev, .int .u32 refs, .int .u64 exp, .int .u16 typ, .int .i64 size, .int .u32 hash] 26)) wr) ∧ wr.heap[g]? = some (.cells (vU L).toArray 23 (0, 0)))) (fun i _ => 12 - (intOf i).toNat)
      case atStart => exact ⟨0, lk4, _, Nat.zero_le _, rfl, ⟨List.length_replicate, fun j hj => by omega⟩, HI7.out⟩
      case round =>
        obtain ⟨k, lk, L, hk, rfl, HL, HV⟩ := hrel
        by_cases hlt : k < 12
        · have hlt1 : (k : Int) < 12 := by omega
          have HLk := Lib.hid (HL2.out h _ wr lk k hlt (HT.out _ HV.out.1.2) HV.out.1.1)
          obtain ⟨x, hx⟩ : ∃ x, x = X k := ⟨_, rfl⟩
          rw [← hx] at HLk
          have HXk := Lib.hid hx
          clear hx
          go_wp2_with fail
          refine HLk.out.mono ?_
          rintro e w8 ⟨lk8, hr8⟩
          obtain rfl := hr8.1
          obtain ⟨h8a, h8b⟩ := HRet.out _ _ _ _ _ _ hr8 HV.out.1.2 HV.out.2
          have q0 : w8.cell? ⟨g, k, none⟩ = some (.int .u64 (L.getD k 0)) := by
            rw [cell_block h8b, List.getElem?_toArray, vU_get _ _ (by rw [HL.out.1]; exact hlt)]
          have q1 := frozen_block h8b k
          obtain ⟨h9a, h9b⟩ := HSt2.out w8 _ k (.int .u64 x) hr8.2.1 h8a
          have h9c := heap_setCell_own (o := k) h8b (.int .u64 x)
          rw [vU_set] at h9c
          have HN9 : Hid ((MemC h (w8.setCell ⟨g, k, none⟩ (.int .u64 x)) (.pointer (some ⟨h.g, 0, none⟩)) (mk l2 lk8) ∧ Below (w.alloc (.cells #[.int .i64 tag, .int .i64 cls, .bool used, .int .i64 lab, .int .u32 name, .int .u32 next, .int .u32 prev, .int .u32 refs, .int .u64 exp, .int .u16 typ, .int .i64 size, .int .u32 hash] 26)).heap.size (w.alloc (.cells #[.int .i64 tag, .int .i64 cls, .bool used, .int .i64 lab, .int .u32 name, .int .u32 next, .int .u32 prev, .int .u32 refs, .int .u64 exp, .int .u16 typ, .int .i64 size, .int .u32 hash] 26)) (w8.setCell ⟨g, k, none⟩ (.int .u64 x))) ∧ (w8.setCell ⟨g, k, none⟩ (.int .u64 x)).heap[g]? = some (.cells (vU (L.set k x)).toArray 23 (0, 0))) := ⟨⟨h9a, h9b⟩, h9c⟩
          have HL9 : Hid ((L.set k x).length = 12 ∧ ∀ j, j < k + 1 → (L.set k x).getD j 0 = X j) := by
            refine ⟨by rw [List.length_set]; exact HL.out.1, fun j hj => ?_⟩
            rw [setU_getD _ _ _ _ (by rw [HL.out.1]; exact hlt)]
            split
            · rename_i e
              rw [← e, HXk.out]
            · exact HL.out.2 j (by omega)
          generalize L.getD k 0 = z at q0
          clear hr8 h8a h8b h9a h9b h9c HV HL HLk
          go_wp2
          go_roundw
          case rel => exact ⟨k + 1, lk8, L.set k x, by omega, by go_num, HL9, HN9.out⟩
          case measure => simp [intOf]; omega
        · obtain rfl : k = 12 := by omega
          by_cases hf0 : f = 0
          · have hf1 : (f == 0) = true := by simpa using hf0
            clear hf0
            go_wp2_with fail
            refine (HH.out _ (HT.out _ HV.out.1.2)).mono ?_
            rintro e w8 ⟨rfl, hb8⟩
            have HE8 := Lib.hid (HBw.out _ (HV.out.1.2.trans (hb8.mono HV.out.1.2.size)))
            clear hb8
            go_wp2
            go_ret
            exact ⟨rfl, HE8.out⟩
          · have hf1 : (f == 0) = false := by simpa using hf0
            have HL3f := Lib.hid (HL3.out hf0)
            clear hf0 HL3
            go_wp2_with fail
            refine (HS2.out h _ wr lk (HT.out _ HV.out.1.2) HV.out.1.1).mono ?_
            rintro e w8 ⟨lk8, hr8⟩
            obtain rfl := hr8.1
            have HV8 : Hid ((MemC h w8 (.pointer (some ⟨h.g, 0, none⟩)) (mk l3 lk8) ∧ Below (w.alloc (.cells #[.int .i64 tag, .int .i64 cls, .bool used, .int .i64 lab, .int .u32 name, .int .u32 next, .int .u32 prev, .int .u32 refs, .int .u64 exp, .int .u16 typ, .int .i64 size, .int .u32 hash] 26)).heap.size (w.alloc (.cells #[.int .i64 tag, .int .i64 cls, .bool used, .int .i64 lab, .int .u32 name, .int .u32 next, .int .u32 prev, .int .u32 refs, .int .u64 exp, .int .u16 typ, .int .i64 size, .int .u32 hash] 26)) w8) ∧ w8.heap[g]? = some (.cells (vU L).toArray 23 (0, 0))) := by
              obtain ⟨h1, h2⟩ := HRet.out _ _ _ _ _ _ hr8 HV.out.1.2 HV.out.2
              exact ⟨⟨hr8.2.1, h1⟩, h2⟩
            clear hr8 HV HL2 HS2
            obtain ⟨c0, c1, c2, c3, c4, c5, c6, c7, c8, c9, c10, c11, -, -⟩ := HX.out _ HV8.out.1.2
            simp only [] at c0 c1 c2 c3 c4 c5 c6 c7 c8 c9 c10 c11
            go_wp2_with fail
            refine (HWh.out _ (HT.out _ HV8.out.1.2)).mono ?_
            rintro e w9 ⟨rfl, hb9⟩
            have HV9 : Hid ((MemC h w9 (.pointer (some ⟨h.g, 0, none⟩)) (mk l3 lk8) ∧ Below (w.alloc (.cells #[.int .i64 tag, .int .i64 cls, .bool used, .int .i64 lab, .int .u32 name, .int .u32 next, .int .u32 prev, .int .u32 refs, .int .u64 exp, .int .u16 typ, .int .i64 size, .int .u32 hash] 26)).heap.size (w.alloc (.cells #[.int .i64 tag, .int .i64 cls, .bool used, .int .i64 lab, .int .u32 name, .int .u32 next, .int .u32 prev, .int .u32 refs, .int .u64 exp, .int .u16 typ, .int .i64 size, .int .u32 hash] 26)) w9) ∧ w9.heap[g]? = some (.cells (vU L).toArray 23 (0, 0))) := ⟨⟨HV8.out.1.1.below hb9, HV8.out.1.2.trans (hb9.mono HV8.out.1.2.size)⟩, (hb9.block _ (lt_block HV8.out.2)).trans HV8.out.2⟩
            clear hb9 HV8 c0 c1 c2 c3 c4 c5 c6 c7 c8 c9 c10 c11 HWh
            have hok5 := HOk.out
            clear HOk
            rcases hok5 with ⟨rfl, hk5⟩ | ⟨rfl, hk5⟩ | ⟨rfl, hk5⟩ | ⟨rfl, hk5⟩ | ⟨rfl, hk5⟩
            · subst hk5
              go_wp2
              go_loopw [16] (fun i wr => ∃ (k : Nat) (lk : Int), k ≤ 12 ∧ i = .int .i64 k ∧ Hid ((MemC h wr (.pointer (some ⟨h.g, 0, none⟩)) (mk l3 lk) ∧ Below (w.alloc (.cells #[.int .i64 tag, .int .i64 cls, .bool used, .int .i64 lab, .int .u32 name, .int .u32 next, .int .u32 prev, .int .u32 refs, .int .u64 exp, .int .u16 typ, .int .i64 size, .int .u32 hash] 26)).heap.size (w.alloc (.cells #[.int .i64 tag, .int .i64 cls, .bool used, .int .i64 lab, .int .u32 name, .int .u32 next, .int .u32 prev, .int .u32 refs, .int .u64 exp, .int .u16 typ, .int .i64 size, .int .u32 hash] 26)) wr) ∧ wr.heap[g]? = some (.cells (vU L).toArray 23 (0, 0)))) (fun i _ => 12 - (intOf i).toNat)
              case atStart => exact ⟨0, lk8, Nat.zero_le _, rfl, HV9.out⟩
              case round =>
                obtain ⟨k, lk, hk, rfl, HV⟩ := hrel
                by_cases hlt : k < 12
                · have hlt1 : (k : Int) < 12 := by omega
                  have HLk := Lib.hid (HL3f.out h _ wr lk k hlt (HT.out _ HV.out.1.2) HV.out.1.1)
                  have hz := HXZ.out k hlt
                  have hLk := HL.out.2 k hlt
                  obtain ⟨x, hx⟩ : ∃ x, x = X k := ⟨_, rfl⟩
                  rw [← hx] at hz hLk
                  have HLx := Lib.hid hLk
                  have hxx : (x != x) = false := by simp
                  clear hx hLk
                  rw [if_neg (fun h => by cases h.1)] at hz
                  rw [hz] at HLk
                  clear hz
                  go_wp2_with fail
                  refine HLk.out.mono ?_
                  rintro e wa ⟨lka, hra⟩
                  obtain rfl := hra.1
                  obtain ⟨h8a, h8b⟩ := HRet.out _ _ _ _ _ _ hra HV.out.1.2 HV.out.2
                  have q0 : wa.cell? ⟨g, k, none⟩ = some (.int .u64 x) := by
                    rw [cell_block h8b, List.getElem?_toArray, vU_get _ _ (by rw [HL.out.1]; exact hlt), HLx.out]
                  have HVa : Hid ((MemC h wa (.pointer (some ⟨h.g, 0, none⟩)) (mk l3 lka) ∧ Below (w.alloc (.cells #[.int .i64 tag, .int .i64 cls, .bool used, .int .i64 lab, .int .u32 name, .int .u32 next, .int .u32 prev, .int .u32 refs, .int .u64 exp, .int .u16 typ, .int .i64 size, .int .u32 hash] 26)).heap.size (w.alloc (.cells #[.int .i64 tag, .int .i64 cls, .bool used, .int .i64 lab, .int .u32 name, .int .u32 next, .int .u32 prev, .int .u32 refs, .int .u64 exp, .int .u16 typ, .int .i64 size, .int .u32 hash] 26)) wa) ∧ wa.heap[g]? = some (.cells (vU L).toArray 23 (0, 0))) := ⟨⟨hra.2.1, h8a⟩, h8b⟩
                  clear hra h8a h8b HV HLk HLx
                  go_wp2
                  go_roundw
                  case rel => exact ⟨k + 1, lka, by omega, by go_num, HVa.out⟩
                  case measure => simp [intOf]; omega
                · obtain rfl : k = 12 := by omega
                  go_wp2_with fail
                  refine (HH.out _ (HT.out _ HV.out.1.2)).mono ?_
                  rintro e wa ⟨rfl, hba⟩
                  have HEa := Lib.hid (HBw.out _ (HV.out.1.2.trans (hba.mono HV.out.1.2.size)))
                  clear hba
                  go_wp2
                  go_ret
                  exact ⟨rfl, HEa.out⟩
            · by_cases hy : y < 256
              · obtain rfl : ok = true := by rw [hk5]; simpa using hy
                have hy2 : decide (y < 256) = true := by simpa using hy
                clear hk5
                go_wp2
                go_loopw [16] (fun i wr => ∃ (k : Nat) (lk : Int), k ≤ 12 ∧ i = .int .i64 k ∧ Hid ((MemC h wr (.pointer (some ⟨h.g, 0, none⟩)) (mk l3 lk) ∧ Below (w.alloc (.cells #[.int .i64 tag, .int .i64 cls, .bool used, .int .i64 lab, .int .u32 name, .int .u32 next, .int .u32 prev, .int .u32 refs, .int .u64 exp, .int .u16 typ, .int .i64 size, .int .u32 hash] 26)).heap.size (w.alloc (.cells #[.int .i64 tag, .int .i64 cls, .bool used, .int .i64 lab, .int .u32 name, .int .u32 next, .int .u32 prev, .int .u32 refs, .int .u64 exp, .int .u16 typ, .int .i64 size, .int .u32 hash] 26)) wr) ∧ wr.heap[g]? = some (.cells (vU L).toArray 23 (0, 0)))) (fun i _ => 12 - (intOf i).toNat)
                case atStart => exact ⟨0, lk8, Nat.zero_le _, rfl, HV9.out⟩
                case round =>
                  obtain ⟨k, lk, hk, rfl, HV⟩ := hrel
                  by_cases hlt : k < 12
                  · have hlt1 : (k : Int) < 12 := by omega
                    have HLk := Lib.hid (HL3f.out h _ wr lk k hlt (HT.out _ HV.out.1.2) HV.out.1.1)
                    have hz := HXZ.out k hlt
                    have hLk := HL.out.2 k hlt
                    obtain ⟨x, hx⟩ : ∃ x, x = X k := ⟨_, rfl⟩
                    rw [← hx] at hz hLk
                    have HLx := Lib.hid hLk
                    have hxx : (x != x) = false := by simp
                    clear hx hLk
                    by_cases hfk : f = (k : Int)
                    · rw [if_pos ⟨trivial, hfk⟩] at hz
                      rw [hz] at HLk
                      have hyy : (y != y) = false := by simp
                      have hk1 : ((k : Int) == f) = true := by simp [hfk]
                      have hk2 : ((k : Int) != f) = false := by simp [hfk]
                      clear hfk hz
                      go_wp2_with fail
                      refine HLk.out.mono ?_
                      rintro e wa ⟨lka, hra⟩
                      obtain rfl := hra.1
                      obtain ⟨h8a, h8b⟩ := HRet.out _ _ _ _ _ _ hra HV.out.1.2 HV.out.2
                      have q0 : wa.cell? ⟨g, k, none⟩ = some (.int .u64 x) := by
                        rw [cell_block h8b, List.getElem?_toArray, vU_get _ _ (by rw [HL.out.1]; exact hlt), HLx.out]
                      have HVa : Hid ((MemC h wa (.pointer (some ⟨h.g, 0, none⟩)) (mk l3 lka) ∧ Below (w.alloc (.cells #[.int .i64 tag, .int .i64 cls, .bool used, .int .i64 lab, .int .u32 name, .int .u32 next, .int .u32 prev, .int .u32 refs, .int .u64 exp, .int .u16 typ, .int .i64 size, .int .u32 hash] 26)).heap.size (w.alloc (.cells #[.int .i64 tag, .int .i64 cls, .bool used, .int .i64 lab, .int .u32 name, .int .u32 next, .int .u32 prev, .int .u32 refs, .int .u64 exp, .int .u16 typ, .int .i64 size, .int .u32 hash] 26)) wa) ∧ wa.heap[g]? = some (.cells (vU L).toArray 23 (0, 0))) := ⟨⟨hra.2.1, h8a⟩, h8b⟩
                      clear hra h8a h8b HV HLk HLx
                      go_wp2
                      go_roundw
                      case rel => exact ⟨k + 1, lka, by omega, by go_num, HVa.out⟩
                      case measure => simp [intOf]; omega
                    · rw [if_neg (fun h => hfk h.2)] at hz
                      rw [hz] at HLk
                      have hk1 : ((k : Int) == f) = false := by rw [beq_eq_false_iff_ne]; exact fun e => hfk e.symm
                      have hk2 : ((k : Int) != f) = true := by rw [bne_iff_ne]; exact fun e => hfk e.symm
                      clear hfk hz
                      go_wp2_with fail
                      refine HLk.out.mono ?_
                      rintro e wa ⟨lka, hra⟩
                      obtain rfl := hra.1
                      obtain ⟨h8a, h8b⟩ := HRet.out _ _ _ _ _ _ hra HV.out.1.2 HV.out.2
                      have q0 : wa.cell? ⟨g, k, none⟩ = some (.int .u64 x) := by
                        rw [cell_block h8b, List.getElem?_toArray, vU_get _ _ (by rw [HL.out.1]; exact hlt), HLx.out]
                      have HVa : Hid ((MemC h wa (.pointer (some ⟨h.g, 0, none⟩)) (mk l3 lka) ∧ Below (w.alloc (.cells #[.int .i64 tag, .int .i64 cls, .bool used, .int .i64 lab, .int .u32 name, .int .u32 next, .int .u32 prev, .int .u32 refs, .int .u64 exp, .int .u16 typ, .int .i64 size, .int .u32 hash] 26)).heap.size (w.alloc (.cells #[.int .i64 tag, .int .i64 cls, .bool used, .int .i64 lab, .int .u32 name, .int .u32 next, .int .u32 prev, .int .u32 refs, .int .u64 exp, .int .u16 typ, .int .i64 size, .int .u32 hash] 26)) wa) ∧ wa.heap[g]? = some (.cells (vU L).toArray 23 (0, 0))) := ⟨⟨hra.2.1, h8a⟩, h8b⟩
                      clear hra h8a h8b HV HLk HLx
                      go_wp2
                      go_roundw
                      case rel => exact ⟨k + 1, lka, by omega, by go_num, HVa.out⟩
                      case measure => simp [intOf]; omega
                  · obtain rfl : k = 12 := by omega
                    go_wp2_with fail
                    refine (HH.out _ (HT.out _ HV.out.1.2)).mono ?_
                    rintro e wa ⟨rfl, hba⟩
                    have HEa := Lib.hid (HBw.out _ (HV.out.1.2.trans (hba.mono HV.out.1.2.size)))
                    clear hba
                    go_wp2
                    go_ret
                    exact ⟨rfl, HEa.out⟩
              · obtain rfl : ok = false := by rw [hk5]; simpa using hy
                have hy2 : decide (y < 256) = false := by simpa using hy
                clear hk5
                go_wp2
                go_loopw [16] (fun i wr => ∃ (k : Nat) (lk : Int), k ≤ 12 ∧ i = .int .i64 k ∧ Hid ((MemC h wr (.pointer (some ⟨h.g, 0, none⟩)) (mk l3 lk) ∧ Below (w.alloc (.cells #[.int .i64 tag, .int .i64 cls, .bool used, .int .i64 lab, .int .u32 name, .int .u32 next, .int .u32 prev, .int .u32 refs, .int .u64 exp, .int .u16 typ, .int .i64 size, .int .u32 hash] 26)).heap.size (w.alloc (.cells #[.int .i64 tag, .int .i64 cls, .bool used, .int .i64 lab, .int .u32 name, .int .u32 next, .int .u32 prev, .int .u32 refs, .int .u64 exp, .int .u16 typ, .int .i64 size, .int .u32 hash] 26)) wr) ∧ wr.heap[g]? = some (.cells (vU L).toArray 23 (0, 0)))) (fun i _ => 12 - (intOf i).toNat)
                case atStart => exact ⟨0, lk8, Nat.zero_le _, rfl, HV9.out⟩
                case round =>
                  obtain ⟨k, lk, hk, rfl, HV⟩ := hrel
                  by_cases hlt : k < 12
                  · have hlt1 : (k : Int) < 12 := by omega
                    have HLk := Lib.hid (HL3f.out h _ wr lk k hlt (HT.out _ HV.out.1.2) HV.out.1.1)
                    have hz := HXZ.out k hlt
                    have hLk := HL.out.2 k hlt
                    obtain ⟨x, hx⟩ : ∃ x, x = X k := ⟨_, rfl⟩
                    rw [← hx] at hz hLk
                    have HLx := Lib.hid hLk
                    have hxx : (x != x) = false := by simp
                    clear hx hLk
                    rw [if_neg (fun h => by cases h.1)] at hz
                    rw [hz] at HLk
                    clear hz
                    go_wp2_with fail
                    refine HLk.out.mono ?_
                    rintro e wa ⟨lka, hra⟩
                    obtain rfl := hra.1
                    obtain ⟨h8a, h8b⟩ := HRet.out _ _ _ _ _ _ hra HV.out.1.2 HV.out.2
                    have q0 : wa.cell? ⟨g, k, none⟩ = some (.int .u64 x) := by
                      rw [cell_block h8b, List.getElem?_toArray, vU_get _ _ (by rw [HL.out.1]; exact hlt), HLx.out]
                    have HVa : Hid ((MemC h wa (.pointer (some ⟨h.g, 0, none⟩)) (mk l3 lka) ∧ Below (w.alloc (.cells #[.int .i64 tag, .int .i64 cls, .bool used, .int .i64 lab, .int .u32 name, .int .u32 next, .int .u32 prev, .int .u32 refs, .int .u64 exp, .int .u16 typ, .int .i64 size, .int .u32 hash] 26)).heap.size (w.alloc (.cells #[.int .i64 tag, .int .i64 cls, .bool used, .int .i64 lab, .int .u32 name, .int .u32 next, .int .u32 prev, .int .u32 refs, .int .u64 exp, .int .u16 typ, .int .i64 size, .int .u32 hash] 26)) wa) ∧ wa.heap[g]? = some (.cells (vU L).toArray 23 (0, 0))) := ⟨⟨hra.2.1, h8a⟩, h8b⟩
                    clear hra h8a h8b HV HLk HLx
                    go_wp2
                    go_roundw
                    case rel => exact ⟨k + 1, lka, by omega, by go_num, HVa.out⟩
                    case measure => simp [intOf]; omega
                  · obtain rfl : k = 12 := by omega
                    go_wp2_with fail
                    refine (HH.out _ (HT.out _ HV.out.1.2)).mono ?_
                    rintro e wa ⟨rfl, hba⟩
                    have HEa := Lib.hid (HBw.out _ (HV.out.1.2.trans (hba.mono HV.out.1.2.size)))
                    clear hba
                    go_wp2
                    go_ret
                    exact ⟨rfl, HEa.out⟩
            · by_cases hy : y < 65536
              · obtain rfl : ok = true := by rw [hk5]; simpa using hy
                have hy2 : decide (y < 65536) = true := by simpa using hy
                clear hk5
                go_wp2
                go_loopw [16] (fun i wr => ∃ (k : Nat) (lk : Int), k ≤ 12 ∧ i = .int .i64 k ∧ Hid ((MemC h wr (.pointer (some ⟨h.g, 0, none⟩)) (mk l3 lk) ∧ Below (w.alloc (.cells #[.int .i64 tag, .int .i64 cls, .bool used, .int .i64 lab, .int .u32 name, .int .u32 next, .int .u32 prev, .int .u32 refs, .int .u64 exp, .int .u16 typ, .int .i64 size, .int .u32 hash] 26)).heap.size (w.alloc (.cells #[.int .i64 tag, .int .i64 cls, .bool used, .int .i64 lab, .int .u32 name, .int .u32 next, .int .u32 prev, .int .u32 refs, .int .u64 exp, .int .u16 typ, .int .i64 size, .int .u32 hash] 26)) wr) ∧ wr.heap[g]? = some (.cells (vU L).toArray 23 (0, 0)))) (fun i _ => 12 - (intOf i).toNat)
                case atStart => exact ⟨0, lk8, Nat.zero_le _, rfl, HV9.out⟩
                case round =>
                  obtain ⟨k, lk, hk, rfl, HV⟩ := hrel
                  by_cases hlt : k < 12
                  · have hlt1 : (k : Int) < 12 := by omega
                    have HLk := Lib.hid (HL3f.out h _ wr lk k hlt (HT.out _ HV.out.1.2) HV.out.1.1)
                    have hz := HXZ.out k hlt
                    have hLk := HL.out.2 k hlt
                    obtain ⟨x, hx⟩ : ∃ x, x = X k := ⟨_, rfl⟩
                    rw [← hx] at hz hLk
                    have HLx := Lib.hid hLk
                    have hxx : (x != x) = false := by simp
                    clear hx hLk
                    by_cases hfk : f = (k : Int)
                    · rw [if_pos ⟨trivial, hfk⟩] at hz
                      rw [hz] at HLk
                      have hyy : (y != y) = false := by simp
                      have hk1 : ((k : Int) == f) = true := by simp [hfk]
                      have hk2 : ((k : Int) != f) = false := by simp [hfk]
                      clear hfk hz
                      go_wp2_with fail
                      refine HLk.out.mono ?_
                      rintro e wa ⟨lka, hra⟩
                      obtain rfl := hra.1
                      obtain ⟨h8a, h8b⟩ := HRet.out _ _ _ _ _ _ hra HV.out.1.2 HV.out.2
                      have q0 : wa.cell? ⟨g, k, none⟩ = some (.int .u64 x) := by
                        rw [cell_block h8b, List.getElem?_toArray, vU_get _ _ (by rw [HL.out.1]; exact hlt), HLx.out]
                      have HVa : Hid ((MemC h wa (.pointer (some ⟨h.g, 0, none⟩)) (mk l3 lka) ∧ Below (w.alloc (.cells #[.int .i64 tag, .int .i64 cls, .bool used, .int .i64 lab, .int .u32 name, .int .u32 next, .int .u32 prev, .int .u32 refs, .int .u64 exp, .int .u16 typ, .int .i64 size, .int .u32 hash] 26)).heap.size (w.alloc (.cells #[.int .i64 tag, .int .i64 cls, .bool used, .int .i64 lab, .int .u32 name, .int .u32 next, .int .u32 prev, .int .u32 refs, .int .u64 exp, .int .u16 typ, .int .i64 size, .int .u32 hash] 26)) wa) ∧ wa.heap[g]? = some (.cells (vU L).toArray 23 (0, 0))) := ⟨⟨hra.2.1, h8a⟩, h8b⟩
                      clear hra h8a h8b HV HLk HLx
                      go_wp2
                      go_roundw
                      case rel => exact ⟨k + 1, lka, by omega, by go_num, HVa.out⟩
                      case measure => simp [intOf]; omega
                    · rw [if_neg (fun h => hfk h.2)] at hz
                      rw [hz] at HLk
                      have hk1 : ((k : Int) == f) = false := by rw [beq_eq_false_iff_ne]; exact fun e => hfk e.symm
                      have hk2 : ((k : Int) != f) = true := by rw [bne_iff_ne]; exact fun e => hfk e.symm
                      clear hfk hz
                      go_wp2_with fail
                      refine HLk.out.mono ?_
                      rintro e wa ⟨lka, hra⟩
                      obtain rfl := hra.1
                      obtain ⟨h8a, h8b⟩ := HRet.out _ _ _ _ _ _ hra HV.out.1.2 HV.out.2
                      have q0 : wa.cell? ⟨g, k, none⟩ = some (.int .u64 x) := by
                        rw [cell_block h8b, List.getElem?_toArray, vU_get _ _ (by rw [HL.out.1]; exact hlt), HLx.out]
                      have HVa : Hid ((MemC h wa (.pointer (some ⟨h.g, 0, none⟩)) (mk l3 lka) ∧ Below (w.alloc (.cells #[.int .i64 tag, .int .i64 cls, .bool used, .int .i64 lab, .int .u32 name, .int .u32 next, .int .u32 prev, .int .u32 refs, .int .u64 exp, .int .u16 typ, .int .i64 size, .int .u32 hash] 26)).heap.size (w.alloc (.cells #[.int .i64 tag, .int .i64 cls, .bool used, .int .i64 lab, .int .u32 name, .int .u32 next, .int .u32 prev, .int .u32 refs, .int .u64 exp, .int .u16 typ, .int .i64 size, .int .u32 hash] 26)) wa) ∧ wa.heap[g]? = some (.cells (vU L).toArray 23 (0, 0))) := ⟨⟨hra.2.1, h8a⟩, h8b⟩
                      clear hra h8a h8b HV HLk HLx
                      go_wp2
                      go_roundw
                      case rel => exact ⟨k + 1, lka, by omega, by go_num, HVa.out⟩
                      case measure => simp [intOf]; omega
                  · obtain rfl : k = 12 := by omega
                    go_wp2_with fail
                    refine (HH.out _ (HT.out _ HV.out.1.2)).mono ?_
                    rintro e wa ⟨rfl, hba⟩
                    have HEa := Lib.hid (HBw.out _ (HV.out.1.2.trans (hba.mono HV.out.1.2.size)))
                    clear hba
                    go_wp2
                    go_ret
                    exact ⟨rfl, HEa.out⟩
              · obtain rfl : ok = false := by rw [hk5]; simpa using hy
                have hy2 : decide (y < 65536) = false := by simpa using hy
                clear hk5
                go_wp2
                go_loopw [16] (fun i wr => ∃ (k : Nat) (lk : Int), k ≤ 12 ∧ i = .int .i64 k ∧ Hid ((MemC h wr (.pointer (some ⟨h.g, 0, none⟩)) (mk l3 lk) ∧ Below (w.alloc (.cells #[.int .i64 tag, .int .i64 cls, .bool used, .int .i64 lab, .int .u32 name, .int .u32 next, .int .u32 prev, .int .u32 refs, .int .u64 exp, .int .u16 typ, .int .i64 size, .int .u32 hash] 26)).heap.size (w.alloc (.cells #[.int .i64 tag, .int .i64 cls, .bool used, .int .i64 lab, .int .u32 name, .int .u32 next, .int .u32 prev, .int .u32 refs, .int .u64 exp, .int .u16 typ, .int .i64 size, .int .u32 hash] 26)) wr) ∧ wr.heap[g]? = some (.cells (vU L).toArray 23 (0, 0)))) (fun i _ => 12 - (intOf i).toNat)
                case atStart => exact ⟨0, lk8, Nat.zero_le _, rfl, HV9.out⟩
                case round =>
                  obtain ⟨k, lk, hk, rfl, HV⟩ := hrel
                  by_cases hlt : k < 12
                  · have hlt1 : (k : Int) < 12 := by omega
                    have HLk := Lib.hid (HL3f.out h _ wr lk k hlt (HT.out _ HV.out.1.2) HV.out.1.1)
                    have hz := HXZ.out k hlt
                    have hLk := HL.out.2 k hlt
                    obtain ⟨x, hx⟩ : ∃ x, x = X k := ⟨_, rfl⟩
                    rw [← hx] at hz hLk
                    have HLx := Lib.hid hLk
                    have hxx : (x != x) = false := by simp
                    clear hx hLk
                    rw [if_neg (fun h => by cases h.1)] at hz
                    rw [hz] at HLk
                    clear hz
                    go_wp2_with fail
                    refine HLk.out.mono ?_
                    rintro e wa ⟨lka, hra⟩
                    obtain rfl := hra.1
                    obtain ⟨h8a, h8b⟩ := HRet.out _ _ _ _ _ _ hra HV.out.1.2 HV.out.2
                    have q0 : wa.cell? ⟨g, k, none⟩ = some (.int .u64 x) := by
                      rw [cell_block h8b, List.getElem?_toArray, vU_get _ _ (by rw [HL.out.1]; exact hlt), HLx.out]
                    have HVa : Hid ((MemC h wa (.pointer (some ⟨h.g, 0, none⟩)) (mk l3 lka) ∧ Below (w.alloc (.cells #[.int .i64 tag, .int .i64 cls, .bool used, .int .i64 lab, .int .u32 name, .int .u32 next, .int .u32 prev, .int .u32 refs, .int .u64 exp, .int .u16 typ, .int .i64 size, .int .u32 hash] 26)).heap.size (w.alloc (.cells #[.int .i64 tag, .int .i64 cls, .bool used, .int .i64 lab, .int .u32 name, .int .u32 next, .int .u32 prev, .int .u32 refs, .int .u64 exp, .int .u16 typ, .int .i64 size, .int .u32 hash] 26)) wa) ∧ wa.heap[g]? = some (.cells (vU L).toArray 23 (0, 0))) := ⟨⟨hra.2.1, h8a⟩, h8b⟩
                    clear hra h8a h8b HV HLk HLx
                    go_wp2
                    go_roundw
                    case rel => exact ⟨k + 1, lka, by omega, by go_num, HVa.out⟩
                    case measure => simp [intOf]; omega
                  · obtain rfl : k = 12 := by omega
                    go_wp2_with fail
                    refine (HH.out _ (HT.out _ HV.out.1.2)).mono ?_
                    rintro e wa ⟨rfl, hba⟩
                    have HEa := Lib.hid (HBw.out _ (HV.out.1.2.trans (hba.mono HV.out.1.2.size)))
                    clear hba
                    go_wp2
                    go_ret
                    exact ⟨rfl, HEa.out⟩
            · by_cases hy : y < 4294967296
              · obtain rfl : ok = true := by rw [hk5]; simpa using hy
                have hy2 : decide (y < 4294967296) = true := by simpa using hy
                clear hk5
                go_wp2
                go_loopw [16] (fun i wr => ∃ (k : Nat) (lk : Int), k ≤ 12 ∧ i = .int .i64 k ∧ Hid ((MemC h wr (.pointer (some ⟨h.g, 0, none⟩)) (mk l3 lk) ∧ Below (w.alloc (.cells #[.int .i64 tag, .int .i64 cls, .bool used, .int .i64 lab, .int .u32 name, .int .u32 next, .int .u32 prev, .int .u32 refs, .int .u64 exp, .int .u16 typ, .int .i64 size, .int .u32 hash] 26)).heap.size (w.alloc (.cells #[.int .i64 tag, .int .i64 cls, .bool used, .int .i64 lab, .int .u32 name, .int .u32 next, .int .u32 prev, .int .u32 refs, .int .u64 exp, .int .u16 typ, .int .i64 size, .int .u32 hash] 26)) wr) ∧ wr.heap[g]? = some (.cells (vU L).toArray 23 (0, 0)))) (fun i _ => 12 - (intOf i).toNat)
                case atStart => exact ⟨0, lk8, Nat.zero_le _, rfl, HV9.out⟩
                case round =>
                  obtain ⟨k, lk, hk, rfl, HV⟩ := hrel
                  by_cases hlt : k < 12
                  · have hlt1 : (k : Int) < 12 := by omega
                    have HLk := Lib.hid (HL3f.out h _ wr lk k hlt (HT.out _ HV.out.1.2) HV.out.1.1)
                    have hz := HXZ.out k hlt
                    have hLk := HL.out.2 k hlt
                    obtain ⟨x, hx⟩ : ∃ x, x = X k := ⟨_, rfl⟩
                    rw [← hx] at hz hLk
                    have HLx := Lib.hid hLk
                    have hxx : (x != x) = false := by simp
                    clear hx hLk
                    by_cases hfk : f = (k : Int)
                    · rw [if_pos ⟨trivial, hfk⟩] at hz
                      rw [hz] at HLk
                      have hyy : (y != y) = false := by simp
                      have hk1 : ((k : Int) == f) = true := by simp [hfk]
                      have hk2 : ((k : Int) != f) = false := by simp [hfk]
                      clear hfk hz
                      go_wp2_with fail
                      refine HLk.out.mono ?_
                      rintro e wa ⟨lka, hra⟩
                      obtain rfl := hra.1
                      obtain ⟨h8a, h8b⟩ := HRet.out _ _ _ _ _ _ hra HV.out.1.2 HV.out.2
                      have q0 : wa.cell? ⟨g, k, none⟩ = some (.int .u64 x) := by
                        rw [cell_block h8b, List.getElem?_toArray, vU_get _ _ (by rw [HL.out.1]; exact hlt), HLx.out]
                      have HVa : Hid ((MemC h wa (.pointer (some ⟨h.g, 0, none⟩)) (mk l3 lka) ∧ Below (w.alloc (.cells #[.int .i64 tag, .int .i64 cls, .bool used, .int .i64 lab, .int .u32 name, .int .u32 next, .int .u32 prev, .int .u32 refs, .int .u64 exp, .int .u16 typ, .int .i64 size, .int .u32 hash] 26)).heap.size (w.alloc (.cells #[.int .i64 tag, .int .i64 cls, .bool used, .int .i64 lab, .int .u32 name, .int .u32 next, .int .u32 prev, .int .u32 refs, .int .u64 exp, .int .u16 typ, .int .i64 size, .int .u32 hash] 26)) wa) ∧ wa.heap[g]? = some (.cells (vU L).toArray 23 (0, 0))) := ⟨⟨hra.2.1, h8a⟩, h8b⟩
                      clear hra h8a h8b HV HLk HLx
                      go_wp2
                      go_roundw
                      case rel => exact ⟨k + 1, lka, by omega, by go_num, HVa.out⟩
                      case measure => simp [intOf]; omega
                    · rw [if_neg (fun h => hfk h.2)] at hz
                      rw [hz] at HLk
                      have hk1 : ((k : Int) == f) = false := by rw [beq_eq_false_iff_ne]; exact fun e => hfk e.symm
                      have hk2 : ((k : Int) != f) = true := by rw [bne_iff_ne]; exact fun e => hfk e.symm
                      clear hfk hz
                      go_wp2_with fail
                      refine HLk.out.mono ?_
                      rintro e wa ⟨lka, hra⟩
                      obtain rfl := hra.1
                      obtain ⟨h8a, h8b⟩ := HRet.out _ _ _ _ _ _ hra HV.out.1.2 HV.out.2
                      have q0 : wa.cell? ⟨g, k, none⟩ = some (.int .u64 x) := by
                        rw [cell_block h8b, List.getElem?_toArray, vU_get _ _ (by rw [HL.out.1]; exact hlt), HLx.out]
                      have HVa : Hid ((MemC h wa (.pointer (some ⟨h.g, 0, none⟩)) (mk l3 lka) ∧ Below (w.alloc (.cells #[.int .i64 tag, .int .i64 cls, .bool used, .int .i64 lab, .int .u32 name, .int .u32 next, .int .u32 prev, .int .u32 refs, .int .u64 exp, .int .u16 typ, .int .i64 size, .int .u32 hash] 26)).heap.size (w.alloc (.cells #[.int .i64 tag, .int .i64 cls, .bool used, .int .i64 lab, .int .u32 name, .int .u32 next, .int .u32 prev, .int .u32 refs, .int .u64 exp, .int .u16 typ, .int .i64 size, .int .u32 hash] 26)) wa) ∧ wa.heap[g]? = some (.cells (vU L).toArray 23 (0, 0))) := ⟨⟨hra.2.1, h8a⟩, h8b⟩
                      clear hra h8a h8b HV HLk HLx
                      go_wp2
                      go_roundw
                      case rel => exact ⟨k + 1, lka, by omega, by go_num, HVa.out⟩
                      case measure => simp [intOf]; omega
                  · obtain rfl : k = 12 := by omega
                    go_wp2_with fail
                    refine (HH.out _ (HT.out _ HV.out.1.2)).mono ?_
                    rintro e wa ⟨rfl, hba⟩
                    have HEa := Lib.hid (HBw.out _ (HV.out.1.2.trans (hba.mono HV.out.1.2.size)))
                    clear hba
                    go_wp2
                    go_ret
                    exact ⟨rfl, HEa.out⟩
              · obtain rfl : ok = false := by rw [hk5]; simpa using hy
                have hy2 : decide (y < 4294967296) = false := by simpa using hy
                clear hk5
                go_wp2
                go_loopw [16] (fun i wr => ∃ (k : Nat) (lk : Int), k ≤ 12 ∧ i = .int .i64 k ∧ Hid ((MemC h wr (.pointer (some ⟨h.g, 0, none⟩)) (mk l3 lk) ∧ Below (w.alloc (.cells #[.int .i64 tag, .int .i64 cls, .bool used, .int .i64 lab, .int .u32 name, .int .u32 next, .int .u32 prev, .int .u32 refs, .int .u64 exp, .int .u16 typ, .int .i64 size, .int .u32 hash] 26)).heap.size (w.alloc (.cells #[.int .i64 tag, .int .i64 cls, .bool used, .int .i64 lab, .int .u32 name, .int .u32 next, .int .u32 prev, .int .u32 refs, .int .u64 exp, .int .u16 typ, .int .i64 size, .int .u32 hash] 26)) wr) ∧ wr.heap[g]? = some (.cells (vU L).toArray 23 (0, 0)))) (fun i _ => 12 - (intOf i).toNat)
                case atStart => exact ⟨0, lk8, Nat.zero_le _, rfl, HV9.out⟩
                case round =>
                  obtain ⟨k, lk, hk, rfl, HV⟩ := hrel
                  by_cases hlt : k < 12
                  · have hlt1 : (k : Int) < 12 := by omega
                    have HLk := Lib.hid (HL3f.out h _ wr lk k hlt (HT.out _ HV.out.1.2) HV.out.1.1)
                    have hz := HXZ.out k hlt
                    have hLk := HL.out.2 k hlt
                    obtain ⟨x, hx⟩ : ∃ x, x = X k := ⟨_, rfl⟩
                    rw [← hx] at hz hLk
                    have HLx := Lib.hid hLk
                    have hxx : (x != x) = false := by simp
                    clear hx hLk
                    rw [if_neg (fun h => by cases h.1)] at hz
                    rw [hz] at HLk
                    clear hz
                    go_wp2_with fail
                    refine HLk.out.mono ?_
                    rintro e wa ⟨lka, hra⟩
                    obtain rfl := hra.1
                    obtain ⟨h8a, h8b⟩ := HRet.out _ _ _ _ _ _ hra HV.out.1.2 HV.out.2
                    have q0 : wa.cell? ⟨g, k, none⟩ = some (.int .u64 x) := by
                      rw [cell_block h8b, List.getElem?_toArray, vU_get _ _ (by rw [HL.out.1]; exact hlt), HLx.out]
                    have HVa : Hid ((MemC h wa (.pointer (some ⟨h.g, 0, none⟩)) (mk l3 lka) ∧ Below (w.alloc (.cells #[.int .i64 tag, .int .i64 cls, .bool used, .int .i64 lab, .int .u32 name, .int .u32 next, .int .u32 prev, .int .u32 refs, .int .u64 exp, .int .u16 typ, .int .i64 size, .int .u32 hash] 26)).heap.size (w.alloc (.cells #[.int .i64 tag, .int .i64 cls, .bool used, .int .i64 lab, .int .u32 name, .int .u32 next, .int .u32 prev, .int .u32 refs, .int .u64 exp, .int .u16 typ, .int .i64 size, .int .u32 hash] 26)) wa) ∧ wa.heap[g]? = some (.cells (vU L).toArray 23 (0, 0))) := ⟨⟨hra.2.1, h8a⟩, h8b⟩
                    clear hra h8a h8b HV HLk HLx
                    go_wp2
                    go_roundw
                    case rel => exact ⟨k + 1, lka, by omega, by go_num, HVa.out⟩
                    case measure => simp [intOf]; omega
                  · obtain rfl : k = 12 := by omega
                    go_wp2_with fail
                    refine (HH.out _ (HT.out _ HV.out.1.2)).mono ?_
                    rintro e wa ⟨rfl, hba⟩
                    have HEa := Lib.hid (HBw.out _ (HV.out.1.2.trans (hba.mono HV.out.1.2.size)))
                    clear hba
                    go_wp2
                    go_ret
                    exact ⟨rfl, HEa.out⟩
            · subst hk5
              go_wp2
              go_loopw [16] (fun i wr => ∃ (k : Nat) (lk : Int), k ≤ 12 ∧ i = .int .i64 k ∧ Hid ((MemC h wr (.pointer (some ⟨h.g, 0, none⟩)) (mk l3 lk) ∧ Below (w.alloc (.cells #[.int .i64 tag, .int .i64 cls, .bool used, .int .i64 lab, .int .u32 name, .int .u32 next, .int .u32 prev, .int .u32 refs, .int .u64 exp, .int .u16 typ, .int .i64 size, .int .u32 hash] 26)).heap.size (w.alloc (.cells #[.int .i64 tag, .int .i64 cls, .bool used, .int .i64 lab, .int .u32 name, .int .u32 next, .int .u32 prev, .int .u32 refs, .int .u64 exp, .int .u16 typ, .int .i64 size, .int .u32 hash] 26)) wr) ∧ wr.heap[g]? = some (.cells (vU L).toArray 23 (0, 0)))) (fun i _ => 12 - (intOf i).toNat)
              case atStart => exact ⟨0, lk8, Nat.zero_le _, rfl, HV9.out⟩
              case round =>
                obtain ⟨k, lk, hk, rfl, HV⟩ := hrel
                by_cases hlt : k < 12
                · have hlt1 : (k : Int) < 12 := by omega
                  have HLk := Lib.hid (HL3f.out h _ wr lk k hlt (HT.out _ HV.out.1.2) HV.out.1.1)
                  have hz := HXZ.out k hlt
                  have hLk := HL.out.2 k hlt
                  obtain ⟨x, hx⟩ : ∃ x, x = X k := ⟨_, rfl⟩
                  rw [← hx] at hz hLk
                  have HLx := Lib.hid hLk
                  have hxx : (x != x) = false := by simp
                  clear hx hLk
                  by_cases hfk : f = (k : Int)
                  · rw [if_pos ⟨trivial, hfk⟩] at hz
                    rw [hz] at HLk
                    have hyy : (y != y) = false := by simp
                    have hk1 : ((k : Int) == f) = true := by simp [hfk]
                    have hk2 : ((k : Int) != f) = false := by simp [hfk]
                    clear hfk hz
                    go_wp2_with fail
                    refine HLk.out.mono ?_
                    rintro e wa ⟨lka, hra⟩
                    obtain rfl := hra.1
                    obtain ⟨h8a, h8b⟩ := HRet.out _ _ _ _ _ _ hra HV.out.1.2 HV.out.2
                    have q0 : wa.cell? ⟨g, k, none⟩ = some (.int .u64 x) := by
                      rw [cell_block h8b, List.getElem?_toArray, vU_get _ _ (by rw [HL.out.1]; exact hlt), HLx.out]
                    have HVa : Hid ((MemC h wa (.pointer (some ⟨h.g, 0, none⟩)) (mk l3 lka) ∧ Below (w.alloc (.cells #[.int .i64 tag, .int .i64 cls, .bool used, .int .i64 lab, .int .u32 name, .int .u32 next, .int .u32 prev, .int .u32 refs, .int .u64 exp, .int .u16 typ, .int .i64 size, .int .u32 hash] 26)).heap.size (w.alloc (.cells #[.int .i64 tag, .int .i64 cls, .bool used, .int .i64 lab, .int .u32 name, .int .u32 next, .int .u32 prev, .int .u32 refs, .int .u64 exp, .int .u16 typ, .int .i64 size, .int .u32 hash] 26)) wa) ∧ wa.heap[g]? = some (.cells (vU L).toArray 23 (0, 0))) := ⟨⟨hra.2.1, h8a⟩, h8b⟩
                    clear hra h8a h8b HV HLk HLx
                    go_wp2
                    go_roundw
                    case rel => exact ⟨k + 1, lka, by omega, by go_num, HVa.out⟩
                    case measure => simp [intOf]; omega
                  · rw [if_neg (fun h => hfk h.2)] at hz
                    rw [hz] at HLk
                    have hk1 : ((k : Int) == f) = false := by rw [beq_eq_false_iff_ne]; exact fun e => hfk e.symm
                    have hk2 : ((k : Int) != f) = true := by rw [bne_iff_ne]; exact fun e => hfk e.symm
                    clear hfk hz
                    go_wp2_with fail
                    refine HLk.out.mono ?_
                    rintro e wa ⟨lka, hra⟩
                    obtain rfl := hra.1
                    obtain ⟨h8a, h8b⟩ := HRet.out _ _ _ _ _ _ hra HV.out.1.2 HV.out.2
                    have q0 : wa.cell? ⟨g, k, none⟩ = some (.int .u64 x) := by
                      rw [cell_block h8b, List.getElem?_toArray, vU_get _ _ (by rw [HL.out.1]; exact hlt), HLx.out]
                    have HVa : Hid ((MemC h wa (.pointer (some ⟨h.g, 0, none⟩)) (mk l3 lka) ∧ Below (w.alloc (.cells #[.int .i64 tag, .int .i64 cls, .bool used, .int .i64 lab, .int .u32 name, .int .u32 next, .int .u32 prev, .int .u32 refs, .int .u64 exp, .int .u16 typ, .int .i64 size, .int .u32 hash] 26)).heap.size (w.alloc (.cells #[.int .i64 tag, .int .i64 cls, .bool used, .int .i64 lab, .int .u32 name, .int .u32 next, .int .u32 prev, .int .u32 refs, .int .u64 exp, .int .u16 typ, .int .i64 size, .int .u32 hash] 26)) wa) ∧ wa.heap[g]? = some (.cells (vU L).toArray 23 (0, 0))) := ⟨⟨hra.2.1, h8a⟩, h8b⟩
                    clear hra h8a h8b HV HLk HLx
                    go_wp2
                    go_roundw
                    case rel => exact ⟨k + 1, lka, by omega, by go_num, HVa.out⟩
                    case measure => simp [intOf]; omega
                · obtain rfl : k = 12 := by omega
                  go_wp2_with fail
                  refine (HH.out _ (HT.out _ HV.out.1.2)).mono ?_
                  rintro e wa ⟨rfl, hba⟩
                  have HEa := Lib.hid (HBw.out _ (HV.out.1.2.trans (hba.mono HV.out.1.2.size)))
                  clear hba
                  go_wp2
                  go_ret
                  exact ⟨rfl, HEa.out⟩
  · have hri : rightF b = false := by unfold rightF; rw [decide_eq_false_iff_not]; exact hp
    rw [hri] at HRi
    have HP := Lib.hid (fun h v M u (hu : Tb u) hm => HPno.out h v M u hu hm hp)
    clear hp hri hx hb0 HWh HPno HPok HGet HLd HSt hcls hpl E D hb hroom hlen hft
    unfold BW at HX HT HBw HNew c0 c1 c2 c3 c4 c5 c6 c7 c8 c9 c10 c11
    unfold Blk.agg at HRi HP ⊢
    obtain ⟨tag, cls, used, lab, name, next, prev, refs, exp, typ, size, hash⟩ := b
    simp only [] at HRi HP HX HT HBw HNew c0 c1 c2 c3 c4 c5 c6 c7 c8 c9 c10 c11 hkd
    go_enter Tryd.func7, Tryd.ntmps7
    go_wp2_with fail
    refine HNew.out.mono ?_
    rintro e w1 ⟨v, h, rfl, hm1, hb1, hk1⟩
    obtain rfl := hm1.hv
    have HK := Lib.hid hk1
    have HB1 := Lib.hid hb1
    have HM1 := Lib.hid hm1
    clear c0 c1 c2 c3 c4 c5 c6 c7 c8 c9 c10 c11 hb1 hm1 hk1 HNew
    obtain ⟨c0, c1, c2, c3, c4, c5, c6, c7, c8, c9, c10, c11, -, -⟩ := HX.out _ HB1.out
    simp only [] at c0 c1 c2 c3 c4 c5 c6 c7 c8 c9 c10 c11
    rcases hkd with ⟨rfl, rfl⟩ | ⟨ht0, rfl⟩
    all_goals
      go_wp2_with fail
      refine (HMk.out _ _ _ HM1.out).mono ?_
      rintro e w2 hr2
      obtain rfl := hr2.1
      have HM2 := Lib.hid hr2.2.1
      have HB2 := Lib.hid (HB1.out.trans (hr2.2.2.toBelow HB1.out.size (fun k hk hh => by have := HK.out k hh; omega)))
      clear hr2 c0 c1 c2 c3 c4 c5 c6 c7 c8 c9 c10 c11 HMk
      obtain ⟨c0, c1, c2, c3, c4, c5, c6, c7, c8, c9, c10, c11, -, -⟩ := HX.out _ HB2.out
      simp only [] at c0 c1 c2 c3 c4 c5 c6 c7 c8 c9 c10 c11
      go_wp2_with fail
      refine (HP.out h _ _ w2 (HT.out _ HB2.out) HM2.out).mono ?_
      rintro e w3 hr3
      obtain rfl := hr3.1
      have HB3 := Lib.hid (HB2.out.trans (hr3.2.2.toBelow HB2.out.size (fun k hk hh => by have := HK.out k hh; omega)))
      clear hr3 c0 c1 c2 c3 c4 c5 c6 c7 c8 c9 c10 c11 HM2
      obtain ⟨c0, c1, c2, c3, c4, c5, c6, c7, c8, c9, c10, c11, -, -⟩ := HX.out _ HB3.out
      simp only [] at c0 c1 c2 c3 c4 c5 c6 c7 c8 c9 c10 c11
      go_wp2_with fail
      refine (HRi.out _ (HT.out _ HB3.out)).mono ?_
      rintro e w4 ⟨rfl, hb4⟩
      have HB4 := Lib.hid (HB3.out.trans (hb4.mono HB3.out.size))
      clear hb4 c0 c1 c2 c3 c4 c5 c6 c7 c8 c9 c10 c11
      go_wp2_with fail
      refine (HH.out _ (HT.out _ HB4.out)).mono ?_
      rintro e w5 ⟨rfl, hb5⟩
      have HE5 := Lib.hid (HBw.out _ (HB4.out.trans (hb5.mono HB4.out.size)))
      clear hb5
      go_wp2
      go_ret
      exact ⟨rfl, HE5.out⟩
end Go.Proofs.YtkknegnipodcnaaDoor.Hea
