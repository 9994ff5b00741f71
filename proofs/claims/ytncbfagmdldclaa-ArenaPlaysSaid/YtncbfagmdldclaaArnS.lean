/- The act that writes into a view. -/
import Derived.Test.YtncbfagmdldclaaArnR
namespace Go.Proofs.Ytncbfagmdldclaa.Arn
open Go.RowKit Num
set_option linter.unusedVariables false

theorem row_one (w : World) (z : Int) (t : TypeId) (h0 : 0 ≤ z) (h1 : z < 256) : Row .u8 (w.alloc (.cells #[.int .u8 z] t)) (.slice (some ⟨w.heap.size, 0, none⟩) 1 1) [z] := by
  refine ⟨_, _, rfl, Nat.le_refl _, by decide, fun i hi => ?_, fun _ => ⟨w.heap.size, 0, rfl, by rw [size_alloc]; omega, fun i hi => ?_⟩⟩
  · obtain rfl : i = 0 := by simp at hi; exact hi
    exact WalkArith.wf_u8 (by simp; omega)
  · obtain rfl : i = 0 := by simp at hi; exact hi
    rw [Nat.zero_add, cell_block (heap_alloc_new w _)]
    rfl

theorem RefA.len {w : World} {v : Value} {l : List Int} {g b : Nat} (h : RefA w v l g b) : l.length ≤ 4096 := by
  obtain ⟨off, n, c, h1, h2, h3, h4, h5, h6⟩ := h
  exact h6

set_option maxRecDepth 100000 in
set_option maxHeartbeats 8000000 in
theorem act_view {H : Type} {blk : H → Nat → Prop} {Ar : H → World → Value → List Int → Prop} {Tb : World → Prop} (D : Does blk Ar Tb) (va vr u : Value) (l b : List Int) (a t n x v : Int) (wB w : World) (hb : Below wB.heap.size wB w) (h64 : is64 a) (hv0 : 0 ≤ v) (hv1 : v < 18446744073709551616) (ht : Two blk Ar wB.heap.size w va vr l) :
    Calls Try.prog 11 #[va, vr, (⟨7, a, t, n, x, v, u, b⟩ : Act).agg] w fun e w' => e = .returned (.bool true) ∧ Two blk Ar wB.heap.size w' va vr (if fitB l.length a n = true ∧ 0 < n then l.set (a + n - 1).toNat (v % 256) else l) ∧ Below wB.heap.size wB w' := by
  have HD := Lib.hid D
  have hal := below_made w (.cells #[.int .i64 7, .int .i64 a, .int .i64 t, .int .i64 n, .int .i64 x, .int .u64 v, u] 34)
  have hm := ht.mid D (below_le hb rfl) hal (Box.made w ⟨7, a, t, n, x, v, u, b⟩)
  replace hb := hb.trans (hal.mono (below_le hb rfl))
  have HT0 := Lib.hid hm.two
  have HX := Lib.hid hm.box
  have HB0 := Lib.hid hb
  obtain ⟨h, g, r, ⟨ha, hr, -⟩, m1, m2, m3, m4, m5, m6, m7, m8, m9⟩ := hm
  have HA0 := Lib.hid ha
  have HM := Lib.hid (show _ ∧ _ ∧ _ ∧ _ from ⟨m1, m2, m3, m6⟩)
  have HM2 := Lib.hid (show _ ∧ _ ∧ _ ∧ _ from ⟨m4, m5, m7, m8⟩)
  have HR0 := Lib.hid hr
  have HVw := Lib.hid (D.view h va l a n _ ha h64)
  have HRd := Lib.hid (fun (W : World) (hW : RefA W vr l g r) => refRead_any vr l g r a n W hW)
  unfold ReadGot at HRd
  clear ht hal hb ha hr m1 m2 m3 m4 m5 m6 m7 m8 m9
  unfold Act.agg
  by_cases hf : fitB l.length a n = true
  · have hre : reaA l a n = ((l.drop a.toNat).take n.toNat, 0) := by rw [reaA, if_pos hf]
    rw [hre] at HRd
    obtain ⟨p, y, rfl, rfl, hpy⟩ := fitB_nat hf
    simp only [Int.toNat_natCast, hf, true_and] at HRd HVw ⊢
    have hPl : ((l.drop p).take y).length = y := by rw [List.length_take, List.length_drop]; omega
    obtain ⟨P, hP⟩ : ∃ P, P = (l.drop p).take y := ⟨_, rfl⟩
    rw [← hP] at HRd hPl
    have HP := Lib.hid hP
    have HPl := Lib.hid hPl
    have HF := Lib.hid hf
    have HPY := Lib.hid hpy
    clear hre hP hPl hf hpy
    go_enter Try.func11, Try.ntmps11
    go_wp2_with fail
    refine HVw.out.mono ?_
    rintro e w1 ⟨hb1, hv⟩
    obtain ⟨xa, rfl, hview⟩ : ∃ x, e = .returned (.tuple #[.slice x y y, .int .i64 0]) ∧ ViewAt blk Ar w1 va h l p y x := by
      rcases hv with h | ⟨h, -⟩
      · exact h
      · cases h
    obtain ⟨hrow1, hset⟩ := hview
    rw [← HP.out] at hrow1
    have HA1 := Lib.hid (HD.out.stay _ _ _ _ _ _ (fun _ => False) HA0.out (Fr.of_below hb1) (fun k hk => ⟨HD.out.lt _ _ _ _ HA0.out k hk, fun h => h⟩))
    have HR1 := Lib.hid (HR0.out.below hb1)
    have HX1 := Lib.hid (HX.out.below hb1)
    have HB1 := Lib.hid (HB0.out.trans (hb1.mono (below_le HB0.out rfl)))
    have HS1 := Lib.hid hset
    have HRw := Lib.hid hrow1
    obtain ⟨c0, c1, c2, c3, c4, c5, c6⟩ := HX1.out.cells
    clear hv hb1 hset hrow1 HVw
    go_wp2_with fail
    refine (HRd.out _ HR1.out).mono ?_
    rintro e w2 ⟨u2, rfl, hb2, hr2⟩
    have hk1 := conv_row (HRw.out.mono hb2 (Nat.le_refl _))
    have hk2 := conv_row hr2
    obtain ⟨S, hS⟩ : ∃ S, S = strOfNums P := ⟨_, rfl⟩
    rw [← hS] at hk1 hk2
    have hSS : (S.toList == S.toList) = true := by simp
    have HA2 := Lib.hid (HD.out.stay _ _ _ _ _ _ (fun _ => False) HA1.out (Fr.of_below hb2) (fun k hk => ⟨HD.out.lt _ _ _ _ HA1.out k hk, fun h => h⟩))
    have HR2 := Lib.hid (HR1.out.below hb2)
    have HX2 := Lib.hid (HX1.out.below hb2)
    have HB2 := Lib.hid (HB1.out.trans (hb2.mono (below_le HB1.out rfl)))
    obtain ⟨a2, k2, rfl, -, -, -, -⟩ := hr2
    obtain ⟨d0, d1, d2, d3, d4, d5, d6⟩ := HX2.out.cells
    rw [HPl.out] at hk2 ⊢
    clear hb2 hS HRd HRw c0 c1 c2 c3 c4 c5 c6
    by_cases hy : y = 0
    · subst hy
      have HT2 : Hid (Two blk Ar wB.heap.size w2 va vr l) := ⟨h, g, r, HA2.out, HR2.out, HM.out.1, HM.out.2.1, HM.out.2.2.2, HM2.out.2.2.1, HM2.out.2.2.2⟩
      go_wp2
      go_ret
      exact ⟨rfl, by simpa using HT2.out, HB2.out⟩
    · obtain ⟨q, hq⟩ : ∃ q, y = q + 1 := ⟨y - 1, by omega⟩
      obtain ⟨bv, ov, rfl, hblk, hw⟩ := HS1.out (by omega)
      obtain ⟨hfz, ⟨z0, hz0⟩, hst⟩ := hw w2 l HA2.out q (by omega)
      have hst2 := hst (v % 256) (by omega) (by omega)
      have hlt2 := HD.out.lt _ _ _ _ HA2.out bv hblk
      have hne1 : ¬ bv = g := fun e => HM.out.1 (e ▸ hblk)
      have hne2 : ¬ bv = r := fun e => HM.out.2.1 (e ▸ hblk)
      have hne3 : ¬ bv = w.heap.size := fun e => HM.out.2.2.1 (e ▸ hblk)
      have hf0 := (Fr.refl w2.heap.size (fun k => k = bv) w2).setCell (p := ⟨bv, ov + q, none⟩) (.inr rfl) (.int .u8 (v % 256))
      have HR3 := Lib.hid (HR2.out.fr hf0 ⟨HR2.out.lt.1, fun e => hne1 e.symm⟩ ⟨HR2.out.lt.2, fun e => hne2 e.symm⟩)
      have HX3 := Lib.hid (HX2.out.fr hf0 HX2.out.lt (fun e => hne3 e.symm))
      have HB3 := Lib.hid (HB2.out.setCell (p := ⟨bv, ov + q, none⟩) (HM.out.2.2.2 _ hblk) (.int .u8 (v % 256)))
      have HA3 := Lib.hid hst2
      have hwv : IntKind.u8.wrap v = v % 256 := by simp [IntKind.wrap, IntKind.bits, IntKind.signed]
      have hi1 : IntKind.i64.wrap ((y : Int) - 1) = (q : Int) := (wrap_id (by omega) (by have := HPY.out; have := HR2.out.len; omega)).trans (by omega)
      have HI4 : Hid (wrap64 (wrap64 ((p : Int) + (y : Int)) - 1) = ((p + q : Nat) : Int)) := by
        have h1 := HPY.out
        have h2 := HR2.out.len
        have b1 : -9223372036854775808 ≤ (p : Int) + (y : Int) ∧ (p : Int) + (y : Int) ≤ 9223372036854775807 := by omega
        have b2 : -9223372036854775808 ≤ (p : Int) + (y : Int) - 1 ∧ (p : Int) + (y : Int) - 1 ≤ 9223372036854775807 := by omega
        have b3 : (p : Int) + (y : Int) - 1 = ((p + q : Nat) : Int) := by omega
        show wrap64 (wrap64 ((p : Int) + (y : Int)) - 1) = _
        rw [IntWalk.wrap64_in _ b1, IntWalk.wrap64_in _ b2, b3]
      have hq1 : (q : Int) < (y : Int) := by omega
      have hq0 : (0 : Int) ≤ (q : Int) := by omega
      obtain ⟨z, hz⟩ : ∃ z, z = v % 256 := ⟨_, rfl⟩
      have hz0' : 0 ≤ z := by omega
      have hz1' : z < 256 := by omega
      have HFn : Hid ((if 0 < (y : Int) then l.set ((p : Int) + (y : Int) - 1).toNat (v % 256) else l) = l.set (p + q) z) := by
        unfold Hid
        rw [if_pos (by omega), show ((p : Int) + (y : Int) - 1).toNat = p + q by omega, hz]
      have HFn2 : Hid (l.set (((p : Int) + (y : Int)).toNat - 1) (v % 256) = l.set (p + q) z) := by
        unfold Hid
        rw [show ((p : Int) + (y : Int)).toNat - 1 = p + q by omega, hz]
      rw [← hz] at hwv HR3 HX3 HB3 HA3
      have hsz3 : (w2.setCell ⟨bv, ov + q, none⟩ (.int .u8 z)).heap.size = w2.heap.size := by simp
      have hal := below_made (w2.setCell ⟨bv, ov + q, none⟩ (.int .u8 z)) (.cells #[.int .u8 z] 5)
      have hr4 := row_one (w2.setCell ⟨bv, ov + q, none⟩ (.int .u8 z)) z 5 hz0' hz1'
      rw [hsz3] at hr4
      have HW := Lib.hid (refWrite_any vr _ l [z] g r ((p + q : Nat) : Int) _ (HR3.out.below hal) hr4 (by simp))
      have hwr : wriA l ((p + q : Nat) : Int) [z] = (l.set (p + q) z, 0) := by
        rw [wriA, if_pos (by have := HPY.out; exact fitB_of (x := p + q) (y := 1) (by omega)), Int.toNat_natCast, wrL_one _ _ _ (by have := HPY.out; omega)]
      rw [hwr] at HW
      have HWq : Hid (∀ i : Int, i = ((p + q : Nat) : Int) → Calls Try.prog 27 #[vr, .int .i64 i, .slice (some ⟨w2.heap.size, 0, none⟩) 1 1] ((w2.setCell ⟨bv, ov + q, none⟩ (.int .u8 z)).alloc (.cells #[.int .u8 z] 5)) (WroteA ((w2.setCell ⟨bv, ov + q, none⟩ (.int .u8 z)).alloc (.cells #[.int .u8 z] 5)) vr g r (l.set (p + q) z, 0))) := by
        rintro _ rfl
        exact HW.out
      clear HW
      have HFin : Hid (∀ e w', WroteA ((w2.setCell ⟨bv, ov + q, none⟩ (.int .u8 z)).alloc (.cells #[.int .u8 z] 5)) vr g r (l.set (p + q) z, 0) e w' → Two blk Ar wB.heap.size w' va vr (l.set (p + q) z) ∧ Below wB.heap.size wB w') := by
        rintro e w' ⟨-, r', hr', hrr, hfr⟩
        have hA4 := HD.out.stay _ _ _ _ _ _ (fun _ => False) HA3.out (Fr.of_below hal) (fun k hk => ⟨HD.out.lt _ _ _ _ HA3.out k hk, fun h => h⟩)
        have hA5 := HD.out.stay _ _ _ _ _ _ _ hA4 hfr (fun k hk => ⟨HD.out.lt _ _ _ _ hA4 k hk, fun e => HM.out.1 (e ▸ hk)⟩)
        have hs := hal.size
        refine ⟨⟨h, g, r', hA5, hr', HM.out.1, ?_, HM.out.2.2.2, HM2.out.2.2.1, ?_⟩, (HB3.out.trans (hal.mono (below_le HB3.out rfl))).trans (hfr.toBelow (by have := below_le HB3.out rfl; omega) (fun k hk hh => by have := HM2.out.2.2.1; omega))⟩
        · rcases hrr with rfl | hrr
          · exact HM.out.2.1
          · intro hh; have := HD.out.lt _ _ _ _ hA4 _ hh; omega
        · rcases hrr with rfl | hrr
          · exact HM2.out.2.2.2
          · have := below_le HB3.out rfl; omega
      obtain ⟨f0, f1, f2, f3, f4, f5, f6⟩ := HX3.out.cells
      obtain ⟨g0, g1, g2, g3, g4, g5, g6⟩ := (HX3.out.below hal).cells
      clear hz hq hst hst2 hw hlt2 hne1 hne2 hf0 hal hr4 hwr
      go_wp2_with fail

      refine (HWq.out _ HI4.out).mono ?_
      intro e w5 hw5
      have HE := Lib.hid (HFin.out e w5 hw5)
      obtain ⟨rfl, -⟩ := hw5
      go_wp2
      go_ret
      exact ⟨rfl, by first | (rw [HFn.out]; exact HE.out.1) | (rw [HFn2.out]; exact HE.out.1), HE.out.2⟩
  · have hf' : fitB l.length a n = false := by simpa using hf
    have hre : reaA l a n = ([], 6) := by rw [reaA, if_neg hf]
    rw [hre] at HRd
    simp only [hf', Bool.false_eq_true, false_and, if_false] at HVw ⊢
    clear hre hf hf'
    go_enter Try.func11, Try.ntmps11
    go_wp2_with fail
    refine HVw.out.mono ?_
    rintro e w1 ⟨hb1, hv⟩
    simp only [false_or, true_and] at hv
    subst hv
    have HT1 := Lib.hid (HT0.out.below HD.out hb1)
    have HR1 := Lib.hid (HR0.out.below hb1)
    have HB1 := Lib.hid (HB0.out.trans (hb1.mono (below_le HB0.out rfl)))
    obtain ⟨c0, c1, c2, c3, c4, c5, c6⟩ := (HX.out.below hb1).cells
    clear hb1 HVw
    go_wp2_with fail
    refine (HRd.out _ HR1.out).mono ?_
    rintro e w2 ⟨u2, rfl, hb2, hr2⟩
    have hk1 := conv_row (Row.nil .u8 w2)
    have hk2 := conv_row hr2
    obtain ⟨S, hS⟩ : ∃ S, S = strOfNums [] := ⟨_, rfl⟩
    rw [← hS] at hk1 hk2
    have hSS : (S.toList == S.toList) = true := by simp
    have HT2 := Lib.hid (HT1.out.below HD.out hb2)
    have HB2 := Lib.hid (HB1.out.trans (hb2.mono (below_le HB1.out rfl)))
    obtain ⟨a2, k2, rfl, -, -, -, -⟩ := hr2
    rw [List.length_nil] at hk2
    clear hb2 hS HRd
    go_wp2
    go_ret
    exact ⟨rfl, HT2.out, HB2.out⟩
end Go.Proofs.Ytncbfagmdldclaa.Arn
