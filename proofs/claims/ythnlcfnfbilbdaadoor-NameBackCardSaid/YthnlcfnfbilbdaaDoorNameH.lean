/- The walk of the statement NameBack. -/
import Derived.Test.YthnlcfnfbilbdaaDoorNameG
namespace Go.Proofs.YthnlcfnfbilbdaaDoor.Name
open Go.RowKit Fold
set_option linter.unusedVariables false

theorem back1 (s : ByteArray) (h : pch s = 0) : chk (plb s) = 0 ∧ pch (txt (plb s)) = 0 ∧ plb (txt (plb s)) = plb s ∧ (txt (plb s)).size ≤ s.size ∧ wire (plb s) ≤ 255 := by
  by_cases hd : s = dotB
  · subst hd
    exact ⟨by kernel_rfl, by kernel_rfl, by kernel_rfl, by decide, by decide⟩
  · have hp : pch s = chk (prs s) := by rw [pch, if_neg hd]
    rw [hp] at h
    have hl : plb s = prs s := by rw [plb, if_neg hd, if_pos h]
    obtain ⟨ha, hw⟩ := chk_zero h
    obtain ⟨h1, h2⟩ := prs_tx (prs s) (prs_ne s) ha
    rw [prs_small] at h1
    rw [hl, txt_yes h (prs_ne s)]
    exact ⟨h, by rw [pch, if_neg h2, h1, h], by rw [plb, if_neg h2, h1, if_pos h], prs_tx_size s, hw⟩
theorem back2 (l : List ByteArray) (h : chk l = 0) : pch (txt l) = 0 ∧ (plb (txt l)).length = l.length ∧ shr (plb (txt l)) l = l.length ∧ (txt l).size ≤ 1000 := by
  by_cases hn : l = []
  · subst hn
    exact ⟨by kernel_rfl, by kernel_rfl, by kernel_rfl, by decide⟩
  · obtain ⟨ha, hw⟩ := chk_zero h
    obtain ⟨h1, h2⟩ := prs_tx l hn ha
    have hc : chk (prs (tx l)) = 0 := by rw [h1, chk_low, h]
    have hp : plb (tx l) = l.map lowS := by rw [plb, if_neg h2, if_pos hc, h1]
    have hs := tx_size l hn
    rw [txt_yes h hn]
    exact ⟨by rw [pch, if_neg h2, hc], by rw [hp, List.length_map], by rw [hp, sh_all], by omega⟩

set_option maxHeartbeats 4000000 in
set_option maxRecDepth 100000 in
theorem nameBack_in (s : ByteArray) (v : Value) (l : List ByteArray) (w : World) (hm : Shp w) (hr : SRow w v l) (hs : s.size ≤ 3000) (hf : few l = true) :
    Calls Tryd.prog 6 #[.string s, v] w fun e w' => e = .returned (.bool true) ∧ Below w.heap.size w w' := by
  have HX0 := Lib.hid hm
  have HR0 := Lib.hid hr
  have HF := Lib.hid (few_any v l w hr)
  rw [hf] at HF
  obtain ⟨f1, f2⟩ := few_out hf
  have HP := Lib.hid (fun u hu => parse_any s u (by omega) hu)
  have HT := Lib.hid (fun u hu => text_any v l u hu (by omega))
  have HC := Lib.hid (fun u hu => check_any v l u hu (by omega))
  have hs0 : ¬ (3000 : Int) < s.size := by omega
  have B1 := Lib.hid (back1 s)
  have B2 := Lib.hid (back2 l)
  have E2 := Lib.hid (fun h => txt_no (l := l) h)
  obtain ⟨ad, cap, rfl, -, -, -, -⟩ := hr
  clear hm hf f1 f2
  by_cases hp : pch s = 0
  · obtain ⟨b1, b2, b3, b4, b5⟩ := B1.out hp
    have HT1 := Lib.hid (fun u x hu => text_any u (plb s) x hu (by omega))
    have HP1 := Lib.hid (fun u hu => parse_any (txt (plb s)) u (by omega) hu)
    have HW1 := Lib.hid (fun u x hu => wire_any u (plb s) x hu (by omega))
    unfold Parsed at HP HP1
    rw [hp] at HP
    rw [b1] at HT1
    rw [b2, b3] at HP1
    have b6 : ¬ (s.size : Int) < ((txt (plb s)).size : Int) := by omega
    have b7 : ¬ (255 : Int) < (wire (plb s) : Int) := by omega
    obtain ⟨T, hT⟩ : ∃ T, T = txt (plb s) := ⟨_, rfl⟩
    obtain ⟨L, hL⟩ : ∃ L, L = plb s := ⟨_, rfl⟩
    rw [← hL] at HP HW1 HP1 HT1 hT b7 b6
    rw [← hT] at HT1 HP1 b6
    obtain ⟨n, hn⟩ : ∃ n, n = wire L := ⟨_, rfl⟩
    rw [← hn] at HW1 b7
    clear B1 b1 b2 b3 b4 b5 hT hL hn hp
    by_cases hc : chk l = 0
    · obtain ⟨c1, c2, c3, c4⟩ := B2.out hc
      have HP2 := Lib.hid (fun u hu => parse_any (txt l) u (by omega) hu)
      have HS2 := Lib.hid (fun x1 x2 u h1 h2 => shared_any x1 x2 (plb (txt l)) l u h1 h2)
      unfold Parsed at HP2
      rw [hc] at HT
      rw [c1] at HP2
      rw [c3] at HS2
      obtain ⟨M, hM⟩ : ∃ M, M = plb (txt l) := ⟨_, rfl⟩
      rw [← hM] at HP2 HS2 c2
      obtain ⟨Z, hZ⟩ : ∃ Z, Z = txt l := ⟨_, rfl⟩
      rw [← hZ] at HP2 HT
      clear B2 E2 hc c1 c3 c4 hM hZ HC
      go_enter Tryd.func6, Tryd.ntmps6
      go_wp2_with fail
      refine HF.out.mono ?_
      rintro e w1 ⟨rfl, rfl⟩
      go_wp2_with fail
      refine (HP.out _ HX0.out).mono ?_
      rintro e wa ⟨u1, rfl, hba, hra⟩
      have HX1 := Lib.hid (HX0.out.mono hba (Nat.le_refl _))
      have HR1 := Lib.hid (HR0.out.mono hba (Nat.le_refl _))
      have HA1 := Lib.hid hra
      clear hra HX0 HR0
      go_wp2_with fail
      refine (HT1.out _ _ HA1.out).mono ?_
      rintro e wb ⟨rfl, hbb⟩
      have HX2 := Lib.hid (HX1.out.mono hbb (Nat.le_refl _))
      have HR2 := Lib.hid (HR1.out.mono hbb (Nat.le_refl _))
      have HA2 := Lib.hid (HA1.out.mono hbb (Nat.le_refl _))
      have hbb' := hba.trans (hbb.mono hba.size)
      clear HX1 HR1 HA1 hba hbb
      go_wp2_with fail
      refine (HP1.out _ HX2.out).mono ?_
      rintro e wc ⟨u2, rfl, hbc, hrc⟩
      have HX3 := Lib.hid (HX2.out.mono hbc (Nat.le_refl _))
      have HR3 := Lib.hid (HR2.out.mono hbc (Nat.le_refl _))
      have HA3 := Lib.hid (HA2.out.mono hbc (Nat.le_refl _))
      have HB3 := Lib.hid hrc
      have hbc' := hbb'.trans (hbc.mono hbb'.size)
      clear HX2 HR2 HA2 hbb' hbc hrc
      go_wp2_with fail
      refine (sameL_any _ _ _ _ _ HA3.out HB3.out).mono ?_
      rintro e wd ⟨he, hmd⟩
      rw [dec_self] at he
      subst he
      have hbd := below_drawn (Below.refl wc.heap.size wc) hmd
      have HX4 := Lib.hid (HX3.out.mono hbd (Nat.le_refl _))
      have HR4 := Lib.hid (HR3.out.mono hbd (Nat.le_refl _))
      have HA4 := Lib.hid (HA3.out.mono hbd (Nat.le_refl _))
      have hbd' := hbc'.trans (hbd.mono hbc'.size)
      clear HX3 HR3 HA3 HB3 hbc' hbd hmd
      go_wp2_with fail
      refine (HW1.out _ _ HA4.out).mono ?_
      rintro e we ⟨rfl, rfl⟩
      go_wp2_with fail
      refine (HT.out _ HR4.out).mono ?_
      rintro e wf ⟨rfl, hbf⟩
      have HX5 := Lib.hid (HX4.out.mono hbf (Nat.le_refl _))
      have HR5 := Lib.hid (HR4.out.mono hbf (Nat.le_refl _))
      have hbf' := hbd'.trans (hbf.mono hbd'.size)
      clear HX4 HR4 hbd' hbf
      go_wp2_with fail
      refine (HP2.out _ HX5.out).mono ?_
      rintro e wg ⟨u3, rfl, hbg, hrg⟩
      have HX6 := Lib.hid (HX5.out.mono hbg (Nat.le_refl _))
      have HR6 := Lib.hid (HR5.out.mono hbg (Nat.le_refl _))
      have HA6 := Lib.hid hrg
      have hbg' := hbf'.trans (hbg.mono hbf'.size)
      obtain ⟨ad6, cap6, rfl, -, -, -, -⟩ := hrg
      rw [c2] at HA6 ⊢
      clear HX5 HR5 hbf' hbg
      go_wp2_with fail
      refine (HS2.out _ _ _ HA6.out HR6.out).mono ?_
      rintro e wh ⟨rfl, hmh⟩
      have hbh := below_drawn (Below.refl wg.heap.size wg) hmh
      have HX7 := Lib.hid (HX6.out.mono hbh (Nat.le_refl _))
      have hbh' := hbg'.trans (hbh.mono hbg'.size)
      clear hmh hbh hbg' HX6
      go_wp2_with fail
      refine (names_any _ HX7.out).mono ?_
      rintro e wi ⟨rfl, hbi⟩
      go_wp2
      go_ret
      exact ⟨rfl, hbh'.trans (hbi.mono hbh'.size)⟩
    · have hc1 : (chk l != 0) = true := by simpa using hc
      have he0 := E2.out hc
      rw [he0] at HT
      have hee : (ByteArray.empty.toList == []) = true := by rw [ByteArray.toList_eq]; rfl
      obtain ⟨c, hcc⟩ : ∃ c, c = chk l := ⟨_, rfl⟩
      rw [← hcc] at HT HC hc1
      clear B2 E2 hc he0 hcc
      go_enter Tryd.func6, Tryd.ntmps6
      go_wp2_with fail
      refine HF.out.mono ?_
      rintro e w1 ⟨rfl, rfl⟩
      go_wp2_with fail
      refine (HP.out _ HX0.out).mono ?_
      rintro e wa ⟨u1, rfl, hba, hra⟩
      have HX1 := Lib.hid (HX0.out.mono hba (Nat.le_refl _))
      have HR1 := Lib.hid (HR0.out.mono hba (Nat.le_refl _))
      have HA1 := Lib.hid hra
      clear hra HX0 HR0
      go_wp2_with fail
      refine (HT1.out _ _ HA1.out).mono ?_
      rintro e wb ⟨rfl, hbb⟩
      have HX2 := Lib.hid (HX1.out.mono hbb (Nat.le_refl _))
      have HR2 := Lib.hid (HR1.out.mono hbb (Nat.le_refl _))
      have HA2 := Lib.hid (HA1.out.mono hbb (Nat.le_refl _))
      have hbb' := hba.trans (hbb.mono hba.size)
      clear HX1 HR1 HA1 hba hbb
      go_wp2_with fail
      refine (HP1.out _ HX2.out).mono ?_
      rintro e wc ⟨u2, rfl, hbc, hrc⟩
      have HX3 := Lib.hid (HX2.out.mono hbc (Nat.le_refl _))
      have HR3 := Lib.hid (HR2.out.mono hbc (Nat.le_refl _))
      have HA3 := Lib.hid (HA2.out.mono hbc (Nat.le_refl _))
      have HB3 := Lib.hid hrc
      have hbc' := hbb'.trans (hbc.mono hbb'.size)
      clear HX2 HR2 HA2 hbb' hbc hrc
      go_wp2_with fail
      refine (sameL_any _ _ _ _ _ HA3.out HB3.out).mono ?_
      rintro e wd ⟨he, hmd⟩
      rw [dec_self] at he
      subst he
      have hbd := below_drawn (Below.refl wc.heap.size wc) hmd
      have HX4 := Lib.hid (HX3.out.mono hbd (Nat.le_refl _))
      have HR4 := Lib.hid (HR3.out.mono hbd (Nat.le_refl _))
      have HA4 := Lib.hid (HA3.out.mono hbd (Nat.le_refl _))
      have hbd' := hbc'.trans (hbd.mono hbc'.size)
      clear HX3 HR3 HA3 HB3 hbc' hbd hmd
      go_wp2_with fail
      refine (HW1.out _ _ HA4.out).mono ?_
      rintro e we ⟨rfl, rfl⟩
      go_wp2_with fail
      refine (HT.out _ HR4.out).mono ?_
      rintro e wf ⟨rfl, hbf⟩
      have HX5 := Lib.hid (HX4.out.mono hbf (Nat.le_refl _))
      have HR5 := Lib.hid (HR4.out.mono hbf (Nat.le_refl _))
      have hbf' := hbd'.trans (hbf.mono hbd'.size)
      clear HX4 HR4 hbd' hbf
      go_wp2_with fail
      refine (HC.out _ HR5.out).mono ?_
      rintro e wg ⟨rfl, hbg⟩
      have HX6 := Lib.hid (HX5.out.mono hbg (Nat.le_refl _))
      have hbg' := hbf'.trans (hbg.mono hbf'.size)
      clear HX5 HR5 hbf' hbg
      go_wp2_with fail
      refine (names_any _ HX6.out).mono ?_
      rintro e wi ⟨rfl, hbi⟩
      go_wp2
      go_ret
      exact ⟨rfl, hbg'.trans (hbi.mono hbg'.size)⟩
  · have hp1 : (pch s == 0) = false := by simpa using hp
    obtain ⟨m, hm⟩ : ∃ m, m = pch s := ⟨_, rfl⟩
    unfold Parsed at HP
    rw [← hm] at HP hp1
    clear B1 hp hm
    by_cases hc : chk l = 0
    · obtain ⟨c1, c2, c3, c4⟩ := B2.out hc
      have HP2 := Lib.hid (fun u hu => parse_any (txt l) u (by omega) hu)
      have HS2 := Lib.hid (fun x1 x2 u h1 h2 => shared_any x1 x2 (plb (txt l)) l u h1 h2)
      unfold Parsed at HP2
      rw [hc] at HT
      rw [c1] at HP2
      rw [c3] at HS2
      obtain ⟨M, hM⟩ : ∃ M, M = plb (txt l) := ⟨_, rfl⟩
      rw [← hM] at HP2 HS2 c2
      obtain ⟨Z, hZ⟩ : ∃ Z, Z = txt l := ⟨_, rfl⟩
      rw [← hZ] at HP2 HT
      clear B2 E2 hc c1 c3 c4 hM hZ HC
      go_enter Tryd.func6, Tryd.ntmps6
      go_wp2_with fail
      refine HF.out.mono ?_
      rintro e w1 ⟨rfl, rfl⟩
      go_wp2_with fail
      refine (HP.out _ HX0.out).mono ?_
      rintro e wa ⟨u1, rfl, hba, hra⟩
      have HX1 := Lib.hid (HX0.out.mono hba (Nat.le_refl _))
      have HR1 := Lib.hid (HR0.out.mono hba (Nat.le_refl _))
      obtain ⟨wd, hwd⟩ : ∃ wd, wd = wa := ⟨_, rfl⟩
      rw [← hwd] at HX1 HR1 hba ⊢
      have HX4 := Lib.hid HX1.out
      have HR4 := Lib.hid HR1.out
      have hbd' := hba
      clear hra HX0 HR0 HX1 HR1 hba hwd
      go_wp2_with fail
      refine (HT.out _ HR4.out).mono ?_
      rintro e wf ⟨rfl, hbf⟩
      have HX5 := Lib.hid (HX4.out.mono hbf (Nat.le_refl _))
      have HR5 := Lib.hid (HR4.out.mono hbf (Nat.le_refl _))
      have hbf' := hbd'.trans (hbf.mono hbd'.size)
      clear HX4 HR4 hbd' hbf
      go_wp2_with fail
      refine (HP2.out _ HX5.out).mono ?_
      rintro e wg ⟨u3, rfl, hbg, hrg⟩
      have HX6 := Lib.hid (HX5.out.mono hbg (Nat.le_refl _))
      have HR6 := Lib.hid (HR5.out.mono hbg (Nat.le_refl _))
      have HA6 := Lib.hid hrg
      have hbg' := hbf'.trans (hbg.mono hbf'.size)
      obtain ⟨ad6, cap6, rfl, -, -, -, -⟩ := hrg
      rw [c2] at HA6 ⊢
      clear HX5 HR5 hbf' hbg
      go_wp2_with fail
      refine (HS2.out _ _ _ HA6.out HR6.out).mono ?_
      rintro e wh ⟨rfl, hmh⟩
      have hbh := below_drawn (Below.refl wg.heap.size wg) hmh
      have HX7 := Lib.hid (HX6.out.mono hbh (Nat.le_refl _))
      have hbh' := hbg'.trans (hbh.mono hbg'.size)
      clear hmh hbh hbg' HX6
      go_wp2_with fail
      refine (names_any _ HX7.out).mono ?_
      rintro e wi ⟨rfl, hbi⟩
      go_wp2
      go_ret
      exact ⟨rfl, hbh'.trans (hbi.mono hbh'.size)⟩
    · have hc1 : (chk l != 0) = true := by simpa using hc
      have he0 := E2.out hc
      rw [he0] at HT
      have hee : (ByteArray.empty.toList == []) = true := by rw [ByteArray.toList_eq]; rfl
      obtain ⟨c, hcc⟩ : ∃ c, c = chk l := ⟨_, rfl⟩
      rw [← hcc] at HT HC hc1
      clear B2 E2 hc he0 hcc
      go_enter Tryd.func6, Tryd.ntmps6
      go_wp2_with fail
      refine HF.out.mono ?_
      rintro e w1 ⟨rfl, rfl⟩
      go_wp2_with fail
      refine (HP.out _ HX0.out).mono ?_
      rintro e wa ⟨u1, rfl, hba, hra⟩
      have HX1 := Lib.hid (HX0.out.mono hba (Nat.le_refl _))
      have HR1 := Lib.hid (HR0.out.mono hba (Nat.le_refl _))
      obtain ⟨wd, hwd⟩ : ∃ wd, wd = wa := ⟨_, rfl⟩
      rw [← hwd] at HX1 HR1 hba ⊢
      have HX4 := Lib.hid HX1.out
      have HR4 := Lib.hid HR1.out
      have hbd' := hba
      clear hra HX0 HR0 HX1 HR1 hba hwd
      go_wp2_with fail
      refine (HT.out _ HR4.out).mono ?_
      rintro e wf ⟨rfl, hbf⟩
      have HX5 := Lib.hid (HX4.out.mono hbf (Nat.le_refl _))
      have HR5 := Lib.hid (HR4.out.mono hbf (Nat.le_refl _))
      have hbf' := hbd'.trans (hbf.mono hbd'.size)
      clear HX4 HR4 hbd' hbf
      go_wp2_with fail
      refine (HC.out _ HR5.out).mono ?_
      rintro e wg ⟨rfl, hbg⟩
      have HX6 := Lib.hid (HX5.out.mono hbg (Nat.le_refl _))
      have hbg' := hbf'.trans (hbg.mono hbf'.size)
      clear HX5 HR5 hbf' hbg
      go_wp2_with fail
      refine (names_any _ HX6.out).mono ?_
      rintro e wi ⟨rfl, hbi⟩
      go_wp2
      go_ret
      exact ⟨rfl, hbg'.trans (hbi.mono hbg'.size)⟩

theorem nameBack_walk (s : ByteArray) (v : Value) (l : List ByteArray) (w : World) (hm : Shp w) (hr : SRow w v l) :
    Calls Tryd.prog 6 #[.string s, v] w fun e w' => e = .returned (.bool true) ∧ Below w.heap.size w w' := by
  by_cases hs : s.size ≤ 3000
  · by_cases hf : few l = true
    · exact nameBack_in s v l w hm hr hs hf
    · have hf2 : few l = false := by simpa using hf
      have hs0 : ¬ (3000 : Int) < s.size := by omega
      have HX := Lib.hid hm
      have HF := Lib.hid (few_any v l w hr)
      rw [hf2] at HF
      clear hm hf hf2 hr hs
      go_enter Tryd.func6, Tryd.ntmps6
      go_wp2_with fail
      refine HF.out.mono ?_
      rintro e w1 ⟨rfl, rfl⟩
      go_wp2_with fail
      refine (names_any _ HX.out).mono ?_
      rintro e w4 ⟨rfl, hb5⟩
      go_wp2
      go_ret
      exact ⟨rfl, hb5⟩
  · have hs0 : (3000 : Int) < s.size := by omega
    have HX := Lib.hid hm
    clear hm hr hs
    go_enter Tryd.func6, Tryd.ntmps6
    go_wp2_with fail
    refine (names_any _ HX.out).mono ?_
    rintro e w4 ⟨rfl, hb5⟩
    go_wp2
    go_ret
    exact ⟨rfl, hb5⟩
end Go.Proofs.YthnlcfnfbilbdaaDoor.Name
