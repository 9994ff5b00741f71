/- names; the walks of the statements NameParses, NameTexts, NameShares. -/
import Derived.Test.YthnlcfnfbilbdaaDoorNameF
namespace Go.Proofs.YthnlcfnfbilbdaaDoor.Name
open Go.RowKit Fold
set_option linter.unusedVariables false

theorem dec_self {α : Type} [DecidableEq α] (a : α) : decide (a = a) = true := by simp
theorem made2 (w : World) (x y : ByteArray) (hx : x.size ≤ 9223372036854775807) (hy : y.size ≤ 9223372036854775807) : SRow (w.alloc (.cells #[.string x, .string y] 9)) (.slice (some ⟨w.heap.size, 0, none⟩) 2 2) [x, y] :=
  SRow.made w [x, y] 9 _ rfl (fun i hi => by
    match i, hi with
    | 0, _ => exact hx
    | 1, _ => exact hy) (by simp)
theorem made1 (w : World) (x : ByteArray) (hx : x.size ≤ 9223372036854775807) : SRow (w.alloc (.cells #[.string x] 9)) (.slice (some ⟨w.heap.size, 0, none⟩) 1 1) [x] :=
  SRow.made w [x] 9 _ rfl (fun i hi => by
    match i, hi with
    | 0, _ => exact hx) (by simp)

theorem ex1 : pch ⟨#[87, 87, 87, 46, 97, 46]⟩ = 0 ∧ plb ⟨#[87, 87, 87, 46, 97, 46]⟩ = [⟨#[119, 119, 119]⟩, ⟨#[97]⟩] := ⟨by kernel_rfl, by kernel_rfl⟩
theorem ex2 : pch ⟨#[97, 46, 46, 98]⟩ = 20 := by kernel_rfl
theorem ex3 : pch ⟨#[46]⟩ = 0 ∧ plb ⟨#[46]⟩ = [] := ⟨by kernel_rfl, by kernel_rfl⟩
theorem ex4 : txt [] = ⟨#[46]⟩ ∧ chk [] = 0 := ⟨rfl, by kernel_rfl⟩
theorem ex5 : decide (([⟨#[119, 119, 119]⟩, ⟨#[97]⟩] : List ByteArray) = [⟨#[119, 119, 119]⟩, ⟨#[97]⟩]) = true := by simp
theorem ex6 : wire [⟨#[119, 119, 119]⟩, ⟨#[97]⟩] = 7 := by kernel_rfl
theorem ex7 : shr [⟨#[119, 119, 119]⟩, ⟨#[97]⟩] [⟨#[98]⟩, ⟨#[65]⟩] = 1 := by kernel_rfl
theorem ex8 : decide (shr [⟨#[119, 119, 119]⟩, ⟨#[97]⟩] [⟨#[97]⟩] = ([⟨#[97]⟩] : List ByteArray).length) = true := by kernel_rfl
theorem dot_str : ((⟨#[46]⟩ : ByteArray).toList == [46]) = true := by rw [ByteArray.toList_eq]; rfl

set_option maxRecDepth 100000 in
set_option maxHeartbeats 2000000 in
theorem names_any (w : World) (hm : Shp w) :
    Calls Tryd.prog 7 #[] w fun e w' => e = .returned (.bool true) ∧ Below w.heap.size w w' := by
  have HX := Lib.hid hm
  clear hm
  go_enter Tryd.func7, Tryd.ntmps7
  go_wp2_with fail
  refine (parse_any _ _ (by decide) HX.out).mono ?_
  rintro e w1 ⟨u1, he, hb1, hr1⟩
  rw [ex1.1] at he
  rw [ex1.2] at hr1
  subst he
  have HR1 := Lib.hid hr1
  have HX1 := Lib.hid (HX.out.mono hb1 (Nat.le_refl _))
  clear hr1 HX
  go_wp2_with fail
  refine (parse_any _ _ (by decide) HX1.out).mono ?_
  rintro e w2 ⟨u2, he, hb2, -⟩
  rw [ex2] at he
  subst he
  have HX2 := Lib.hid (HX1.out.mono hb2 (Nat.le_refl _))
  have HR2 := Lib.hid (HR1.out.mono hb2 (Nat.le_refl _))
  have hb2' := hb1.trans (hb2.mono hb1.size)
  clear HX1 HR1 hb1 hb2
  go_wp2_with fail
  refine (parse_any _ _ (by decide) HX2.out).mono ?_
  rintro e w3 ⟨u3, he, hb3, hr3⟩
  rw [ex3.1] at he
  rw [ex3.2] at hr3
  subst he
  obtain ⟨ad3, cap3, rfl, -, -, -, -⟩ := hr3
  have HR3 := Lib.hid (HR2.out.mono hb3 (Nat.le_refl _))
  have hb3' := hb2'.trans (hb3.mono hb2'.size)
  clear HX2 HR2 hb3 hb2'
  go_wp2_with fail
  refine (text_any (.slice none 0 0) [] _ (SRow.nil _) (by decide)).mono ?_
  rintro e w4 ⟨he, hb4⟩
  rw [ex4.1, ex4.2] at he
  subst he
  have HR4 := Lib.hid (HR3.out.mono hb4 (Nat.le_refl _))
  have hb4' := hb3'.trans (hb4.mono hb3'.size)
  clear HR3 hb4 hb3'
  have hdot := dot_str
  go_wp2_with fail
  have M1 := made2 w4 ⟨#[119, 119, 119]⟩ ⟨#[97]⟩ (by decide) (by decide)
  have B1 := below_made w4 (.cells #[.string ⟨#[119, 119, 119]⟩, .string ⟨#[97]⟩] 9)
  refine (sameL_any _ _ _ _ _ (HR4.out.mono B1 (Nat.le_refl _)) M1).mono ?_
  rintro e w5 ⟨he, hm5⟩
  rw [ex5] at he
  subst he
  have hb5 := below_drawn B1 hm5
  have HR5 := Lib.hid (HR4.out.mono hb5 (Nat.le_refl _))
  have hb5' := hb4'.trans (hb5.mono hb4'.size)
  clear HR4 hb5 hb4' M1 B1 hm5
  go_wp2_with fail
  refine (wire_any _ _ _ HR5.out (by rw [ex6]; decide)).mono ?_
  rintro e w6 ⟨he, rfl⟩
  rw [ex6] at he
  subst he
  go_wp2_with fail
  have M2 := made2 w5 ⟨#[98]⟩ ⟨#[65]⟩ (by decide) (by decide)
  have B2 := below_made w5 (.cells #[.string ⟨#[98]⟩, .string ⟨#[65]⟩] 9)
  refine (shared_any _ _ _ _ _ (HR5.out.mono B2 (Nat.le_refl _)) M2).mono ?_
  rintro e w7 ⟨he, hm7⟩
  rw [ex7] at he
  subst he
  have hb7 := below_drawn B2 hm7
  have HR7 := Lib.hid (HR5.out.mono hb7 (Nat.le_refl _))
  have hb7' := hb5'.trans (hb7.mono hb5'.size)
  clear HR5 hb7 hb5' M2 B2 hm7
  go_wp2_with fail
  have M3 := made1 w7 ⟨#[97]⟩ (by decide)
  have B3 := below_made w7 (.cells #[.string ⟨#[97]⟩] 9)
  refine (below_any _ _ _ _ _ (HR7.out.mono B3 (Nat.le_refl _)) M3).mono ?_
  rintro e w8 ⟨he, hm8⟩
  rw [ex8] at he
  subst he
  have hb8 := hb7'.trans ((below_drawn B3 hm8).mono hb7'.size)
  clear HR7 hb7' M3 B3 hm8
  go_wp2
  go_ret
  exact ⟨rfl, hb8⟩

theorem nameParses_walk (s : ByteArray) (w : World) (hm : Shp w) :
    Calls Tryd.prog 3 #[.string s] w fun e w' => e = .returned (.bool true) ∧ Below w.heap.size w w' := by
  by_cases h : (3000 : Int) < s.size
  · go_enter Tryd.func3, Tryd.ntmps3
    go_wp2_with fail
    refine (names_any _ hm).mono ?_
    rintro e w1 ⟨rfl, hb⟩
    go_wp2
    go_ret
    exact ⟨rfl, hb⟩
  · have HX := Lib.hid hm
    have hs : s.size ≤ 3000 := by omega
    have HP := Lib.hid (fun u hu => parse_any s u (by omega) hu)
    have HR := Lib.hid (fun u => refParse_any s u hs)
    obtain ⟨c, hc⟩ : ∃ c, c = pch s := ⟨_, rfl⟩
    unfold Parsed at HP HR
    rw [← hc] at HP HR
    clear hm hc
    go_enter Tryd.func3, Tryd.ntmps3
    go_wp2_with fail
    refine (HP.out _ HX.out).mono ?_
    rintro e w1 ⟨u1, rfl, hb1, hr1⟩
    have HX1 := Lib.hid (HX.out.mono hb1 (Nat.le_refl _))
    have HR1 := Lib.hid hr1
    clear hr1
    go_wp2_with fail
    refine (HR.out _).mono ?_
    rintro e w2 ⟨u2, rfl, hb2, hr2⟩
    have HX2 := Lib.hid (HX1.out.mono hb2 (Nat.le_refl _))
    have HR2 := Lib.hid (HR1.out.mono hb2 (Nat.le_refl _))
    have HR3 := Lib.hid hr2
    have hb2' := hb1.trans (hb2.mono hb1.size)
    clear hr2 hb1 hb2 HR1 HX1
    go_wp2_with fail
    refine (sameL_any _ _ _ _ _ HR2.out HR3.out).mono ?_
    rintro e w3 ⟨he, hm3⟩
    rw [dec_self] at he
    subst he
    have hb3 := below_drawn (Below.refl w2.heap.size w2) hm3
    have HX3 := Lib.hid (HX2.out.mono hb3 (Nat.le_refl _))
    have hb3' := hb2'.trans (hb3.mono hb2'.size)
    clear hm3 hb3 hb2'
    go_wp2_with fail
    refine (names_any _ HX3.out).mono ?_
    rintro e w4 ⟨rfl, hb4⟩
    go_wp2
    go_ret
    exact ⟨rfl, hb3'.trans (hb4.mono hb3'.size)⟩

set_option maxHeartbeats 1000000 in
theorem nameTexts_walk (v : Value) (l : List ByteArray) (w : World) (hm : Shp w) (hr : SRow w v l) :
    Calls Tryd.prog 4 #[v] w fun e w' => e = .returned (.bool true) ∧ Below w.heap.size w w' := by
  have HX := Lib.hid hm
  have HR := Lib.hid hr
  have HF := Lib.hid (few_any v l w hr)
  clear hm hr
  by_cases hf : few l = true
  · obtain ⟨f1, f2⟩ := few_out hf
    rw [hf] at HF
    have HT := Lib.hid (fun u hu => text_any v l u hu (by omega))
    have HT2 := Lib.hid (fun u hu => refText_any v l u hu (by omega))
    have HC := Lib.hid (fun u hu => check_any v l u hu (by omega))
    have HC2 := Lib.hid (fun u hu => refCheck_any v l u hu (by omega))
    have HW := Lib.hid (fun u hu => wire_any v l u hu (by omega))
    have HW2 := Lib.hid (fun u hu => refWire_any v l u hu (by omega))
    obtain ⟨T, hT⟩ : ∃ T, T = txt l := ⟨_, rfl⟩
    obtain ⟨c, hc⟩ : ∃ c, c = chk l := ⟨_, rfl⟩
    obtain ⟨n, hn⟩ : ∃ n, n = wire l := ⟨_, rfl⟩
    rw [← hT, ← hc] at HT HT2
    rw [← hc] at HC HC2
    rw [← hn] at HW HW2
    clear f1 f2 hf hT hc hn
    have hTT : (T.toList == T.toList) = true := by simp
    go_enter Tryd.func4, Tryd.ntmps4
    go_wp2_with fail
    refine HF.out.mono ?_
    rintro e w1 ⟨rfl, rfl⟩
    go_wp2_with fail
    refine (HT.out _ HR.out).mono ?_
    rintro e w2 ⟨rfl, hb2⟩
    have HR2 := Lib.hid (HR.out.mono hb2 (Nat.le_refl _))
    have HX2 := Lib.hid (HX.out.mono hb2 (Nat.le_refl _))
    go_wp2_with fail
    refine (HT2.out _ HR2.out).mono ?_
    rintro e w3 ⟨rfl, rfl⟩
    go_wp2_with fail
    refine (HC.out _ HR2.out).mono ?_
    rintro e w4 ⟨rfl, hb4⟩
    have HR4 := Lib.hid (HR2.out.mono hb4 (Nat.le_refl _))
    have HX4 := Lib.hid (HX2.out.mono hb4 (Nat.le_refl _))
    have hb4' := hb2.trans (hb4.mono hb2.size)
    clear hb2 hb4
    go_wp2_with fail
    refine (HC2.out _ HR4.out).mono ?_
    rintro e w5 ⟨rfl, rfl⟩
    go_wp2_with fail
    refine (HW.out _ HR4.out).mono ?_
    rintro e w5 ⟨rfl, rfl⟩
    go_wp2_with fail
    refine (HW2.out _ HR4.out).mono ?_
    rintro e w5 ⟨rfl, rfl⟩
    go_wp2_with fail
    refine (names_any _ HX4.out).mono ?_
    rintro e w4 ⟨rfl, hb5⟩
    go_wp2
    go_ret
    exact ⟨rfl, hb4'.trans (hb5.mono hb4'.size)⟩
  · have hf2 : few l = false := by simpa using hf
    rw [hf2] at HF
    clear hf hf2
    go_enter Tryd.func4, Tryd.ntmps4
    go_wp2_with fail
    refine HF.out.mono ?_
    rintro e w1 ⟨rfl, rfl⟩
    go_wp2_with fail
    refine (names_any _ HX.out).mono ?_
    rintro e w4 ⟨rfl, hb5⟩
    go_wp2
    go_ret
    exact ⟨rfl, hb5⟩

theorem few_sizes {l : List ByteArray} (h : few l = true) : ∀ i, i < l.length → (l.getD i ByteArray.empty).size ≤ 3000 := by
  intro i hi
  simp only [few, Bool.and_eq_true, decide_eq_true_eq] at h
  have h1 := wire_take_succ l i hi
  have h2 := wire_append (l.take (i + 1)) (l.drop (i + 1))
  rw [List.take_append_drop] at h2
  have h3 := wire_len (l.take i)
  have h4 := wire_len (l.drop (i + 1))
  rw [List.length_take] at h3
  rw [List.length_drop] at h4
  omega

set_option maxHeartbeats 1000000 in
theorem nameShares_walk (v1 v2 : Value) (a b : List ByteArray) (w : World) (hm : Shp w) (hr1 : SRow w v1 a) (hr2 : SRow w v2 b) :
    Calls Tryd.prog 5 #[v1, v2] w fun e w' => e = .returned (.bool true) ∧ Below w.heap.size w w' := by
  have HX := Lib.hid hm
  have HA := Lib.hid hr1
  have HB := Lib.hid hr2
  have HF1 := Lib.hid (few_any v1 a w hr1)
  have HF2 := Lib.hid (few_any v2 b w hr2)
  clear hm hr1
  by_cases hf1 : few a = true
  · by_cases hf2 : few b = true
    · obtain ⟨f1, f2⟩ := few_out hf1
      obtain ⟨f3, f4⟩ := few_out hf2
      rw [hf1] at HF1
      rw [hf2] at HF2
      have HS := Lib.hid (fun u h1 h2 => refShared_any v1 v2 a b u h1 h2 (few_sizes hf1) (few_sizes hf2) (by omega) (by omega))
      have HS1 := Lib.hid (fun u h1 h2 => shared_any v1 v2 a b u h1 h2)
      have HS2 := Lib.hid (fun u h1 h2 => shared_any v2 v1 b a u h1 h2)
      have HL := Lib.hid (fun u h1 h2 => below_any v1 v2 a b u h1 h2)
      rw [shr_comm b a] at HS2
      obtain ⟨ad2, cap2, rfl, -, -, -, -⟩ := hr2
      obtain ⟨n, hn⟩ : ∃ n, n = shr a b := ⟨_, rfl⟩
      rw [← hn] at HS HS1 HS2 HL
      have hdd : ((decide (n = b.length)) == ((n : Int) == (b.length : Int))) = true := by
        by_cases h : n = b.length
        · simp [h]
        · have : ((n : Int) == (b.length : Int)) = false := by rw [beq_eq_false_iff_ne]; omega
          simp [h]
          omega
      clear f1 f2 f3 f4 hf1 hf2 hn
      go_enter Tryd.func5, Tryd.ntmps5
      go_wp2_with fail
      refine HF1.out.mono ?_
      rintro e w1 ⟨rfl, rfl⟩
      go_wp2_with fail
      refine HF2.out.mono ?_
      rintro e w1 ⟨rfl, rfl⟩
      go_wp2_with fail
      refine (HS.out _ HA.out HB.out).mono ?_
      rintro e w2 ⟨rfl, hb2⟩
      have HA2 := Lib.hid (HA.out.mono hb2 (Nat.le_refl _))
      have HB2 := Lib.hid (HB.out.mono hb2 (Nat.le_refl _))
      have HX2 := Lib.hid (HX.out.mono hb2 (Nat.le_refl _))
      clear HX
      go_wp2_with fail
      refine (HS1.out _ HA2.out HB2.out).mono ?_
      rintro e w3 ⟨rfl, hm3⟩
      have hb3 := below_drawn (Below.refl w2.heap.size w2) hm3
      have HA3 := Lib.hid (HA2.out.mono hb3 (Nat.le_refl _))
      have HB3 := Lib.hid (HB2.out.mono hb3 (Nat.le_refl _))
      have HX3 := Lib.hid (HX2.out.mono hb3 (Nat.le_refl _))
      have hb3' := hb2.trans (hb3.mono hb2.size)
      clear hm3 hb3 hb2 HA2 HB2 HX2
      go_wp2_with fail
      refine (HS2.out _ HB3.out HA3.out).mono ?_
      rintro e w4 ⟨rfl, hm4⟩
      have hb4 := below_drawn (Below.refl w3.heap.size w3) hm4
      have HA4 := Lib.hid (HA3.out.mono hb4 (Nat.le_refl _))
      have HB4 := Lib.hid (HB3.out.mono hb4 (Nat.le_refl _))
      have HX4 := Lib.hid (HX3.out.mono hb4 (Nat.le_refl _))
      have hb4' := hb3'.trans (hb4.mono hb3'.size)
      clear hm4 hb4 hb3' HA3 HB3 HX3
      go_wp2_with fail
      refine (HL.out _ HA4.out HB4.out).mono ?_
      rintro e w5 ⟨rfl, hm5⟩
      have hb5 := below_drawn (Below.refl w4.heap.size w4) hm5
      have HX5 := Lib.hid (HX4.out.mono hb5 (Nat.le_refl _))
      have hb5' := hb4'.trans (hb5.mono hb4'.size)
      clear hm5 hb5 hb4' HX4
      go_wp2_with fail
      refine (names_any _ HX5.out).mono ?_
      rintro e w6 ⟨rfl, hb6⟩
      go_wp2
      go_ret
      exact ⟨rfl, hb5'.trans (hb6.mono hb5'.size)⟩
    · have hf3 : few b = false := by simpa using hf2
      rw [hf1] at HF1
      rw [hf3] at HF2
      clear hf1 hf2 hf3 hr2
      go_enter Tryd.func5, Tryd.ntmps5
      go_wp2_with fail
      refine HF1.out.mono ?_
      rintro e w1 ⟨rfl, rfl⟩
      go_wp2_with fail
      refine HF2.out.mono ?_
      rintro e w1 ⟨rfl, rfl⟩
      go_wp2_with fail
      refine (names_any _ HX.out).mono ?_
      rintro e w4 ⟨rfl, hb5⟩
      go_wp2
      go_ret
      exact ⟨rfl, hb5⟩
  · have hf2 : few a = false := by simpa using hf1
    rw [hf2] at HF1
    clear hf1 hf2 hr2
    go_enter Tryd.func5, Tryd.ntmps5
    go_wp2_with fail
    refine HF1.out.mono ?_
    rintro e w1 ⟨rfl, rfl⟩
    go_wp2_with fail
    refine (names_any _ HX.out).mono ?_
    rintro e w4 ⟨rfl, hb5⟩
    go_wp2
    go_ret
    exact ⟨rfl, hb5⟩
end Go.Proofs.YthnlcfnfbilbdaaDoor.Name
