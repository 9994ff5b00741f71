/- The statement ProbeBack. -/
import Derived.Test.YtjikikiconhlaaaProK
namespace Go.Proofs.Ytjikikiconhlaaa.Pro
open Go.RowKit
set_option linter.unusedVariables false

theorem wu_gt {T : List Cel} (h : ∀ i, i < T.length → wu (gt T i).1) : WU T := by
  intro c hc
  obtain ⟨i, hi, rfl⟩ := List.getElem_of_mem hc
  have := h i hi
  simpa [gt, List.getD, hi] using this
theorem ei_zero {T : List Cel} {c : Cel} (he : eI T c = 0) : ckC T c = 0 ∧ T.any (fun a => decide (a.1 = c.1)) = false ∧ T.any emC = true := by
  unfold eI at he
  split at he
  case isFalse hc => exact absurd he hc
  case isTrue hc =>
  split at he
  · cases he
  case isFalse ha =>
  split at he
  case isFalse => cases he
  case isTrue hem => exact ⟨hc, Bool.eq_false_iff.2 ha, hem⟩
theorem wu_ins {T : List Cel} {x : Int} {h : Nat} (he : eI T (x, (h : Int)) = 0) (hu : WU T) (hx : wu x) : WU (insT T (x, (h : Int)) h) := by
  refine wu_gt fun i hi => ?_
  rw [insT_length] at hi
  rw [ins_gt he i hi]
  unfold insf
  split
  · exact hx
  · split
    · exact hu.at (pv_lt hi)
    · exact hu.at hi
theorem back_facts {T : List Cel} {x y : Int} (he : eI T (x, y) = 0) (hu : WU T) (hx : wu x) : ∃ X, rI T (x, y) = X ∧ RC T = true ∧ RC X = true ∧ WU X ∧ X.length = T.length ∧ eD X (x, y) = 0 ∧ rD X (x, y) = T ∧ FiC T (x, y) = (0, false) ∧ 0 < T.length := by
  obtain ⟨h1, h2, h3⟩ := ei_zero he
  obtain ⟨h4, h5⟩ := ck_ok h1
  obtain ⟨h, rfl, hh⟩ := na_home h4
  obtain ⟨d1, d2⟩ := del_ins he
  refine ⟨insT T (x, (h : Int)) h, ?_, h5, rtf_rc (by rw [insT_length]; exact ins_rc he), wu_ins he hu hx, insT_length _ _ _, d1, d2, ?_, by omega⟩
  · unfold rI
    rw [if_pos he]
    simp
  · unfold FiC
    rw [if_pos h1]
    refine fi_none (by omega) (fun i hi q => ?_)
    rw [List.any_eq_false] at h2
    have := h2 (gt T i) (by simp [gt, List.getD, hi])
    simp [q] at this
set_option maxRecDepth 100000 in
set_option maxHeartbeats 1000000 in
theorem probeBack_walk (u : Value) (T : List Cel) (x y : Int) (w : World) (hr : CRow w u T) (hu : WU T) (hx : wu x) : Calls Try.prog 6 #[u, .int .u32 x, .int .i64 y] w fun e w' => e = .returned (.bool true) ∧ Below w.heap.size w w' := by
  have HPr := Lib.hid probes_any
  by_cases h80 : 80 < T.length
  · obtain ⟨a, c, rfl, -, -⟩ := hr.slice
    have hq : ((T.length : Int) > 80) := by omega
    clear hr
    go_enter Try.func6, Try.ntmps6
    go_wp2_with fail
    refine (HPr.out _).mono ?_
    rintro e w1 ⟨rfl, hb⟩
    go_wp2
    go_ret
    exact ⟨rfl, hb⟩
  · have HO := Lib.hid (own_any u T w hr (by omega))
    have HI := Lib.hid (fun v W (h : CRow W v T) => insert_any v T x y W h (by omega) hu)
    have hq : ¬ ((T.length : Int) > 80) := by omega
    obtain ⟨a, c, rfl, -, -⟩ := hr.slice
    clear hr
    by_cases he : eI T (x, y) = 0
    · obtain ⟨X, e1, e2, e3, e4, e5, e6, e7, e8, e9⟩ := back_facts he hu hx
      rw [e1, he] at HI
      have HT := Lib.hid (fun v W (h : CRow W v T) => right_any v T W h (by omega) hu)
      rw [e2] at HT
      have HX := Lib.hid (fun v W (h : CRow W v X) => right_any v X W h (by omega) e4)
      rw [e3] at HX
      have HD := Lib.hid (fun v W (h : CRow W v X) => delete_any v X x y W h (by omega) e4)
      rw [e6, e7] at HD
      have HF := Lib.hid (fun v W (h : CRow W v T) => Find_any v T x y W h (by omega) hu)
      rw [e8] at HF
      have HG := Lib.hid (fun v W (h : CRow W v T) => given_any v T W h (by omega))
      have HS := Lib.hid (fun v v' W (h : CRow W v T) (h' : CRow W v' T) => same_any v v' T T W h h' (by omega))
      rw [show decide (T = T) = true by simp] at HS
      clear he e1 e2 e3 e4 e5 e6 e7 e8 hu hx
      go_enter Try.func6, Try.ntmps6
      go_wp2_with fail
      refine HO.out.mono ?_
      rintro e w1 ⟨v, rfl, hv, hb1⟩
      have HV1 := Lib.hid hv
      have HB1 := Lib.hid hb1
      clear hv hb1
      go_wp2_with fail
      refine (HI.out _ _ HV1.out).mono ?_
      rintro e w2 ⟨vx, rfl, hb2, hvx⟩
      have HB2 := Lib.hid (HB1.out.trans (hb2.mono HB1.out.size))
      have HV2 := Lib.hid (HV1.out.mono hb2 (Nat.le_refl _))
      have HX2 := Lib.hid hvx
      clear hb2 hvx HV1
      go_wp2_with fail
      refine (HT.out _ _ HV2.out).mono ?_
      rintro e w3 ⟨rfl, hb3⟩
      have HB3 := Lib.hid (HB2.out.trans (hb3.mono HB2.out.size))
      have HV3 := Lib.hid (HV2.out.mono hb3 (Nat.le_refl _))
      have HX3 := Lib.hid (HX2.out.mono hb3 (Nat.le_refl _))
      clear hb3 HV2 HX2
      go_wp2_with fail
      refine (HX.out _ _ HX3.out).mono ?_
      rintro e w4 ⟨rfl, hb4⟩
      have HB4 := Lib.hid (HB3.out.trans (hb4.mono HB3.out.size))
      have HV4 := Lib.hid (HV3.out.mono hb4 (Nat.le_refl _))
      have HX4 := Lib.hid (HX3.out.mono hb4 (Nat.le_refl _))
      clear hb4 HV3 HX3
      go_wp2_with fail
      refine (HD.out _ _ HX4.out).mono ?_
      rintro e w5 ⟨vy, rfl, hb5, hvy⟩
      have HB5 := Lib.hid (HB4.out.trans (hb5.mono HB4.out.size))
      have HV5 := Lib.hid (HV4.out.mono hb5 (Nat.le_refl _))
      have HY5 := Lib.hid hvy
      clear hb5 HV4 hvy
      go_wp2_with fail
      refine (HF.out _ _ HY5.out).mono ?_
      rintro e w6 ⟨rfl, hb6⟩
      have HB6 := Lib.hid (HB5.out.trans (hb6.mono HB5.out.size))
      have HV6 := Lib.hid (HV5.out.mono hb6 (Nat.le_refl _))
      have HY6 := Lib.hid (HY5.out.mono hb6 (Nat.le_refl _))
      clear hb6 HV5 HY5
      go_wp2_with fail
      refine (HG.out _ _ HV6.out).mono ?_
      rintro e w7 ⟨vg, rfl, hvg, hb7⟩
      have HB7 := Lib.hid (HB6.out.trans (hb7.mono HB6.out.size))
      have HY7 := Lib.hid (HY6.out.mono hb7 (Nat.le_refl _))
      have HG7 := Lib.hid hvg
      clear hb7 HV6 HY6 hvg
      go_wp2_with fail
      refine (HS.out _ _ _ HY7.out HG7.out).mono ?_
      rintro e w8 ⟨rfl, hb8⟩
      have HB8 := Lib.hid (HB7.out.trans (hb8.mono HB7.out.size))
      clear hb8
      go_wp2_with fail
      refine (HPr.out _).mono ?_
      rintro e w9 ⟨rfl, hb9⟩
      go_wp2
      go_ret
      exact ⟨rfl, HB8.out.trans (hb9.mono HB8.out.size)⟩
    · have e1 : rI T (x, y) = [] := by unfold rI; rw [if_neg he]
      have h3 : (eI T (x, y) != 0) = true := by simp [he]
      have h4 : (eI T (x, y) == 0) = false := by simp [he]
      rw [e1] at HI
      generalize eI T (x, y) = z at *
      clear he e1 hu
      go_enter Try.func6, Try.ntmps6
      go_wp2_with fail
      refine HO.out.mono ?_
      rintro e w1 ⟨v, rfl, hv, hb1⟩
      have HV1 := Lib.hid hv
      have HB1 := Lib.hid hb1
      clear hv hb1
      go_wp2_with fail
      refine (HI.out _ _ HV1.out).mono ?_
      rintro e w2 ⟨vx, rfl, hb2, hvx⟩
      have HB2 := Lib.hid (HB1.out.trans (hb2.mono HB1.out.size))
      obtain ⟨a2, c2, rfl, -, -⟩ := hvx.slice
      have hl0 : ([] : List Cel).length = 0 := rfl
      rw [hl0]
      clear hb2 hvx HV1
      go_wp2_with fail
      refine (HPr.out _).mono ?_
      rintro e w3 ⟨rfl, hb3⟩
      go_wp2
      go_ret
      exact ⟨rfl, HB2.out.trans (hb3.mono HB2.out.size)⟩
end Go.Proofs.Ytjikikiconhlaaa.Pro
