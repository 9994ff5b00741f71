/- The walk of WatchMarks. -/
import Derived.Test.YtnpnigeghhcncaaWatQ
namespace Go.Proofs.Ytnpnigeghhcncaa.Wat
open Go.RowKit Num Arn
set_option linter.unusedVariables false

set_option maxRecDepth 100000 in
set_option maxHeartbeats 8000000 in
theorem watchMarks_walk (n : Int) (v : Value) (L : List Act) (t : Int) (w : World) (ht64 : is64 t) (hr : ActRow w v L) :
    Calls Try.prog 4 #[.int .i64 n, v, .int .i64 t] w fun e w' => e = .returned (.bool true) ∧ Below w.heap.size w w' := by
  have HW := Lib.hid (watchesW w)
  obtain ⟨ad, cap, U, rfl, q2, q3, q4, q5⟩ := hr
  have HC := Lib.hid q5
  have HS := Lib.hid q4
  clear q4 q5
  by_cases hn : 1024 < n ∧ n ≤ 1048576
  · obtain ⟨n1, n2⟩ := hn
    go_enter Try.func4, Try.ntmps4
    go_wp2_with fail
    refine (HW.out _ (Below.refl _ _)).mono ?_
    rintro e w1 ⟨rfl, hb⟩
    go_wp2
    go_ret
    exact ⟨rfl, hb⟩
  have hn1 : (decide (1024 < n) && decide (n ≤ 1048576)) = false := by
    rw [Bool.and_eq_false_iff, decide_eq_false_iff_not, decide_eq_false_iff_not]; omega
  by_cases hL : 60 < L.length
  · have hL1 : (60 : Int) < (L.length : Int) := by omega
    by_cases h1 : 1024 < n
    · have h2 : ¬ n ≤ 1048576 := by omega
      clear hn hn1
      go_enter Try.func4, Try.ntmps4
      go_wp2_with fail
      refine (HW.out _ (Below.refl _ _)).mono ?_
      rintro e w1 ⟨rfl, hb⟩
      go_wp2
      go_ret
      exact ⟨rfl, hb⟩
    · clear hn hn1
      go_enter Try.func4, Try.ntmps4
      go_wp2_with fail
      refine (HW.out _ (Below.refl _ _)).mono ?_
      rintro e w1 ⟨rfl, hb⟩
      go_wp2
      go_ret
      exact ⟨rfl, hb⟩
  have hL0 : ¬ (60 : Int) < (L.length : Int) := by omega
  have hL0' : decide ((60 : Int) < (L.length : Int)) = false := by rw [decide_eq_false_iff_not]; omega
  by_cases hm : mayW n = true
  · obtain ⟨m1, m2, m3⟩ := mayW_bd hm
    obtain ⟨N, rfl⟩ : ∃ N : Nat, n = N := ⟨n.toNat, by omega⟩
    have hN : N ≤ 1024 := by omega
    have HN1 := Lib.hid (new_yes N w hm)
    have hn3 : ¬ (1024 : Int) < (N : Int) := by omega
    clear hn hn1 m1 m2 m3 hm
    go_enter Try.func4, Try.ntmps4
    go_wp2_with fail
    refine HN1.out.mono ?_
    rintro e w1 ⟨v1, h, rfl, ha1, hb1, hk⟩
    obtain rfl := ha1.1
    have HK := Lib.hid hk
    have HA1 := Lib.hid ha1
    have HB1 := Lib.hid hb1
    clear ha1 hb1 hk HN1
    go_wp2
    go_loopw [8] (fun i wr => ∃ (k : Nat) (x : List Int), k ≤ L.length ∧ i = .int .i64 k ∧ Hid (x.length = N) ∧ Hid (WaC h wr (.pointer (some ⟨h.g, 0, none⟩)) x 0 0) ∧ Hid (Below w.heap.size w wr)) (fun i _ => L.length - (intOf i).toNat)
    case atStart => exact ⟨0, _, Nat.zero_le _, rfl, List.length_replicate, HA1.out, HB1.out⟩
    case round =>
      obtain ⟨k, x, hk, rfl, HX, HA, HB⟩ := hrel
      by_cases hlt : k < L.length
      · have hlt1 : (k : Int) < (L.length : Int) := by omega
        have hlt0 : (0 : Int) ≤ (k : Int) := by omega
        obtain ⟨b, off, rfl, hlb, hc⟩ := HC.out (by rintro rfl; simp at hlt)
        obtain ⟨hs1, hs2, -, h64, -⟩ := HS.out k hlt
        have hcell : ∀ j u, (L.getD k Act.zero).cells[j]? = some u → wr.cell? ⟨b, off + k * 4 + j, none⟩ = some u := fun j u hj =>
          (HB.out.cell (p := ⟨b, off + k * 4 + j, none⟩) hlb).trans (hc k hlt j u (by rw [hs2]; exact hj))
        obtain ⟨X, hX⟩ : ∃ X, X = L.getD k Act.zero := ⟨_, rfl⟩
        rw [← hX] at hcell h64
        obtain ⟨yk, ya, ym, yo⟩ := X
        have d0 := hcell 0 _ rfl
        have d1 := hcell 1 _ rfl
        have d2 := hcell 2 _ rfl
        have d3 := hcell 3 _ rfl
        rw [Nat.add_zero] at d0
        simp only [] at h64 d0 d1 d2 d3
        have hal := below_made wr (.cells #[.int .i64 yk, .int .i64 ya, .int .i64 ym, .int .i64 yo] 29)
        have HBx := Lib.hid (Box.made wr ⟨yk, ya, ym, yo⟩)
        have ha2 := HA.out.below hal
        have HA2 := Lib.hid ha2
        have HB2 := Lib.hid (HB.out.trans (hal.mono HB.out.size))
        have HK1 := Lib.hid (kind_any h _ x 0 0 t 1 _ ha2 ht64)
        have hrl := HA.out.lt
        have hne1 : ¬ blkW h wr.heap.size := fun hh => Nat.lt_irrefl _ (hrl _ hh)
        clear hc hs1 hs2 hcell hX hal ha2
        go_wp2_with fail
        refine HK1.out.mono ?_
        rintro e w2 ⟨rfl, hb2⟩
        have ha3 := HA2.out.below hb2
        have hbx2 := HBx.out.below hb2
        obtain ⟨-, e1, e2, e3⟩ := hbx2.cells
        have HMk := Lib.hid (mark_any h _ x 0 0 ya ym yo w2 ha3 h64)
        have HBx2 := Lib.hid hbx2
        have HB3 := Lib.hid (HB2.out.trans (hb2.mono HB2.out.size))
        clear hb2 ha3 hbx2 HK1
        go_wp2_with fail
        refine HMk.out.mono ?_
        rintro e w3 ⟨rfl, ha4, hf4⟩
        have hbx3 := HBx2.out.fr hf4 HBx2.out.lt hne1
        have HB4 := Lib.hid (HB3.out.trans (hf4.toBelow HB3.out.size (fun j hj hh => by have := HK.out j hh; omega)))
        have HA4 := Lib.hid ha4
        have hml := mrkA_length x ya ym yo
        have HX4 : Hid ((mrkA x ya ym yo).1.length = N) := hml.trans HX.out
        have HK2 := Lib.hid (kind_any h _ _ 0 0 t 1 w3 ha4 ht64)
        have HBx3 := Lib.hid hbx3
        clear ha4 hf4 hbx3 HMk e1 e2 e3
        go_wp2_with fail
        refine HK2.out.mono ?_
        rintro e w4 ⟨rfl, hb5⟩
        have hbx4 := HBx3.out.below hb5
        obtain ⟨-, e1, e2, e3⟩ := hbx4.cells
        have hl4 := hbx4.lt
        have ha5 := HA4.out.below hb5
        have HA5 := Lib.hid ha5
        have HB5 := Lib.hid (HB4.out.trans (hb5.mono HB4.out.size))
        have k1 := Kept.cell e1 hl4
        have k2 := Kept.cell e2 hl4
        have k3 := Kept.cell e3 hl4
        have HKd := Lib.hid (fun kk : Kept w4.heap.size w4 => kind_any h _ _ 0 0 ya ym kk.w (ha5.below kk.below) h64)
        have hxl := HX.out
        by_cases he : (mrkA x ya ym yo).2 = 0
        · obtain ⟨p, q, rfl, rfl, hpq, hr, hk0, hk8⟩ := mrk_ok he
          rw [he]
          obtain ⟨x', hx'⟩ : ∃ x', x' = (mrkA x p q yo).1 := ⟨_, rfl⟩
          rw [← hx'] at HX4 HA5 HKd hr ⊢
          have hm1 := @mark_in x p q yo t hpq
          have hm2 := @mark_out x p q yo t hpq
          have hm3 := @mark_all x p q yo hpq
          rw [← hr] at hm1 hm2 hm3
          unfold is64 at ht64
          have d00 : ((0 : Int) == 0) = true := by decide
          by_cases hpt : (p : Int) ≤ t
          · obtain ⟨d, hd⟩ : ∃ d : Int, d = t - (p : Int) := ⟨_, rfl⟩
            have hwd : IntKind.i64.wrap (t - (p : Int)) = d := (wrap_id (by omega) (by omega)).trans hd.symm
            have g1 : decide ((p : Int) ≤ t) = true := by simpa using hpt
            by_cases hdq : d < (q : Int)
            · have hq : 0 < q := by omega
              have htn : t < (N : Int) := by omega
              rw [hm1 hpt (by omega)]
              have HKd2 := Lib.hid (fun kk : Kept w4.heap.size w4 => by have := HKd.out kk; rw [hm3 hq] at this; exact this)
              have hww : (yo != yo) = false := by simp
              have g2 : decide (d < (q : Int)) = true := by simpa using hdq
              have g3 : decide (t < (N : Int)) = true := by simpa using htn
              have g4 : decide ((0 : Int) < (q : Int)) = true := by simpa using hq
              have hq1 : (0 : Int) < (q : Int) := by omega
              have hwz : True := trivial
              clear HKd hm1 hm2 hm3 ha5 hb5 hbx4 hr hx' he hd hpq hxl hml
              have HKd := HKd2
              go_wp2_with fail
              refine wp_region_kept (by kernel_rfl) (by kernel_rfl) ?_
              repeat (go_big_quiet_step ((go_at_call 13; exact Calls.kept_of (HKd.out _) (Nat.le_refl _))))
              refine wpQuiet_nil ?_
              intro _ hw'
              obtain ⟨kk, rfl⟩ := hw'
              have HAe := Lib.hid (HA5.out.below kk.below)
              have HBe := Lib.hid (HB5.out.trans (kk.below.mono HB5.out.size))
              generalize kk.w = W at HAe HBe ⊢
              clear k1 k2 k3 HKd
              go_wp2
              go_roundw
              case rel => exact ⟨k + 1, x', by omega, by go_num, HX4.out, HAe.out, HBe.out⟩
              case measure => simp [intOf]; omega
            · rw [hm2 (fun hh => by omega)]
              obtain ⟨wz, hwz⟩ : ∃ wz, wz = kndA x t 1 := ⟨_, rfl⟩
              rw [← hwz]
              have hww : (wz != wz) = false := by simp
              have hoo : (yo != yo) = false := by simp
              have g2 : decide (d < (q : Int)) = false := by rw [decide_eq_false_iff_not]; exact hdq
              rcases Nat.eq_zero_or_pos q with hq | hq
              · subst hq
                clear hm1 hm2 hm3 ha5 hb5 hbx4 hr hx' he hd hpq hxl hwz hml
                go_wp2_with fail
                refine wp_region_kept (by kernel_rfl) (by kernel_rfl) ?_
                repeat (go_big_quiet_step ((go_at_call 13; exact Calls.kept_of (HKd.out _) (Nat.le_refl _))))
                refine wpQuiet_nil ?_
                intro _ hw'
                obtain ⟨kk, rfl⟩ := hw'
                have HAe := Lib.hid (HA5.out.below kk.below)
                have HBe := Lib.hid (HB5.out.trans (kk.below.mono HB5.out.size))
                generalize kk.w = W at HAe HBe ⊢
                clear k1 k2 k3 HKd
                go_wp2
                go_roundw
                case rel => exact ⟨k + 1, x', by omega, by go_num, HX4.out, HAe.out, HBe.out⟩
                case measure => simp [intOf]; omega
              · have HKd2 := Lib.hid (fun kk : Kept w4.heap.size w4 => by have := HKd.out kk; rw [hm3 hq] at this; exact this)
                have g4 : decide ((0 : Int) < (q : Int)) = true := by simpa using hq
                have hq1 : (0 : Int) < (q : Int) := by omega
                clear HKd hm1 hm2 hm3 ha5 hb5 hbx4 hr hx' he hd hpq hxl hwz hml
                have HKd := HKd2
                go_wp2_with fail
                refine wp_region_kept (by kernel_rfl) (by kernel_rfl) ?_
                repeat (go_big_quiet_step ((go_at_call 13; exact Calls.kept_of (HKd.out _) (Nat.le_refl _))))
                refine wpQuiet_nil ?_
                intro _ hw'
                obtain ⟨kk, rfl⟩ := hw'
                have HAe := Lib.hid (HA5.out.below kk.below)
                have HBe := Lib.hid (HB5.out.trans (kk.below.mono HB5.out.size))
                generalize kk.w = W at HAe HBe ⊢
                clear k1 k2 k3 HKd
                go_wp2
                go_roundw
                case rel => exact ⟨k + 1, x', by omega, by go_num, HX4.out, HAe.out, HBe.out⟩
                case measure => simp [intOf]; omega
          · have g1 : decide ((p : Int) ≤ t) = false := by rw [decide_eq_false_iff_not]; exact hpt
            rw [hm2 (fun hh => hpt hh.1)]
            obtain ⟨wz, hwz⟩ : ∃ wz, wz = kndA x t 1 := ⟨_, rfl⟩
            rw [← hwz]
            have hww : (wz != wz) = false := by simp
            have hoo : (yo != yo) = false := by simp
            rcases Nat.eq_zero_or_pos q with hq | hq
            · subst hq
              clear hm1 hm2 hm3 ha5 hb5 hbx4 hr hx' he hpq hxl hwz hml
              go_wp2_with fail
              refine wp_region_kept (by kernel_rfl) (by kernel_rfl) ?_
              repeat (go_big_quiet_step ((go_at_call 13; exact Calls.kept_of (HKd.out _) (Nat.le_refl _))))
              refine wpQuiet_nil ?_
              intro _ hw'
              obtain ⟨kk, rfl⟩ := hw'
              have HAe := Lib.hid (HA5.out.below kk.below)
              have HBe := Lib.hid (HB5.out.trans (kk.below.mono HB5.out.size))
              generalize kk.w = W at HAe HBe ⊢
              clear k1 k2 k3 HKd
              go_wp2
              go_roundw
              case rel => exact ⟨k + 1, x', by omega, by go_num, HX4.out, HAe.out, HBe.out⟩
              case measure => simp [intOf]; omega
            · have HKd2 := Lib.hid (fun kk : Kept w4.heap.size w4 => by have := HKd.out kk; rw [hm3 hq] at this; exact this)
              have g4 : decide ((0 : Int) < (q : Int)) = true := by simpa using hq
              have hq1 : (0 : Int) < (q : Int) := by omega
              clear HKd hm1 hm2 hm3 ha5 hb5 hbx4 hr hx' he hpq hxl hwz hml
              have HKd := HKd2
              go_wp2_with fail
              refine wp_region_kept (by kernel_rfl) (by kernel_rfl) ?_
              repeat (go_big_quiet_step ((go_at_call 13; exact Calls.kept_of (HKd.out _) (Nat.le_refl _))))
              refine wpQuiet_nil ?_
              intro _ hw'
              obtain ⟨kk, rfl⟩ := hw'
              have HAe := Lib.hid (HA5.out.below kk.below)
              have HBe := Lib.hid (HB5.out.trans (kk.below.mono HB5.out.size))
              generalize kk.w = W at HAe HBe ⊢
              clear k1 k2 k3 HKd
              go_wp2
              go_roundw
              case rel => exact ⟨k + 1, x', by omega, by go_num, HX4.out, HAe.out, HBe.out⟩
              case measure => simp [intOf]; omega
        · have hr := mrk_err he
          have he2 : ((mrkA x ya ym yo).2 == 0) = false := by simpa using he
          obtain ⟨er, her⟩ : ∃ er, er = (mrkA x ya ym yo).2 := ⟨_, rfl⟩
          obtain ⟨x', hx'⟩ : ∃ x', x' = (mrkA x ya ym yo).1 := ⟨_, rfl⟩
          rw [← her] at he2 ⊢
          rw [← hx'] at HX4 HA5 HKd hr ⊢
          subst hr
          obtain ⟨wz, hwz⟩ : ∃ wz, wz = kndA x' t 1 := ⟨_, rfl⟩
          rw [← hwz]
          have hww : (wz != wz) = false := by simp
          clear ha5 hb5 hbx4 her hx' hwz he hml
          go_wp2_with fail
          refine wp_region_kept (by kernel_rfl) (by kernel_rfl) ?_
          repeat (go_big_quiet_step ((go_at_call 13; exact Calls.kept_of (HKd.out _) (Nat.le_refl _))))
          refine wpQuiet_nil ?_
          intro _ hw'
          obtain ⟨kk, rfl⟩ := hw'
          have HAe := Lib.hid (HA5.out.below kk.below)
          have HBe := Lib.hid (HB5.out.trans (kk.below.mono HB5.out.size))
          generalize kk.w = W at HAe HBe ⊢
          clear k1 k2 k3 HKd
          go_wp2
          go_roundw
          case rel => exact ⟨k + 1, x', by omega, by go_num, HX4.out, HAe.out, HBe.out⟩
          case measure => simp [intOf]; omega
      · obtain rfl : k = L.length := by omega
        go_wp2_with fail
        refine (HW.out _ HB.out).mono ?_
        rintro e w2 ⟨rfl, hb2⟩
        go_wp2
        go_ret
        exact ⟨rfl, hb2⟩
  · have hm' : mayW n = false := by simpa using hm
    have HN1 := Lib.hid (new_no n w hm')
    have HM := Lib.hid (refMay_any n w)
    rw [hm'] at HM
    clear hm hm'
    by_cases h1 : 1024 < n
    · have h2 : ¬ n ≤ 1048576 := by omega
      clear hn hn1
      go_enter Try.func4, Try.ntmps4
      go_wp2_with fail
      refine HN1.out.mono ?_
      rintro e w' ⟨rfl, rfl⟩
      go_wp2_with fail
      refine HM.out.mono ?_
      rintro e w' ⟨rfl, rfl⟩
      go_wp2_with fail
      refine (HW.out _ (Below.refl _ _)).mono ?_
      rintro e w2 ⟨rfl, hb2⟩
      go_wp2
      go_ret
      exact ⟨rfl, hb2⟩
    · clear hn hn1
      go_enter Try.func4, Try.ntmps4
      go_wp2_with fail
      refine HN1.out.mono ?_
      rintro e w' ⟨rfl, rfl⟩
      go_wp2_with fail
      refine HM.out.mono ?_
      rintro e w' ⟨rfl, rfl⟩
      go_wp2_with fail
      refine (HW.out _ (Below.refl _ _)).mono ?_
      rintro e w2 ⟨rfl, hb2⟩
      go_wp2
      go_ret
      exact ⟨rfl, hb2⟩
end Go.Proofs.Ytnpnigeghhcncaa.Wat
