/- The walk of WatchLooks. Written by tools/gen_XWatK.py. -/
import Derived.Test.YtnpnigeghhcncaaWatJ
namespace Go.Proofs.Ytnpnigeghhcncaa.Wat
open Go.RowKit Num Arn
set_option linter.unusedVariables false

set_option maxRecDepth 100000 in
set_option maxHeartbeats 16000000 in
theorem watchLooks_walk (n : Int) (v : Value) (L : List Act) (a wd k : Int) (w : World) (h64 : is64 a) (hr : ActRow w v L) :
    Calls Try.prog 6 #[.int .i64 n, v, .int .i64 a, .int .i64 wd, .int .i64 k] w fun e w' => e = .returned (.bool true) ∧ Below w.heap.size w w' := by
  have HW := Lib.hid (watchesW w)
  have HM := Lib.hid (refMay_any n w)
  obtain ⟨ad, cap, U, rfl, q2, q3, q4, q5⟩ := hr
  have HC := Lib.hid q5
  have HS := Lib.hid q4
  clear q4 q5
  by_cases h1 : 1024 < n
  · go_enter Try.func6, Try.ntmps6
    go_wp2_with fail
    refine (HW.out _ (Below.refl _ _)).mono ?_
    rintro e w1 ⟨rfl, hb⟩
    go_wp2
    go_ret
    exact ⟨rfl, hb⟩
  by_cases hm : mayW n = true
  · obtain ⟨m1, m2, m3⟩ := mayW_bd hm
    obtain ⟨N, rfl⟩ : ∃ N : Nat, n = N := ⟨n.toNat, by omega⟩
    have hN : N ≤ 1024 := by omega
    rw [hm] at HM
    by_cases hL : 60 < L.length
    · have hL1 : (60 : Int) < (L.length : Int) := by omega
      clear hm m1 m2 m3
      go_enter Try.func6, Try.ntmps6
      go_wp2_with fail
      refine HM.out.mono ?_
      rintro e w' ⟨rfl, rfl⟩
      go_wp2_with fail
      refine (HW.out _ (Below.refl _ _)).mono ?_
      rintro e w1 ⟨rfl, hb⟩
      go_wp2
      go_ret
      exact ⟨rfl, hb⟩
    have hL0 : ¬ (60 : Int) < (L.length : Int) := by omega
    have hL0' : decide ((60 : Int) < (L.length : Int)) = false := by rw [decide_eq_false_iff_not]; omega
    have HN1 := Lib.hid (new_yes N w hm)
    clear m1 m2 m3 hm
    go_enter Try.func6, Try.ntmps6
    go_wp2_with fail
    refine HM.out.mono ?_
    rintro e w' ⟨rfl, rfl⟩
    go_wp2_with fail
    refine HN1.out.mono ?_
    rintro e w1 ⟨v1, h, rfl, ha1, hb1, hk⟩
    obtain rfl := ha1.1
    have HK := Lib.hid hk
    have HD1 : Hid (MidW w w1 h (List.replicate N 0) 0 0) := ⟨ha1, hb1⟩
    clear ha1 hb1 hk HN1
    go_wp2
    go_loopw [12] (fun i wr => ∃ (j : Nat) (x : List Int), j ≤ L.length ∧ i = .int .i64 j ∧ Hid (x.length = N) ∧ Hid (MidW w wr h x 0 0)) (fun i _ => L.length - (intOf i).toNat)
    case atStart => exact ⟨0, _, Nat.zero_le _, rfl, List.length_replicate, HD1.out⟩
    case round =>
      obtain ⟨j, x, hj, rfl, HX, HD⟩ := hrel
      by_cases hlt : j < L.length
      · have hlt1 : (j : Int) < (L.length : Int) := by omega
        have hlt0 : (0 : Int) ≤ (j : Int) := by omega
        obtain ⟨b, off, rfl, hlb, hc⟩ := HC.out (by rintro rfl; simp at hlt)
        obtain ⟨hs1, hs2, -, hx64, -⟩ := HS.out j hlt
        have hcell : ∀ i u, (L.getD j Act.zero).cells[i]? = some u → w.cell? ⟨b, off + j * 4 + i, none⟩ = some u := fun i u hi => hc j hlt i u (by rw [hs2]; exact hi)
        obtain ⟨X, hX⟩ : ∃ X, X = L.getD j Act.zero := ⟨_, rfl⟩
        rw [← hX] at hcell hx64
        obtain ⟨yk, ya, ym, yo⟩ := X
        have D1 := Lib.hid (hcell 1 _ rfl)
        have D2 := Lib.hid (hcell 2 _ rfl)
        have D3 := Lib.hid (hcell 3 _ rfl)
        simp only [] at hx64 D1 D2 D3
        have hm2 := HD.out
        have d1 := (hm2.bel.cell (p := ⟨b, off + j * 4 + 1, none⟩) hlb).trans D1.out
        have d2 := (hm2.bel.cell (p := ⟨b, off + j * 4 + 2, none⟩) hlb).trans D2.out
        have d3 := (hm2.bel.cell (p := ⟨b, off + j * 4 + 3, none⟩) hlb).trans D3.out
        have HP := Lib.hid (fun (W : World) (hm : MidW w W h x 0 0) => hm.mark HK.out ya ym yo hx64)
        have HX2 : Hid ((mrkA x ya ym yo).1.length = N) := (mrkA_length x ya ym yo).trans HX.out
        obtain ⟨r, hr⟩ : ∃ r, r = mrkA x ya ym yo := ⟨_, rfl⟩
        rw [← hr] at HP HX2
        clear hc hs1 hs2 hcell hX hr
        go_wp2_with fail
        go_region_held3 (fun w' => w'.cell? ⟨b, off + j * 4 + 1, none⟩ = some (.int .i64 ya) ∧ w'.cell? ⟨b, off + j * 4 + 2, none⟩ = some (.int .i64 ym) ∧ w'.cell? ⟨b, off + j * 4 + 3, none⟩ = some (.int .i64 yo)) (first | exact ⟨d1, d2, d3⟩ | go_keep) ((first | (go_at_call 17; refine (HP.out _ (by first | exact hm2 | exact hm2.below (Below.refl _ _).drew)).mono ?_; rintro e w3 ⟨rfl, hm3⟩; replace d1 := (hm3.bel.cell (p := ⟨b, off + j * 4 + 1, none⟩) hlb).trans D1.out; replace d2 := (hm3.bel.cell (p := ⟨b, off + j * 4 + 2, none⟩) hlb).trans D2.out; replace d3 := (hm3.bel.cell (p := ⟨b, off + j * 4 + 3, none⟩) hlb).trans D3.out)))
        have HD3 := Lib.hid hm3
        clear hm2 hm3 d1 d2 d3 HP
        go_wp2
        go_roundw
        case rel => exact ⟨j + 1, r.1, by omega, by go_num, HX2.out, HD3.out⟩
        case measure => simp [intOf]; omega
      · obtain rfl : j = L.length := by omega
        have HLk := Lib.hid (fun (W : World) (hm : MidW w W h x 0 0) => hm.look HK.out a wd k h64 (by omega) (by omega))
        by_cases hk0 : k = 0
        · subst hk0
          have hlk : lookA x a wd 0 = false := by simp [lookA]
          rw [hlk] at HLk
          clear hlk
          go_wp2_with fail
          refine (HLk.out _ HD.out).mono ?_
          rintro e w5 ⟨rfl, hm5⟩
          have HD5 := Lib.hid hm5
          have HLo := Lib.hid (hm5.looks)
          clear hm5
          go_wp2_with fail
          refine HLo.out.mono ?_
          rintro e w' ⟨rfl, rfl⟩
          have HFa := Lib.hid (HD5.out.faults)
          go_wp2_with fail
          refine HFa.out.mono ?_
          rintro e w' ⟨rfl, rfl⟩
          go_wp2_with fail
          refine (HW.out _ HD5.out.bel).mono ?_
          rintro e w7 ⟨rfl, hb7⟩
          go_wp2
          go_ret
          exact ⟨rfl, hb7⟩
        have hk1 : (k != 0) = true := by simpa using hk0
        by_cases hw : isW wd = true
        · have hwd : wd = 1 ∨ wd = 2 ∨ wd = 4 ∨ wd = 8 := by
            simp [isW] at hw
            omega
          by_cases ha0 : 0 ≤ a
          · have ha0' : decide (0 ≤ a) = true := by simpa using ha0
            by_cases haN : a < (N : Int)
            · have haN' : decide (a < (N : Int)) = true := by simpa using haN
              have hxl := HX.out
              have HQ := Lib.hid (fun (W : World) (hm : MidW w W h x 0 0) (i : Int) (hi : 0 ≤ i) (hi8 : i ≤ 8) => hm.kind (a + i) 1 (by unfold is64; omega))
              have HI := Lib.hid (look_iff x a wd k hk0 hw ha0)
              have HTm := Lib.hid (tmod_zero a wd)
              rcases hwd with rfl | rfl | rfl | rfl
              · clear hw hxl
                go_wp2
                go_loopw [13, 14] (fun b i wr => ∃ (m : Nat) (g : Bool), m ≤ 1 ∧ i = .int .i64 m ∧ b = .bool g ∧ Hid (g = true ↔ a % 1 = 0 ∧ ∀ j, j < m → kndA x (a + (j : Int)) 1 = k) ∧ Hid (MidW w wr h x 0 0)) (fun _ i _ => 1 - (intOf i).toNat)
                case atStart => exact ⟨0, _, by omega, rfl, rfl, by unfold Hid; simp; try exact HTm.out, HD.out⟩
                case round =>
                  obtain ⟨m, g, hm, rfl, rfl, HG, HD2⟩ := hrel
                  by_cases hlm : m < 1
                  · have hlm1 : (m : Int) < 1 := by omega
                    cases g with
                    | false =>
                      have HG2 : Hid (false = true ↔ a % 1 = 0 ∧ ∀ j, j < m + 1 → kndA x (a + (j : Int)) 1 = k) := ⟨fun e => (by cases e), fun hh => HG.out.2 ⟨hh.1, fun j hj => hh.2 j (by omega)⟩⟩
                      clear HG
                      go_wp2
                      go_roundw
                      case rel => exact ⟨m + 1, false, by omega, by go_num, rfl, HG2.out, HD2.out⟩
                      case measure => simp [intOf]; omega
                    | true =>
                      have hq := HQ.out _ HD2.out (m : Int) (by omega) (by omega)
                      obtain ⟨am, ham⟩ : ∃ am, am = a + (m : Int) := ⟨_, rfl⟩
                      obtain ⟨q, hqq⟩ : ∃ q, q = kndA x (a + (m : Int)) 1 := ⟨_, rfl⟩
                      have HG2 : Hid ((q == k) = true ↔ a % 1 = 0 ∧ ∀ j, j < m + 1 → kndA x (a + (j : Int)) 1 = k) := by
                        have h1 := HG.out.1 rfl
                        refine ⟨fun e => ⟨h1.1, fun j hj => ?_⟩, fun hh => ?_⟩
                        · by_cases e2 : j < m
                          · exact h1.2 j e2
                          · obtain rfl : j = m := by omega
                            rw [← hqq]; simpa using e
                        · rw [hqq]; simpa using hh.2 m (by omega)
                      rw [← hqq, ← ham] at hq
                      have HQm := Lib.hid hq
                      have hwa : IntKind.i64.wrap (a + (m : Int)) = am ∧ wrap64 (a + (m : Int)) = am := by
                        have hN2 := hN
                        exact ⟨(wrap_id (by omega) (by omega)).trans ham.symm, (IntWalk.wrap64_in _ (by omega)).trans ham.symm⟩
                      obtain ⟨hw1, hw2⟩ := hwa
                      clear hq ham hqq HG
                      go_wp2_with fail
                      refine HQm.out.mono ?_
                      rintro e w4 ⟨rfl, hm4⟩
                      have HD4 := Lib.hid hm4
                      clear hm4 HQm hw1 hw2
                      go_wp2
                      go_roundw
                      case rel => exact ⟨m + 1, _, by omega, by go_num, rfl, HG2.out, HD4.out⟩
                      case measure => simp [intOf]; omega
                  · obtain rfl : m = 1 := by omega
                    have hgl : lookA x a 1 k = g := by
                      have h1 := HI.out
                      have h2 := HG.out
                      rw [Bool.eq_iff_iff, h1, h2]
                      exact ⟨fun h => ⟨h.1, fun j hj => h.2 j (by omega)⟩, fun h => ⟨h.1, fun j hj => h.2 j (by omega)⟩⟩
                    rw [hgl] at HLk
                    clear hgl HG
                    cases g with
                    | false =>
                      go_wp2_with fail
                      refine (HLk.out _ HD2.out).mono ?_
                      rintro e w5 ⟨rfl, hm5⟩
                      have HD5 := Lib.hid hm5
                      have HLo := Lib.hid (hm5.looks)
                      clear hm5
                      go_wp2_with fail
                      refine HLo.out.mono ?_
                      rintro e w' ⟨rfl, rfl⟩
                      have HFa := Lib.hid (HD5.out.faults)
                      go_wp2_with fail
                      refine HFa.out.mono ?_
                      rintro e w' ⟨rfl, rfl⟩
                      go_wp2_with fail
                      refine (HW.out _ HD5.out.bel).mono ?_
                      rintro e w7 ⟨rfl, hb7⟩
                      go_wp2
                      go_ret
                      exact ⟨rfl, hb7⟩
                    | true =>
                      go_wp2_with fail
                      refine (HLk.out _ HD2.out).mono ?_
                      rintro e w5 ⟨rfl, hm5⟩
                      have HD5 := Lib.hid hm5
                      have HLo := Lib.hid (hm5.looks)
                      clear hm5
                      go_wp2_with fail
                      refine HLo.out.mono ?_
                      rintro e w' ⟨rfl, rfl⟩
                      have HFa := Lib.hid (HD5.out.faults)
                      go_wp2_with fail
                      refine HFa.out.mono ?_
                      rintro e w' ⟨rfl, rfl⟩
                      go_wp2_with fail
                      refine (HW.out _ HD5.out.bel).mono ?_
                      rintro e w7 ⟨rfl, hb7⟩
                      go_wp2
                      go_ret
                      exact ⟨rfl, hb7⟩
              · clear hw hxl
                go_wp2
                go_loopw [13, 14] (fun b i wr => ∃ (m : Nat) (g : Bool), m ≤ 2 ∧ i = .int .i64 m ∧ b = .bool g ∧ Hid (g = true ↔ a % 2 = 0 ∧ ∀ j, j < m → kndA x (a + (j : Int)) 1 = k) ∧ Hid (MidW w wr h x 0 0)) (fun _ i _ => 2 - (intOf i).toNat)
                case atStart => exact ⟨0, _, by omega, rfl, rfl, by unfold Hid; simp; try exact HTm.out, HD.out⟩
                case round =>
                  obtain ⟨m, g, hm, rfl, rfl, HG, HD2⟩ := hrel
                  by_cases hlm : m < 2
                  · have hlm1 : (m : Int) < 2 := by omega
                    cases g with
                    | false =>
                      have HG2 : Hid (false = true ↔ a % 2 = 0 ∧ ∀ j, j < m + 1 → kndA x (a + (j : Int)) 1 = k) := ⟨fun e => (by cases e), fun hh => HG.out.2 ⟨hh.1, fun j hj => hh.2 j (by omega)⟩⟩
                      clear HG
                      go_wp2
                      go_roundw
                      case rel => exact ⟨m + 1, false, by omega, by go_num, rfl, HG2.out, HD2.out⟩
                      case measure => simp [intOf]; omega
                    | true =>
                      have hq := HQ.out _ HD2.out (m : Int) (by omega) (by omega)
                      obtain ⟨am, ham⟩ : ∃ am, am = a + (m : Int) := ⟨_, rfl⟩
                      obtain ⟨q, hqq⟩ : ∃ q, q = kndA x (a + (m : Int)) 1 := ⟨_, rfl⟩
                      have HG2 : Hid ((q == k) = true ↔ a % 2 = 0 ∧ ∀ j, j < m + 1 → kndA x (a + (j : Int)) 1 = k) := by
                        have h1 := HG.out.1 rfl
                        refine ⟨fun e => ⟨h1.1, fun j hj => ?_⟩, fun hh => ?_⟩
                        · by_cases e2 : j < m
                          · exact h1.2 j e2
                          · obtain rfl : j = m := by omega
                            rw [← hqq]; simpa using e
                        · rw [hqq]; simpa using hh.2 m (by omega)
                      rw [← hqq, ← ham] at hq
                      have HQm := Lib.hid hq
                      have hwa : IntKind.i64.wrap (a + (m : Int)) = am ∧ wrap64 (a + (m : Int)) = am := by
                        have hN2 := hN
                        exact ⟨(wrap_id (by omega) (by omega)).trans ham.symm, (IntWalk.wrap64_in _ (by omega)).trans ham.symm⟩
                      obtain ⟨hw1, hw2⟩ := hwa
                      clear hq ham hqq HG
                      go_wp2_with fail
                      refine HQm.out.mono ?_
                      rintro e w4 ⟨rfl, hm4⟩
                      have HD4 := Lib.hid hm4
                      clear hm4 HQm hw1 hw2
                      go_wp2
                      go_roundw
                      case rel => exact ⟨m + 1, _, by omega, by go_num, rfl, HG2.out, HD4.out⟩
                      case measure => simp [intOf]; omega
                  · obtain rfl : m = 2 := by omega
                    have hgl : lookA x a 2 k = g := by
                      have h1 := HI.out
                      have h2 := HG.out
                      rw [Bool.eq_iff_iff, h1, h2]
                      exact ⟨fun h => ⟨h.1, fun j hj => h.2 j (by omega)⟩, fun h => ⟨h.1, fun j hj => h.2 j (by omega)⟩⟩
                    rw [hgl] at HLk
                    clear hgl HG
                    cases g with
                    | false =>
                      go_wp2_with fail
                      refine (HLk.out _ HD2.out).mono ?_
                      rintro e w5 ⟨rfl, hm5⟩
                      have HD5 := Lib.hid hm5
                      have HLo := Lib.hid (hm5.looks)
                      clear hm5
                      go_wp2_with fail
                      refine HLo.out.mono ?_
                      rintro e w' ⟨rfl, rfl⟩
                      have HFa := Lib.hid (HD5.out.faults)
                      go_wp2_with fail
                      refine HFa.out.mono ?_
                      rintro e w' ⟨rfl, rfl⟩
                      go_wp2_with fail
                      refine (HW.out _ HD5.out.bel).mono ?_
                      rintro e w7 ⟨rfl, hb7⟩
                      go_wp2
                      go_ret
                      exact ⟨rfl, hb7⟩
                    | true =>
                      go_wp2_with fail
                      refine (HLk.out _ HD2.out).mono ?_
                      rintro e w5 ⟨rfl, hm5⟩
                      have HD5 := Lib.hid hm5
                      have HLo := Lib.hid (hm5.looks)
                      clear hm5
                      go_wp2_with fail
                      refine HLo.out.mono ?_
                      rintro e w' ⟨rfl, rfl⟩
                      have HFa := Lib.hid (HD5.out.faults)
                      go_wp2_with fail
                      refine HFa.out.mono ?_
                      rintro e w' ⟨rfl, rfl⟩
                      go_wp2_with fail
                      refine (HW.out _ HD5.out.bel).mono ?_
                      rintro e w7 ⟨rfl, hb7⟩
                      go_wp2
                      go_ret
                      exact ⟨rfl, hb7⟩
              · clear hw hxl
                go_wp2
                go_loopw [13, 14] (fun b i wr => ∃ (m : Nat) (g : Bool), m ≤ 4 ∧ i = .int .i64 m ∧ b = .bool g ∧ Hid (g = true ↔ a % 4 = 0 ∧ ∀ j, j < m → kndA x (a + (j : Int)) 1 = k) ∧ Hid (MidW w wr h x 0 0)) (fun _ i _ => 4 - (intOf i).toNat)
                case atStart => exact ⟨0, _, by omega, rfl, rfl, by unfold Hid; simp; try exact HTm.out, HD.out⟩
                case round =>
                  obtain ⟨m, g, hm, rfl, rfl, HG, HD2⟩ := hrel
                  by_cases hlm : m < 4
                  · have hlm1 : (m : Int) < 4 := by omega
                    cases g with
                    | false =>
                      have HG2 : Hid (false = true ↔ a % 4 = 0 ∧ ∀ j, j < m + 1 → kndA x (a + (j : Int)) 1 = k) := ⟨fun e => (by cases e), fun hh => HG.out.2 ⟨hh.1, fun j hj => hh.2 j (by omega)⟩⟩
                      clear HG
                      go_wp2
                      go_roundw
                      case rel => exact ⟨m + 1, false, by omega, by go_num, rfl, HG2.out, HD2.out⟩
                      case measure => simp [intOf]; omega
                    | true =>
                      have hq := HQ.out _ HD2.out (m : Int) (by omega) (by omega)
                      obtain ⟨am, ham⟩ : ∃ am, am = a + (m : Int) := ⟨_, rfl⟩
                      obtain ⟨q, hqq⟩ : ∃ q, q = kndA x (a + (m : Int)) 1 := ⟨_, rfl⟩
                      have HG2 : Hid ((q == k) = true ↔ a % 4 = 0 ∧ ∀ j, j < m + 1 → kndA x (a + (j : Int)) 1 = k) := by
                        have h1 := HG.out.1 rfl
                        refine ⟨fun e => ⟨h1.1, fun j hj => ?_⟩, fun hh => ?_⟩
                        · by_cases e2 : j < m
                          · exact h1.2 j e2
                          · obtain rfl : j = m := by omega
                            rw [← hqq]; simpa using e
                        · rw [hqq]; simpa using hh.2 m (by omega)
                      rw [← hqq, ← ham] at hq
                      have HQm := Lib.hid hq
                      have hwa : IntKind.i64.wrap (a + (m : Int)) = am ∧ wrap64 (a + (m : Int)) = am := by
                        have hN2 := hN
                        exact ⟨(wrap_id (by omega) (by omega)).trans ham.symm, (IntWalk.wrap64_in _ (by omega)).trans ham.symm⟩
                      obtain ⟨hw1, hw2⟩ := hwa
                      clear hq ham hqq HG
                      go_wp2_with fail
                      refine HQm.out.mono ?_
                      rintro e w4 ⟨rfl, hm4⟩
                      have HD4 := Lib.hid hm4
                      clear hm4 HQm hw1 hw2
                      go_wp2
                      go_roundw
                      case rel => exact ⟨m + 1, _, by omega, by go_num, rfl, HG2.out, HD4.out⟩
                      case measure => simp [intOf]; omega
                  · obtain rfl : m = 4 := by omega
                    have hgl : lookA x a 4 k = g := by
                      have h1 := HI.out
                      have h2 := HG.out
                      rw [Bool.eq_iff_iff, h1, h2]
                      exact ⟨fun h => ⟨h.1, fun j hj => h.2 j (by omega)⟩, fun h => ⟨h.1, fun j hj => h.2 j (by omega)⟩⟩
                    rw [hgl] at HLk
                    clear hgl HG
                    cases g with
                    | false =>
                      go_wp2_with fail
                      refine (HLk.out _ HD2.out).mono ?_
                      rintro e w5 ⟨rfl, hm5⟩
                      have HD5 := Lib.hid hm5
                      have HLo := Lib.hid (hm5.looks)
                      clear hm5
                      go_wp2_with fail
                      refine HLo.out.mono ?_
                      rintro e w' ⟨rfl, rfl⟩
                      have HFa := Lib.hid (HD5.out.faults)
                      go_wp2_with fail
                      refine HFa.out.mono ?_
                      rintro e w' ⟨rfl, rfl⟩
                      go_wp2_with fail
                      refine (HW.out _ HD5.out.bel).mono ?_
                      rintro e w7 ⟨rfl, hb7⟩
                      go_wp2
                      go_ret
                      exact ⟨rfl, hb7⟩
                    | true =>
                      go_wp2_with fail
                      refine (HLk.out _ HD2.out).mono ?_
                      rintro e w5 ⟨rfl, hm5⟩
                      have HD5 := Lib.hid hm5
                      have HLo := Lib.hid (hm5.looks)
                      clear hm5
                      go_wp2_with fail
                      refine HLo.out.mono ?_
                      rintro e w' ⟨rfl, rfl⟩
                      have HFa := Lib.hid (HD5.out.faults)
                      go_wp2_with fail
                      refine HFa.out.mono ?_
                      rintro e w' ⟨rfl, rfl⟩
                      go_wp2_with fail
                      refine (HW.out _ HD5.out.bel).mono ?_
                      rintro e w7 ⟨rfl, hb7⟩
                      go_wp2
                      go_ret
                      exact ⟨rfl, hb7⟩
              · clear hw hxl
                go_wp2
                go_loopw [13, 14] (fun b i wr => ∃ (m : Nat) (g : Bool), m ≤ 8 ∧ i = .int .i64 m ∧ b = .bool g ∧ Hid (g = true ↔ a % 8 = 0 ∧ ∀ j, j < m → kndA x (a + (j : Int)) 1 = k) ∧ Hid (MidW w wr h x 0 0)) (fun _ i _ => 8 - (intOf i).toNat)
                case atStart => exact ⟨0, _, by omega, rfl, rfl, by unfold Hid; simp; try exact HTm.out, HD.out⟩
                case round =>
                  obtain ⟨m, g, hm, rfl, rfl, HG, HD2⟩ := hrel
                  by_cases hlm : m < 8
                  · have hlm1 : (m : Int) < 8 := by omega
                    cases g with
                    | false =>
                      have HG2 : Hid (false = true ↔ a % 8 = 0 ∧ ∀ j, j < m + 1 → kndA x (a + (j : Int)) 1 = k) := ⟨fun e => (by cases e), fun hh => HG.out.2 ⟨hh.1, fun j hj => hh.2 j (by omega)⟩⟩
                      clear HG
                      go_wp2
                      go_roundw
                      case rel => exact ⟨m + 1, false, by omega, by go_num, rfl, HG2.out, HD2.out⟩
                      case measure => simp [intOf]; omega
                    | true =>
                      have hq := HQ.out _ HD2.out (m : Int) (by omega) (by omega)
                      obtain ⟨am, ham⟩ : ∃ am, am = a + (m : Int) := ⟨_, rfl⟩
                      obtain ⟨q, hqq⟩ : ∃ q, q = kndA x (a + (m : Int)) 1 := ⟨_, rfl⟩
                      have HG2 : Hid ((q == k) = true ↔ a % 8 = 0 ∧ ∀ j, j < m + 1 → kndA x (a + (j : Int)) 1 = k) := by
                        have h1 := HG.out.1 rfl
                        refine ⟨fun e => ⟨h1.1, fun j hj => ?_⟩, fun hh => ?_⟩
                        · by_cases e2 : j < m
                          · exact h1.2 j e2
                          · obtain rfl : j = m := by omega
                            rw [← hqq]; simpa using e
                        · rw [hqq]; simpa using hh.2 m (by omega)
                      rw [← hqq, ← ham] at hq
                      have HQm := Lib.hid hq
                      have hwa : IntKind.i64.wrap (a + (m : Int)) = am ∧ wrap64 (a + (m : Int)) = am := by
                        have hN2 := hN
                        exact ⟨(wrap_id (by omega) (by omega)).trans ham.symm, (IntWalk.wrap64_in _ (by omega)).trans ham.symm⟩
                      obtain ⟨hw1, hw2⟩ := hwa
                      clear hq ham hqq HG
                      go_wp2_with fail
                      refine HQm.out.mono ?_
                      rintro e w4 ⟨rfl, hm4⟩
                      have HD4 := Lib.hid hm4
                      clear hm4 HQm hw1 hw2
                      go_wp2
                      go_roundw
                      case rel => exact ⟨m + 1, _, by omega, by go_num, rfl, HG2.out, HD4.out⟩
                      case measure => simp [intOf]; omega
                  · obtain rfl : m = 8 := by omega
                    have hgl : lookA x a 8 k = g := by
                      have h1 := HI.out
                      have h2 := HG.out
                      rw [Bool.eq_iff_iff, h1, h2]
                      exact ⟨fun h => ⟨h.1, fun j hj => h.2 j (by omega)⟩, fun h => ⟨h.1, fun j hj => h.2 j (by omega)⟩⟩
                    rw [hgl] at HLk
                    clear hgl HG
                    cases g with
                    | false =>
                      go_wp2_with fail
                      refine (HLk.out _ HD2.out).mono ?_
                      rintro e w5 ⟨rfl, hm5⟩
                      have HD5 := Lib.hid hm5
                      have HLo := Lib.hid (hm5.looks)
                      clear hm5
                      go_wp2_with fail
                      refine HLo.out.mono ?_
                      rintro e w' ⟨rfl, rfl⟩
                      have HFa := Lib.hid (HD5.out.faults)
                      go_wp2_with fail
                      refine HFa.out.mono ?_
                      rintro e w' ⟨rfl, rfl⟩
                      go_wp2_with fail
                      refine (HW.out _ HD5.out.bel).mono ?_
                      rintro e w7 ⟨rfl, hb7⟩
                      go_wp2
                      go_ret
                      exact ⟨rfl, hb7⟩
                    | true =>
                      go_wp2_with fail
                      refine (HLk.out _ HD2.out).mono ?_
                      rintro e w5 ⟨rfl, hm5⟩
                      have HD5 := Lib.hid hm5
                      have HLo := Lib.hid (hm5.looks)
                      clear hm5
                      go_wp2_with fail
                      refine HLo.out.mono ?_
                      rintro e w' ⟨rfl, rfl⟩
                      have HFa := Lib.hid (HD5.out.faults)
                      go_wp2_with fail
                      refine HFa.out.mono ?_
                      rintro e w' ⟨rfl, rfl⟩
                      go_wp2_with fail
                      refine (HW.out _ HD5.out.bel).mono ?_
                      rintro e w7 ⟨rfl, hb7⟩
                      go_wp2
                      go_ret
                      exact ⟨rfl, hb7⟩
            · have haN' : decide (a < (N : Int)) = false := by rw [decide_eq_false_iff_not]; exact haN
              have hlk : lookA x a wd k = false := look_out (.inr (by rw [HX.out]; omega)) (isW_bd hw).1
              rw [hlk] at HLk
              clear hlk
              rcases hwd with rfl | rfl | rfl | rfl
              · go_wp2_with fail
                refine (HLk.out _ HD.out).mono ?_
                rintro e w5 ⟨rfl, hm5⟩
                have HD5 := Lib.hid hm5
                have HLo := Lib.hid (hm5.looks)
                clear hm5
                go_wp2_with fail
                refine HLo.out.mono ?_
                rintro e w' ⟨rfl, rfl⟩
                have HFa := Lib.hid (HD5.out.faults)
                go_wp2_with fail
                refine HFa.out.mono ?_
                rintro e w' ⟨rfl, rfl⟩
                go_wp2_with fail
                refine (HW.out _ HD5.out.bel).mono ?_
                rintro e w7 ⟨rfl, hb7⟩
                go_wp2
                go_ret
                exact ⟨rfl, hb7⟩
              · go_wp2_with fail
                refine (HLk.out _ HD.out).mono ?_
                rintro e w5 ⟨rfl, hm5⟩
                have HD5 := Lib.hid hm5
                have HLo := Lib.hid (hm5.looks)
                clear hm5
                go_wp2_with fail
                refine HLo.out.mono ?_
                rintro e w' ⟨rfl, rfl⟩
                have HFa := Lib.hid (HD5.out.faults)
                go_wp2_with fail
                refine HFa.out.mono ?_
                rintro e w' ⟨rfl, rfl⟩
                go_wp2_with fail
                refine (HW.out _ HD5.out.bel).mono ?_
                rintro e w7 ⟨rfl, hb7⟩
                go_wp2
                go_ret
                exact ⟨rfl, hb7⟩
              · go_wp2_with fail
                refine (HLk.out _ HD.out).mono ?_
                rintro e w5 ⟨rfl, hm5⟩
                have HD5 := Lib.hid hm5
                have HLo := Lib.hid (hm5.looks)
                clear hm5
                go_wp2_with fail
                refine HLo.out.mono ?_
                rintro e w' ⟨rfl, rfl⟩
                have HFa := Lib.hid (HD5.out.faults)
                go_wp2_with fail
                refine HFa.out.mono ?_
                rintro e w' ⟨rfl, rfl⟩
                go_wp2_with fail
                refine (HW.out _ HD5.out.bel).mono ?_
                rintro e w7 ⟨rfl, hb7⟩
                go_wp2
                go_ret
                exact ⟨rfl, hb7⟩
              · go_wp2_with fail
                refine (HLk.out _ HD.out).mono ?_
                rintro e w5 ⟨rfl, hm5⟩
                have HD5 := Lib.hid hm5
                have HLo := Lib.hid (hm5.looks)
                clear hm5
                go_wp2_with fail
                refine HLo.out.mono ?_
                rintro e w' ⟨rfl, rfl⟩
                have HFa := Lib.hid (HD5.out.faults)
                go_wp2_with fail
                refine HFa.out.mono ?_
                rintro e w' ⟨rfl, rfl⟩
                go_wp2_with fail
                refine (HW.out _ HD5.out.bel).mono ?_
                rintro e w7 ⟨rfl, hb7⟩
                go_wp2
                go_ret
                exact ⟨rfl, hb7⟩
          · have ha0' : decide (0 ≤ a) = false := by rw [decide_eq_false_iff_not]; exact ha0
            have hlk : lookA x a wd k = false := look_out (.inl (by omega)) (isW_bd hw).1
            rw [hlk] at HLk
            clear hlk
            rcases hwd with rfl | rfl | rfl | rfl
            · go_wp2_with fail
              refine (HLk.out _ HD.out).mono ?_
              rintro e w5 ⟨rfl, hm5⟩
              have HD5 := Lib.hid hm5
              have HLo := Lib.hid (hm5.looks)
              clear hm5
              go_wp2_with fail
              refine HLo.out.mono ?_
              rintro e w' ⟨rfl, rfl⟩
              have HFa := Lib.hid (HD5.out.faults)
              go_wp2_with fail
              refine HFa.out.mono ?_
              rintro e w' ⟨rfl, rfl⟩
              go_wp2_with fail
              refine (HW.out _ HD5.out.bel).mono ?_
              rintro e w7 ⟨rfl, hb7⟩
              go_wp2
              go_ret
              exact ⟨rfl, hb7⟩
            · go_wp2_with fail
              refine (HLk.out _ HD.out).mono ?_
              rintro e w5 ⟨rfl, hm5⟩
              have HD5 := Lib.hid hm5
              have HLo := Lib.hid (hm5.looks)
              clear hm5
              go_wp2_with fail
              refine HLo.out.mono ?_
              rintro e w' ⟨rfl, rfl⟩
              have HFa := Lib.hid (HD5.out.faults)
              go_wp2_with fail
              refine HFa.out.mono ?_
              rintro e w' ⟨rfl, rfl⟩
              go_wp2_with fail
              refine (HW.out _ HD5.out.bel).mono ?_
              rintro e w7 ⟨rfl, hb7⟩
              go_wp2
              go_ret
              exact ⟨rfl, hb7⟩
            · go_wp2_with fail
              refine (HLk.out _ HD.out).mono ?_
              rintro e w5 ⟨rfl, hm5⟩
              have HD5 := Lib.hid hm5
              have HLo := Lib.hid (hm5.looks)
              clear hm5
              go_wp2_with fail
              refine HLo.out.mono ?_
              rintro e w' ⟨rfl, rfl⟩
              have HFa := Lib.hid (HD5.out.faults)
              go_wp2_with fail
              refine HFa.out.mono ?_
              rintro e w' ⟨rfl, rfl⟩
              go_wp2_with fail
              refine (HW.out _ HD5.out.bel).mono ?_
              rintro e w7 ⟨rfl, hb7⟩
              go_wp2
              go_ret
              exact ⟨rfl, hb7⟩
            · go_wp2_with fail
              refine (HLk.out _ HD.out).mono ?_
              rintro e w5 ⟨rfl, hm5⟩
              have HD5 := Lib.hid hm5
              have HLo := Lib.hid (hm5.looks)
              clear hm5
              go_wp2_with fail
              refine HLo.out.mono ?_
              rintro e w' ⟨rfl, rfl⟩
              have HFa := Lib.hid (HD5.out.faults)
              go_wp2_with fail
              refine HFa.out.mono ?_
              rintro e w' ⟨rfl, rfl⟩
              go_wp2_with fail
              refine (HW.out _ HD5.out.bel).mono ?_
              rintro e w7 ⟨rfl, hb7⟩
              go_wp2
              go_ret
              exact ⟨rfl, hb7⟩
        · have hw' : isW wd = false := by simpa using hw
          have hlk : lookA x a wd k = false := by simp [lookA, hw']
          rw [hlk] at HLk
          clear hlk
          simp [isW] at hw'
          obtain ⟨⟨⟨n1, n2⟩, n4⟩, n8⟩ := hw'
          have e1 : (wd == 1) = false := by simpa using n1
          have e2 : (wd == 2) = false := by simpa using n2
          have e4 : (wd == 4) = false := by simpa using n4
          have e8 : (wd == 8) = false := by simpa using n8
          clear hw
          go_wp2_with fail
          refine (HLk.out _ HD.out).mono ?_
          rintro e w5 ⟨rfl, hm5⟩
          have HD5 := Lib.hid hm5
          have HLo := Lib.hid (hm5.looks)
          clear hm5
          go_wp2_with fail
          refine HLo.out.mono ?_
          rintro e w' ⟨rfl, rfl⟩
          have HFa := Lib.hid (HD5.out.faults)
          go_wp2_with fail
          refine HFa.out.mono ?_
          rintro e w' ⟨rfl, rfl⟩
          go_wp2_with fail
          refine (HW.out _ HD5.out.bel).mono ?_
          rintro e w7 ⟨rfl, hb7⟩
          go_wp2
          go_ret
          exact ⟨rfl, hb7⟩
  · have hm' : mayW n = false := by simpa using hm
    rw [hm'] at HM
    clear hm hm'
    go_enter Try.func6, Try.ntmps6
    go_wp2_with fail
    refine HM.out.mono ?_
    rintro e w' ⟨rfl, rfl⟩
    go_wp2_with fail
    refine (HW.out _ (Below.refl _ _)).mono ?_
    rintro e w1 ⟨rfl, hb⟩
    go_wp2
    go_ret
    exact ⟨rfl, hb⟩
end Go.Proofs.Ytnpnigeghhcncaa.Wat
