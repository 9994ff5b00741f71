/- The walk of the statement NumBack. -/
import Derived.Test.YtbigoonacdmkeaaNumI
import Derived.Test.YtbigoonacdmkeaaNumJ
import Derived.Deep.RegionWith
import Derived.Deep.RegionHeld3
import Derived.WalkSmall
namespace Go.Proofs.Ytbigoonacdmkeaa.Num
open Go.RowKit
set_option linter.unusedVariables false

theorem and_mask (v : Int) (h0 : 0 ≤ v) (h1 : v < 18446744073709551616) : bits .and .u64 v 4294967295 = v % 4294967296 := by
  obtain ⟨n, rfl⟩ := Int.eq_ofNat_of_zero_le h0
  rw [show (4294967295 : Int) = ((4294967295 : Nat) : Int) from rfl, u64_and_nat n 4294967295 (by omega) (by omega)]
  have : n &&& 4294967295 = n % 4294967296 := Nat.and_two_pow_sub_one_eq_mod n 32
  rw [this]
  omega

theorem le_parts4 (v : Int) (h0 : 0 ≤ v) (h1 : v < 4294967296) : le ((parts v).take 4) = v := by
  simp [parts, le]
  omega

theorem fits4 (v : Int) (h1 : v < 4294967296) : fits v 4 = true := by
  simp [fits, isW]; omega

theorem _root_.Go.Proofs.Ytbigoonacdmkeaa.Row.cellAt {k : IntKind} {w : World} {a : Option Addr} {n cap : Nat} {l : List Int} (h : Row k w (.slice a n cap) l) (j : Nat) (hj : j < l.length) :
    ∃ b off, a = some ⟨b, off, none⟩ ∧ b < w.heap.size ∧ w.cell? ⟨b, off + j, none⟩ = some (.int k (l.getD j 0)) := by
  obtain ⟨a', cap', e, h2, h3, h4, h5⟩ := h
  injection e with e1 e2 e3
  subst e1
  obtain ⟨b, off, e, hb, hc⟩ := h5 (List.ne_nil_of_length_pos (by omega))
  exact ⟨b, off, e, hb, hc j hj⟩

/-- What was stored in four bytes is loaded. -/
theorem back4 {L : List Int} {a v : Int} (h0 : 0 ≤ v) (h1 : v < 4294967296) (he : ste L a 4 v = 0) :
    0 ≤ a ∧ a + 4 ≤ L.length ∧ (stl L a.toNat 4 v).length = L.length ∧ ldv (stl L a.toNat 4 v) a 4 = (v, 0) ∧
      ∀ j, j < L.length → ((j : Int) < a ∨ 4 ≤ (j : Int) - a) → (stl L a.toNat 4 v).getD j 0 = L.getD j 0 := by
  have hp : plc L.length a 4 = 0 := by simpa [ste, fits4 v h1] using he
  obtain ⟨p1, p2, p3⟩ := plc_ok hp
  obtain ⟨m, rfl⟩ := Int.eq_ofNat_of_zero_le p1
  rw [Int.toNat_natCast]
  have hL := stl_length L m 4 v (by omega) (by omega)
  refine ⟨p1, by omega, hL, ?_, fun j hj hor => ?_⟩
  · have e : ((stl L m 4 v).drop m).take 4 = (parts v).take 4 := by
      have hm : (L.take m).length = m := by simp; omega
      unfold stl
      rw [List.drop_append_of_le_length (by omega), List.drop_eq_nil_of_le (by omega), List.nil_append, List.take_append_of_le_length (by rw [List.length_take, parts_length]; omega), List.take_take]
      rfl
    have hp' : plc ((stl L m 4 v).length) m 4 = 0 := by rw [hL]; exact hp
    simp [ldv, show isW 4 = true by decide, hp']
    rw [e, le_parts4 v h0 h1]
  · rcases hor with h | h
    · exact stl_low L m 4 j v (by omega) (by omega)
    · exact stl_high L m 4 j v (by omega) (by omega) (by omega)

set_option maxHeartbeats 8000000 in
set_option maxRecDepth 100000 in
theorem numBack_walk (u ua uv : Value) (l A V : List Int) (w : World) (hr : Row .u8 w u l) (ha : Row .i64 w ua A) (hv : Row .u64 w uv V) :
    Calls Try.prog 6 #[u, ua, uv] w fun e w' => e = .returned (.bool true) ∧ Below w.heap.size w w' := by
  have R := Lib.hid hr
  have RA := Lib.hid ha
  have RV := Lib.hid hv
  obtain ⟨ad, cap, rfl, h2, h3, h4, h5⟩ := hr
  obtain ⟨aa, capa, rfl, ha2, ha3, ha4, ha5⟩ := ha
  obtain ⟨av, capv, rfl, hv2, hv3, hv4, hv5⟩ := hv
  have HA := Lib.hid ha5
  have HV := Lib.hid hv5
  have HA4 := Lib.hid ha4
  have HV4 := Lib.hid hv4
  clear h4 h5 ha4 ha5 hv4 hv5
  by_cases hl : 300 < l.length
  · go_enter Try.func6, Try.ntmps6
    go_wp2_with (first
      | (go_at_call 8; refine (loads_any _).mono ?_; rintro e w' ⟨rfl, hb⟩))
    go_ret
    exact ⟨rfl, hb⟩
  · by_cases hA : 40 < A.length
    · go_enter Try.func6, Try.ntmps6
      go_wp2_with (first
        | (go_at_call 8; refine (loads_any _).mono ?_; rintro e w' ⟨rfl, hb⟩))
      go_ret
      exact ⟨rfl, hb⟩
    · by_cases hVA : V.length < A.length
      · go_enter Try.func6, Try.ntmps6
        go_wp2_with (first
          | (go_at_call 8; refine (loads_any _).mono ?_; rintro e w' ⟨rfl, hb⟩))
        go_ret
        exact ⟨rfl, hb⟩
      · go_enter Try.func6, Try.ntmps6
        go_wp2_with fail
        go_loopw [7, 8] (fun now i wr => ∃ (k : Nat) (L : List Int), k ≤ A.length ∧ i = .int .i64 k ∧ Hid (Row .u8 wr now L) ∧ Hid (L.length = l.length) ∧ Below w.heap.size w wr) (fun _ i _ => A.length - (intOf i).toNat)
        case atStart => exact ⟨0, l, Nat.zero_le _, rfl, R, rfl, Below.refl _ _⟩
        case round =>
          obtain ⟨k, L, hk, rfl, RN, HL, hbel⟩ := hrel
          have RN0 := RN
          obtain ⟨an, capn, rfl, nn2, nn3, nn4, nn5⟩ := RN0.out
          have HN := Lib.hid nn5
          clear nn4 nn5 RN0
          by_cases hlt : k < A.length
          · obtain ⟨ba, oa, rfl, hba, hca⟩ := HA.out (List.ne_nil_of_length_pos (by omega))
            obtain ⟨bv, ov, rfl, hbv, hcv⟩ := HV.out (List.ne_nil_of_length_pos (by omega))
            have hca1 := (hbel.cell (p := ⟨ba, oa + k, none⟩) hba).trans (hca k hlt)
            have hcv1 := (hbel.cell (p := ⟨bv, ov + k, none⟩) hbv).trans (hcv k (by omega))
            have hcv0 := Lib.hid (hcv k (by omega))
            have wa := bounds_i64 (HA4.out k hlt)
            have wv := bounds_u64 (HV4.out k (by omega))
            obtain ⟨a, hae⟩ : ∃ a, a = A.getD k 0 := ⟨_, rfl⟩
            obtain ⟨v, hve⟩ : ∃ v, v = V.getD k 0 := ⟨_, rfl⟩
            rw [← hae] at hca1 wa
            rw [← hve] at hcv1 wv hcv0
            clear hae hve hca hcv
            obtain ⟨wa1, wa2⟩ := wa
            obtain ⟨wv1, wv2⟩ := wv
            have hklt : (k : Int) < (A.length : Int) := by omega
            have hklt2 : (k : Int) < (V.length : Int) := by omega
            go_wp2_with fail
            obtain ⟨V4, hV⟩ : ∃ V4 : Int, V4 = v % 4294967296 := ⟨_, rfl⟩
            have hV4 : bits .and .u64 v 4294967295 = V4 := by rw [and_mask v (by omega) (by omega), hV]
            have hV0 : 0 ≤ V4 := by omega
            have hV1 : V4 < 4294967296 := by omega
            clear hV
            have RN' := Lib.hid (RN.out.mono (Below.refl wr.heap.size wr).drew (Nat.le_refl _))
            have hL300 : L.length ≤ 281474976710656 := by have := HL.out; omega
            obtain ⟨E, hE⟩ : ∃ E, E = ste L a 4 V4 := ⟨_, rfl⟩
            have HE := Lib.hid hE
            by_cases h0 : E = 0
            · subst h0
              have HE0 := Lib.hid hE.symm
              clear HE hE
              obtain ⟨q1, q2, q3, q4, q5⟩ := back4 hV0 hV1 HE0.out
              obtain ⟨S, hS⟩ : ∃ S, S = stl L a.toNat 4 V4 := ⟨_, rfl⟩
              have HS := Lib.hid hS.symm
              rw [← hS] at q3 q4 q5
              clear hS
              have Q3 := Lib.hid q3
              have Q4 := Lib.hid q4
              have Q5 := Lib.hid q5
              have hLl : L.length = l.length := HL.out
              have q2' : a + 4 ≤ (l.length : Int) := by omega
              have hlen1 : ((S.length : Int) == (l.length : Int)) = true := by rw [beq_iff_eq]; omega
              have hlen2 : ((S.length : Int) != (l.length : Int)) = false := by rw [bne_eq_false_iff_eq]; omega
              have QL : Hid (S.length = l.length) := by unfold Hid; omega
              clear q3 q4 q5 hLl q2
              go_region_with (go_at_call 11; refine (store_any _ a 4 V4 L _ RN'.out (by omega) (by omega) hL300).mono ?_; rintro e w1 ⟨u1, rfl, hb1, hr1⟩; rw [HE0.out]; rw [if_pos HE0.out] at hr1; obtain ⟨sa, caps, rfl, ss2, ss3, ss4, ss5⟩ := hr1)
              all_goals
                have RS1 : Hid (Row .u8 w1 (.slice sa S.length caps) S) := by unfold Hid; rw [← HS.out]; exact ⟨sa, caps, rfl, ss2, ss3, ss4, ss5⟩
                have hB1 : Below w.heap.size w w1 := hbel.drew.trans (hb1.mono hbel.size)
                have hN1 : Below wr.heap.size wr w1 := (Below.refl _ wr).drew.trans hb1
                have HSL := Lib.hid (congrArg List.length HS.out)
                clear ss2 ss3 ss4 ss5 hb1
                rw [HSL.out]
                have hca2 := (hN1.cell (p := ⟨ba, oa + k, none⟩) (show ba < wr.heap.size by have := hbel.size; omega)).trans hca1
                clear hca1 hcv1
                go_wp2_with fail
                refine (load_any _ a 4 S _ RS1.out).mono ?_
                rintro e w2 ⟨rfl, hb2⟩
                rw [Q4.out]
                have hB2 := hB1.trans (hb2.mono hB1.size)
                have hN2 := hN1.trans (hb2.mono hN1.size)
                have RS2 := Lib.hid (RS1.out.mono hb2 (Nat.le_refl _))
                have RN2 := Lib.hid (RN.out.mono hN2 (Nat.le_refl _))
                have hca3 := (hb2.cell (p := ⟨ba, oa + k, none⟩) (show ba < w1.heap.size by have := hB1.size; omega)).trans hca2
                have hcv3 := (hB2.cell (p := ⟨bv, ov + k, none⟩) (show bv < w.heap.size by omega)).trans (hcv0.out)
                clear hca2 hB1 hN1 hb2 RS1
                go_wp2_with fail
                have hq1 : 0 ≤ a := q1
                clear hcv3 hlen1 hlen2
                go_loopw [13] (fun jj wi => ∃ j : Nat, j ≤ l.length ∧ jj = .int .i64 j ∧ Below w2.heap.size w2 wi) (fun jj _ => l.length - (intOf jj).toNat)
                case atStart => exact ⟨0, Nat.zero_le _, rfl, Below.refl _ _⟩
                case round =>
                  obtain ⟨j, hj, rfl, hbi⟩ := hrel
                  have RSi := Lib.hid (RS2.out.mono hbi (Nat.le_refl _))
                  have RNi := Lib.hid (RN2.out.mono hbi (Nat.le_refl _))
                  have hca4 := (hbi.cell (p := ⟨ba, oa + k, none⟩) (show ba < w2.heap.size by have := hB2.size; omega)).trans hca3
                  by_cases hjl : j < l.length
                  · obtain ⟨gs, os, rfl, hgs, hcs⟩ := RSi.out.cellAt j (by have := QL.out; omega)
                    obtain ⟨gn, on, rfl, hgn, hcn⟩ := RNi.out.cellAt j (by have := HL.out; omega)
                    have b1 : (j : Int) < (S.length : Int) := by have := QL.out; omega
                    have b2 : (j : Int) < (L.length : Int) := by have := HL.out; omega
                    have b3 : (j : Int) < (l.length : Int) := by omega
                    by_cases hlo : (j : Int) < a
                    · have hx := Q5.out j (by have := HL.out; omega) (.inl hlo)
                      rw [hx] at hcs
                      clear hx
                      obtain ⟨x, hx⟩ : ∃ x, x = L.getD j 0 := ⟨_, rfl⟩
                      rw [← hx] at hcs hcn
                      clear hx
                      have hd1 : decide ((j : Int) < a) = true := by simpa using hlo
                      go_wp2_with fail
                      go_quiet (fail)
                      go_wp2
                      go_roundw
                      case rel => exact ⟨j + 1, by omega, by go_num, below_drewN hbi _⟩
                      case measure => simp [intOf]; omega
                    · have hd1 : decide ((j : Int) < a) = false := by simpa using hlo
                      by_cases hhi : 4 ≤ (j : Int) - a
                      · have hx := Q5.out j (by have := HL.out; omega) (.inr hhi)
                        rw [hx] at hcs
                        clear hx
                        obtain ⟨x, hx⟩ : ∃ x, x = L.getD j 0 := ⟨_, rfl⟩
                        rw [← hx] at hcs hcn
                        clear hx
                        have hd2 : decide (4 ≤ (j : Int) - a) = true := by simpa using hhi
                        have hw1 : IntKind.i64.wrap ((j : Int) - a) = (j : Int) - a := IntWalk.i64_in _ (by omega)
                        go_wp2_with fail
                        go_quiet (fail)
                        clear hw1
                        go_wp2
                        go_roundw
                        case rel => exact ⟨j + 1, by omega, by go_num, below_drewN hbi _⟩
                        case measure => simp [intOf]; omega
                      · have hd2 : decide (4 ≤ (j : Int) - a) = false := by simpa using hhi
                        have hw1 : IntKind.i64.wrap ((j : Int) - a) = (j : Int) - a := IntWalk.i64_in _ (by omega)
                        go_wp2_with fail
                        go_quiet (fail)
                        clear hw1
                        go_wp2
                        go_roundw
                        case rel => exact ⟨j + 1, by omega, by go_num, below_drewN hbi _⟩
                        case measure => simp [intOf]; omega
                  · obtain rfl : j = l.length := by omega
                    go_wp2
                    go_roundw
                    case rel => exact ⟨k + 1, S, by omega, by go_num, RSi, QL, hB2.trans (hbi.mono hB2.size)⟩
                    case measure => simp [intOf]; omega
            · have g1 : (E != 0) = true := by simpa using h0
              have g2 : (E == 0) = false := by simpa using h0
              clear h0 hE
              go_region_with (go_at_call 11; refine (store_any _ a 4 V4 L _ RN'.out (by omega) (by omega) hL300).mono ?_; rintro e w1 ⟨u1, rfl, hb1, hr1⟩; rw [← HE.out])
              all_goals
                have RN1 := Lib.hid (RN'.out.mono hb1 (Nat.le_refl _))
                have hB1 : Below w.heap.size w w1 := hbel.drew.trans (hb1.mono hbel.size)
                clear hr1 hb1
                go_wp2
                go_roundw
                case rel => exact ⟨k + 1, L, by omega, by go_num, RN1, HL, hB1⟩
                case measure => simp [intOf]; omega
          · obtain rfl : k = A.length := by omega
            go_wp2_with (first
              | (go_at_call 8; refine (loads_any _).mono ?_; rintro e w' ⟨rfl, hb⟩))
            go_ret
            exact ⟨rfl, hbel.trans (hb.mono hbel.size)⟩
end Go.Proofs.Ytbigoonacdmkeaa.Num
