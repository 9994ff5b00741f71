/- The example of the page; two rows of runs compared. -/
import Derived.Test.YtnpnigeghhcncaaWatG
namespace Go.Proofs.Ytnpnigeghhcncaa.Wat
open Go.RowKit Num Arn
set_option linter.unusedVariables false

set_option maxRecDepth 100000 in
theorem sameW_any (v1 v2 : Value) (P : List Rn) (w : World) (h1 : RowR w v1 P) (h2 : RowR w v2 P) :
    Calls Try.prog 21 #[v1, v2] w fun e w' => e = .returned (.bool true) ∧ ∃ m, w' = w.drewN m := by
  obtain ⟨a1, k1, rfl, q1, q2, g1⟩ := h1
  obtain ⟨a2, k2, rfl, -, -, g2⟩ := h2
  have G1 := Lib.hid g1
  have G2 := Lib.hid g2
  have hPl : (P.length : Int) ≤ 9223372036854775807 := by omega
  clear g1 g2
  go_enter Try.func21, Try.ntmps21
  go_wp2
  go_loopw [5] (fun i wr => ∃ k : Nat, k ≤ P.length ∧ i = .int .i64 k ∧ Hid (∃ m, wr = w.drewN m)) (fun i _ => P.length - (intOf i).toNat)
  case atStart => exact ⟨0, Nat.zero_le _, rfl, 0, rfl⟩
  case round =>
    obtain ⟨k, hk, rfl, HW⟩ := hrel
    by_cases hlt : k < P.length
    · have hlt1 : (k : Int) < (P.length : Int) := by omega
      have hlt0 : (0 : Int) ≤ (k : Int) := by omega
      have hbel := Arn.below_drawn (Below.refl w.heap.size w) HW.out
      obtain ⟨b1, o1, rfl, hb1, hc1⟩ := G1.out (by rintro rfl; simp at hlt)
      obtain ⟨b2, o2, rfl, hb2, hc2⟩ := G2.out (by rintro rfl; simp at hlt)
      have c1 : wr.cell? ⟨b1, o1 + k * 3, none⟩ = _ := (hbel.cell (p := ⟨b1, o1 + k * 3, none⟩) hb1).trans (hc1 k hlt 0 _ rfl)
      have c2 := (hbel.cell (p := ⟨b1, o1 + k * 3 + 1, none⟩) hb1).trans (hc1 k hlt 1 _ rfl)
      have c3 := (hbel.cell (p := ⟨b1, o1 + k * 3 + 2, none⟩) hb1).trans (hc1 k hlt 2 _ rfl)
      have c4 : wr.cell? ⟨b2, o2 + k * 3, none⟩ = _ := (hbel.cell (p := ⟨b2, o2 + k * 3, none⟩) hb2).trans (hc2 k hlt 0 _ rfl)
      have c5 := (hbel.cell (p := ⟨b2, o2 + k * 3 + 1, none⟩) hb2).trans (hc2 k hlt 1 _ rfl)
      have c6 := (hbel.cell (p := ⟨b2, o2 + k * 3 + 2, none⟩) hb2).trans (hc2 k hlt 2 _ rfl)
      obtain ⟨x, hx⟩ : ∃ x, x = P.getD k (0, 0, 0) := ⟨_, rfl⟩
      rw [← hx] at c1 c2 c3 c4 c5 c6
      obtain ⟨x1, x2, x3⟩ := x
      simp only [] at c1 c2 c3 c4 c5 c6
      clear hc1 hc2 hx hbel
      go_wp2_with fail
      go_quiet (fail)
      go_wp2
      go_roundw
      case rel => exact ⟨k + 1, by omega, by go_num, Arn.drewN_more HW.out _⟩
      case measure => simp [intOf]; omega
    · obtain rfl : k = P.length := by omega
      go_wp2
      go_ret
      exact ⟨rfl, HW.out⟩

def exK : List Int := [0, 0, 0, 0, 5, 5, 5, 5, 5, 5, 5, 5, 0, 0, 0, 0]
theorem exMark : mrkA (List.replicate 16 0) 4 8 5 = (exK, 0) := by decide +kernel
theorem exLook : lookA exK 8 4 5 = true := by decide +kernel
theorem exLook2 : lookA exK 8 8 5 = false := by decide +kernel
theorem exRuns : rl exK exK.length = [(0, 4, 0), (4, 8, 5), (12, 4, 0)] := by decide +kernel
theorem exSum : cntA exK 5 = 8 := by decide +kernel
theorem exKind : kndA exK 4 8 = 5 := by decide +kernel

set_option maxRecDepth 100000 in
set_option maxHeartbeats 4000000 in
theorem watches_any (w : World) : Calls Try.prog 8 #[] w fun e w' => e = .returned (.bool true) ∧ Below w.heap.size w w' := by
  have HN : Hid (Calls Try.prog 9 #[.int .i64 16] w fun e w' => ∃ v h, e = .returned v ∧ WaC h w' v (List.replicate 16 0) 0 0 ∧ Below w.heap.size w w' ∧ ∀ k, blkW h k → w.heap.size ≤ k) := new_yes 16 w (by decide)
  go_enter Try.func8, Try.ntmps8
  go_wp2_with fail
  refine HN.out.mono ?_
  rintro e w1 ⟨v, h, rfl, ha1, hb1, hk⟩
  obtain rfl := ha1.1
  have HK := Lib.hid hk
  have HM := Lib.hid (mark_any h _ _ 0 0 4 8 5 w1 ha1 (by unfold is64; omega))
  rw [exMark] at HM
  have HB1 := Lib.hid hb1
  clear hk ha1 hb1 HN
  go_wp2_with fail
  refine HM.out.mono ?_
  rintro e w2 ⟨rfl, ha2, hf2⟩
  have HB2 := Lib.hid (HB1.out.trans (hf2.toBelow HB1.out.size (fun k hk hh => by have := HK.out k hh; omega)))
  have HL := Lib.hid (look_any h _ _ 0 0 8 4 5 w2 ha2 (by unfold is64; omega) (by omega) (by omega))
  simp only [] at HL
  rw [exLook] at HL
  clear HM hf2 ha2 HB1
  go_wp2_with fail
  refine HL.out.mono ?_
  rintro e w3 ⟨rfl, ha3, hf3⟩
  have HB3 := Lib.hid (HB2.out.trans (hf3.toBelow HB2.out.size (fun k hk hh => by have := HK.out k hh; omega)))
  simp only [if_pos] at ha3
  have HL2 := Lib.hid (look_any h _ _ 1 0 8 8 5 w3 ha3 (by unfold is64; omega) (by omega) (by omega))
  rw [exLook2] at HL2
  clear HL hf3 ha3 HB2
  go_wp2_with fail
  refine HL2.out.mono ?_
  rintro e w4 ⟨rfl, ha4, hf4⟩
  have HB4 := Lib.hid (HB3.out.trans (hf4.toBelow HB3.out.size (fun k hk hh => by have := HK.out k hh; omega)))
  replace ha4 : WaC h w4 (.pointer (some ⟨h.g, 0, none⟩)) exK 2 1 := ha4
  have HR := Lib.hid (runsC_any h _ _ 2 1 w4 ha4)
  rw [exRuns] at HR
  have HA4 := Lib.hid ha4
  clear HL2 hf4 ha4 HB3
  go_wp2_with fail
  refine HR.out.mono ?_
  rintro e w5 ⟨u, rfl, hrow, hb5⟩
  have ha5 := HA4.out.below hb5
  have HB5 := Lib.hid (HB4.out.trans (hb5.mono HB4.out.size))
  obtain ⟨ad, cap, rfl, hcap, -, hrc⟩ := hrow
  obtain ⟨b, off, rfl, hlt, hc⟩ := hrc (by simp)
  have d0 : w5.cell? ⟨b, off + 3, none⟩ = some (.int .i64 4) := hc 1 (by decide) 0 _ rfl
  have d1 : w5.cell? ⟨b, off + 3 + 1, none⟩ = some (.int .i64 8) := hc 1 (by decide) 1 _ rfl
  have d2 : w5.cell? ⟨b, off + 3 + 2, none⟩ = some (.int .i64 5) := hc 1 (by decide) 2 _ rfl
  have HLo := Lib.hid (looks_any h _ _ 2 1 w5 ha5)
  have HFa := Lib.hid (faults_any h _ _ 2 1 w5 ha5)
  have HSu := Lib.hid (sum_any h _ _ 2 1 5 w5 ha5)
  rw [exSum] at HSu
  have HA5 := Lib.hid ha5
  clear hrc hc hb5 ha5 HA4 HR HB4
  go_wp2_with fail
  refine HLo.out.mono ?_
  rintro e w' ⟨rfl, rfl⟩
  go_wp2_with fail
  refine HFa.out.mono ?_
  rintro e w' ⟨rfl, rfl⟩
  go_wp2_with fail
  refine HSu.out.mono ?_
  rintro e w6 ⟨rfl, hb6⟩
  have HKi := Lib.hid (kind_any h _ _ 2 1 4 8 w6 (HA5.out.below hb6) (by unfold is64; omega))
  rw [exKind] at HKi
  have HB6 := Lib.hid (HB5.out.trans (hb6.mono HB5.out.size))
  clear hb6
  go_wp2_with fail
  refine HKi.out.mono ?_
  rintro e w7 ⟨rfl, hb7⟩
  have HB7 := Lib.hid (HB6.out.trans (hb7.mono HB6.out.size))
  clear hb7
  go_wp2
  go_ret
  exact ⟨rfl, HB7.out⟩
end Go.Proofs.Ytnpnigeghhcncaa.Wat
