/- Contracts of the document's Shared, of Below; names. -/
import Derived.Test.YthnlcfnfbilbdaaDoorNameD
import Derived.Test.YthnlcfnfbilbdaaDoorNameE
namespace Go.Proofs.YthnlcfnfbilbdaaDoor.Name
open Go.RowKit Fold
set_option linter.unusedVariables false

set_option maxRecDepth 100000 in
set_option maxHeartbeats 2000000 in
theorem refShared_any (v1 v2 : Value) (a b : List ByteArray) (w : World) (h1 : SRow w v1 a) (h2 : SRow w v2 b) (ha : ∀ i, i < a.length → (a.getD i ByteArray.empty).size ≤ 3000) (hb : ∀ i, i < b.length → (b.getD i ByteArray.empty).size ≤ 3000) (ha0 : a.length ≤ 1000000) (hb0 : b.length ≤ 1000000) :
    Calls Tryd.prog 18 #[v1, v2] w fun e w' => e = .returned (.int .i64 (shr a b)) ∧ Below w.heap.size w w' := by
  obtain ⟨ad, cap, rfl, q2, q3, q4, q5⟩ := h1
  obtain ⟨ad2, cap2, rfl, p2, p3, p4, p5⟩ := h2
  have HC := Lib.hid q5
  have HC2 := Lib.hid p5
  have HS1 := Lib.hid ha
  have HS2 := Lib.hid hb
  clear q4 q5 p4 p5 ha hb
  go_enter Tryd.func18, Tryd.ntmps18
  go_wp2
  go_loopw [5] (fun i wr => ∃ k : Nat, k ≤ a.length ∧ k ≤ b.length ∧ i = .int .i64 k ∧ Hid (shR (a.reverse.drop k) (b.reverse.drop k) + k = shr a b) ∧ Below w.heap.size w wr) (fun i _ => a.length - (intOf i).toNat)
  case atStart => exact ⟨0, Nat.zero_le _, Nat.zero_le _, rfl, rfl, Below.refl _ _⟩
  case round =>
    obtain ⟨k, hk, hk2, rfl, HD, hbel⟩ := hrel
    by_cases ha : k < a.length
    · have i1 : (k : Int) < (a.length : Int) := by omega
      have d1 : decide (k < a.length) = true := by simpa using ha
      by_cases hb : k < b.length
      · have i2 : (k : Int) < (b.length : Int) := by omega
        have d2 : decide (k < b.length) = true := by simpa using hb
        obtain ⟨b1, off1, rfl, hb1, hc1⟩ := HC.out (by rintro rfl; simp at ha)
        obtain ⟨b2, off2, rfl, hb2, hc2⟩ := HC2.out (by rintro rfl; simp at hb)
        have hcell1 := (hbel.cell (p := ⟨b1, off1 + (a.length - 1 - k), none⟩) hb1).trans (hc1 _ (by omega))
        have hcell2 := (hbel.cell (p := ⟨b2, off2 + (b.length - 1 - k), none⟩) hb2).trans (hc2 _ (by omega))
        have hz1 := HS1.out (a.length - 1 - k) (by omega)
        have hz2 := HS2.out (b.length - 1 - k) (by omega)
        obtain ⟨p1, hp1⟩ : ∃ p, p = a.length - 1 := ⟨_, rfl⟩
        obtain ⟨p2, hp2⟩ : ∃ p, p = a.length - 1 - k := ⟨_, rfl⟩
        obtain ⟨p3, hp3⟩ : ∃ p, p = b.length - 1 := ⟨_, rfl⟩
        obtain ⟨p4, hp4⟩ : ∃ p, p = b.length - 1 - k := ⟨_, rfl⟩
        have w1 : IntKind.i64.wrap ((a.length : Int) - 1) = (p1 : Int) := (wrap_id (by omega) (by omega)).trans (by omega)
        have w2 : IntKind.i64.wrap ((p1 : Int) - k) = (p2 : Int) := (wrap_id (by omega) (by omega)).trans (by omega)
        have w3 : IntKind.i64.wrap ((b.length : Int) - 1) = (p3 : Int) := (wrap_id (by omega) (by omega)).trans (by omega)
        have w4 : IntKind.i64.wrap ((p3 : Int) - k) = (p4 : Int) := (wrap_id (by omega) (by omega)).trans (by omega)
        have g2 : p2 < a.length := by omega
        have g4 : p4 < b.length := by omega
        have g5 : (p2 : Int) < (a.length : Int) := by omega
        have g6 : (p4 : Int) < (b.length : Int) := by omega
        rw [← hp2] at hcell1 hz1
        rw [← hp4] at hcell2 hz2
        have hD := HD.out
        rw [shR_step ha hb, ← hp2, ← hp4] at hD
        obtain ⟨x, hx⟩ : ∃ x, x = a.getD p2 ByteArray.empty := ⟨_, rfl⟩
        obtain ⟨y, hy⟩ : ∃ y, y = b.getD p4 ByteArray.empty := ⟨_, rfl⟩
        rw [← hx] at hcell1 hD hz1
        rw [← hy] at hcell2 hD hz2
        have KC1 := Kept.cell (B := wr.heap.size) hcell1 (by have := hbel.size; omega)
        have KC2 := Kept.cell (B := wr.heap.size) hcell2 (by have := hbel.size; omega)
        have hlow := sameS_low x y
        clear hc1 hc2 hx hy HD hp1 hp2 hp3 hp4 hcell1 hcell2
        by_cases he : sameS x y = true
        · rw [if_pos he] at hD
          have HD2 : Hid (shR (a.reverse.drop (k + 1)) (b.reverse.drop (k + 1)) + (k + 1) = shr a b) := by unfold Hid; omega
          have hXY : ((lowS x).toList == (lowS y).toList) = true := by rw [str_eqB]; simpa using hlow.2 he
          clear hD he hlow
          go_wp2_with fail
          refine wp_region_kept (by kernel_rfl) (by kernel_rfl) ?_
          repeat (quiet_step (first
            | (go_at_call 24; exact Calls.kept_of (refLower_any _ _ (by assumption)) (Nat.le_refl _))))
          refine wpQuiet_nil ?_
          intro _ hw'
          obtain ⟨kk, rfl⟩ := hw'
          have hb8 := hbel.trans (kk.below.mono hbel.size)
          go_wp2
          go_roundw
          case rel => exact ⟨k + 1, by omega, by omega, by go_num, HD2, hb8⟩
          case measure => simp [intOf]; omega
        · rw [if_neg he] at hD
          have HD2 : Hid (shr a b = k) := by unfold Hid; omega
          have hXY : ((lowS x).toList == (lowS y).toList) = false := by rw [str_eqB]; simpa using fun h => he (hlow.1 h)
          clear hD he hlow
          go_wp2_with fail
          refine wp_region_kept (by kernel_rfl) (by kernel_rfl) ?_
          repeat (quiet_step (first
            | (go_at_call 24; exact Calls.kept_of (refLower_any _ _ (by assumption)) (Nat.le_refl _))))
          refine wpQuiet_nil ?_
          intro _ hw'
          obtain ⟨kk, rfl⟩ := hw'
          have hb8 := hbel.trans (kk.below.mono hbel.size)
          go_wp2
          go_ret
          exact ⟨ret_int (by rw [HD2.out]), hb8⟩
      · have i2 : ¬ (k : Int) < (b.length : Int) := by omega
        have d2 : decide (k < b.length) = false := by simpa using hb
        have HD2 : Hid (shr a b = k) := by
          have := HD.out
          rw [shR_end (by omega)] at this
          unfold Hid; omega
        clear HD hb
        go_wp2_with fail
        go_quiet (fail)
        go_wp2
        go_ret
        exact ⟨ret_int (by rw [HD2.out]), below_drewN' hbel _⟩
    · have i1 : ¬ (k : Int) < (a.length : Int) := by omega
      have d1 : decide (k < a.length) = false := by simpa using ha
      have HD2 : Hid (shr a b = k) := by
        have := HD.out
        rw [shR_end (by omega)] at this
        unfold Hid; omega
      clear HD ha
      go_wp2_with fail
      go_quiet (fail)
      go_wp2
      go_ret
      exact ⟨ret_int (by rw [HD2.out]), below_drewN' hbel _⟩

theorem below_any (v1 v2 : Value) (a b : List ByteArray) (w : World) (h1 : SRow w v1 a) (h2 : SRow w v2 b) :
    Calls Tryd.prog 20 #[v1, v2] w fun e w' => e = .returned (.bool (decide (shr a b = b.length))) ∧ ∃ m, w' = w.drewN m := by
  have HS := Lib.hid (shared_any v1 v2 a b w h1 h2)
  obtain ⟨ad2, cap2, rfl, p2, p3, p4, p5⟩ := h2
  clear p4 p5
  go_enter Tryd.func20, Tryd.ntmps20
  go_wp2_with fail
  refine HS.out.mono ?_
  rintro e w1 ⟨rfl, hm⟩
  have HM := Lib.hid hm
  clear hm
  go_wp2
  go_ret
  exact ⟨ret_bool (by rw [Bool.eq_iff_iff, beq_iff_eq, decide_eq_true_eq]; omega), HM.out⟩
end Go.Proofs.YthnlcfnfbilbdaaDoor.Name
