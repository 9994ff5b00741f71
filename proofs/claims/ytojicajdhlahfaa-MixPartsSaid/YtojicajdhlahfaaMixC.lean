/- The walks of the statements MixSteps, MixBack, MixApart. -/
import Derived.Test.YtojicajdhlahfaaMixB
namespace Go.Proofs.Ytojicajdhlahfaa.Mix
open Go.RowKit
set_option linter.unusedVariables false

theorem mixBack_walk (h b : Int) (w : World) (h1 : 0 ≤ h) (h2 : h < 4294967296) (h3 : 0 ≤ b) (h4 : b < 256) :
    Calls Try.prog 5 #[.int .u32 h, .int .u8 b] w fun e w' => e = .returned (.bool true) ∧ Below w.heap.size w w' := by
  have e1 := Lib.hid (bck_stp h1 h2 h3 h4)
  have e2 := Lib.hid (stp_bck h1 h2 h3 h4)
  have b1 := stp_bd h b
  have b2 := @bck_bd h b h4
  go_enter Try.func5, Try.ntmps5
  go_wp2_with fail
  refine (step_any _ _ _ h1 h2 h3 h4).mono ?_
  rintro e w1 ⟨rfl, rfl⟩
  go_wp2_with fail
  refine (back_any _ _ _ b1.1 b1.2 h3 h4).mono ?_
  rintro e w1 ⟨rfl, rfl⟩
  rw [e1.out]
  go_wp2_with fail
  refine (back_any _ _ _ h1 h2 h3 h4).mono ?_
  rintro e w1 ⟨rfl, rfl⟩
  go_wp2_with fail
  refine (step_any _ _ _ b2.1 b2.2 h3 h4).mono ?_
  rintro e w1 ⟨rfl, rfl⟩
  rw [e2.out]
  go_wp2_with fail
  refine (back_any _ _ _ h1 h2 h3 h4).mono ?_
  rintro e w1 ⟨rfl, rfl⟩
  go_wp2_with fail
  refine (refStep_any _ _ _ b2.1 b2.2 h3 h4).mono ?_
  rintro e w1 ⟨rfl, hm⟩
  rw [e2.out]
  have hb := below_drawn (Below.refl w.heap.size w) hm
  clear hm
  go_wp2_with fail
  refine (mixes_any _).mono ?_
  rintro e w2 ⟨rfl, hb2⟩
  go_wp2
  go_ret
  exact ⟨rfl, hb.trans (hb2.mono hb.size)⟩

theorem mixApart_walk (v : Value) (g h : Int) (l : List Int) (w : World) (g1 : 0 ≤ g) (g2 : g < 4294967296) (h1 : 0 ≤ h) (h2 : h < 4294967296) (hr : Row .u8 w v l) :
    Calls Try.prog 6 #[.int .u32 g, .int .u32 h, v] w fun e w' => e = .returned (.bool true) ∧ Below w.heap.size w w' := by
  have e1 := run_inj g1 g2 h1 h2 l hr.bytes
  have e2 := @key_inj g h 7 g1 g2 h1 h2 (by decide) (by decide)
  have C1 := Lib.hid (fun w hr => bytes_any v g l w g1 g2 hr)
  have C2 := Lib.hid (fun w hr => bytes_any v h l w h1 h2 hr)
  have HR := Lib.hid hr
  obtain ⟨ad, cap, rfl, q2, q3, q4, q5⟩ := hr
  clear q4 q5
  by_cases hl : 3000 < (l.length : Int)
  · go_enter Try.func6, Try.ntmps6
    go_wp2_with fail
    refine (mixes_any _).mono ?_
    rintro e w2 ⟨rfl, hb2⟩
    go_wp2
    go_ret
    exact ⟨rfl, hb2⟩
  · obtain ⟨x, hx⟩ : ∃ x, x = run g l := ⟨_, rfl⟩
    obtain ⟨y, hy⟩ : ∃ y, y = run h l := ⟨_, rfl⟩
    rw [← hx] at C1 e1
    rw [← hy] at C2 e1
    clear hx hy
    have K1 := Lib.hid (fun w => key_any g 7 w g1 g2 (by decide) (by decide))
    have K2 := Lib.hid (fun w => key_any h 7 w h1 h2 (by decide) (by decide))
    obtain ⟨p, hp⟩ : ∃ p, p = key g 7 := ⟨_, rfl⟩
    obtain ⟨q, hq⟩ : ∃ q, q = key h 7 := ⟨_, rfl⟩
    rw [← hp] at K1 e2
    rw [← hq] at K2 e2
    clear hp hq
    have f1 : ((x == y) == (g == h)) = true := by rw [beq_iff_eq, Bool.eq_iff_iff, beq_iff_eq, beq_iff_eq]; exact e1
    have f2 : ((p == q) == (g == h)) = true := by rw [beq_iff_eq, Bool.eq_iff_iff, beq_iff_eq, beq_iff_eq]; exact e2
    clear e1 e2
    go_enter Try.func6, Try.ntmps6
    go_wp2_with fail
    refine (C1.out _ HR.out).mono ?_
    rintro e w1 ⟨rfl, rfl⟩
    go_wp2_with fail
    refine (C2.out _ HR.out).mono ?_
    rintro e w1 ⟨rfl, rfl⟩
    go_wp2_with fail
    refine (K1.out _).mono ?_
    rintro e w1 ⟨rfl, hb1⟩
    go_wp2_with fail
    refine (K2.out _).mono ?_
    rintro e w2 ⟨rfl, hb2⟩
    have hb3 := hb1.trans (hb2.mono hb1.size)
    clear hb1 hb2
    go_wp2_with fail
    refine (mixes_any _).mono ?_
    rintro e w3 ⟨rfl, hb4⟩
    go_wp2
    go_ret
    exact ⟨rfl, hb3.trans (hb4.mono hb3.size)⟩

theorem mixSteps_walk (v : Value) (h : Int) (l : List Int) (w : World) (h1 : 0 ≤ h) (h2 : h < 4294967296) (hr : Row .u8 w v l) :
    Calls Try.prog 3 #[.int .u32 h, v] w fun e w' => e = .returned (.bool true) ∧ Below w.heap.size w w' := by
  have HR := Lib.hid hr
  have HB := Lib.hid hr.bytes
  obtain ⟨ad, cap, rfl, q2, q3, q4, q5⟩ := hr
  have HC := Lib.hid q5
  clear q4 q5
  by_cases hl : 3000 < (l.length : Int)
  · go_enter Try.func3, Try.ntmps3
    go_wp2_with fail
    refine (mixes_any _).mono ?_
    rintro e w2 ⟨rfl, hb2⟩
    go_wp2
    go_ret
    exact ⟨rfl, hb2⟩
  · go_enter Try.func3, Try.ntmps3
    go_wp2
    go_loopw [5] (fun i wr => ∃ k : Nat, k ≤ 3 ∧ k ≤ l.length ∧ i = .int .i64 k ∧ Below w.heap.size w wr) (fun i _ => 3 - (intOf i).toNat)
    case atStart => exact ⟨0, by omega, by omega, rfl, Below.refl _ _⟩
    case round =>
      obtain ⟨k, hk3, hk, rfl, hb⟩ := hrel
      by_cases hlt : k < l.length ∧ k < 3
      · obtain ⟨hlt1, hlt2⟩ := hlt
        have hlt3 : (k : Int) < 3 := by omega
        obtain ⟨b, off, rfl, hlb, hc⟩ := HC.out (by rintro rfl; simp at hlt1)
        have hcell := (hb.cell (p := ⟨b, off + k, none⟩) hlb).trans (hc k hlt1)
        have hbd := HB.out k
        obtain ⟨c, hce⟩ : ∃ c, c = l.getD k 0 := ⟨_, rfl⟩
        rw [← hce] at hcell hbd
        obtain ⟨c1, c2⟩ := hbd
        have KC := Kept.cell (B := wr.heap.size) hcell (by have := hb.size; omega)
        clear hce hc HC
        go_wp2_with fail
        refine wp_region_kept (by kernel_rfl) (by kernel_rfl) ?_
        repeat (quiet_step (first
          | (go_at_call 9; exact Calls.kept_same (step_any _ _ _ h1 h2 c1 c2))
          | (go_at_call 10; exact Calls.kept_drew (refStep_any _ _ _ h1 h2 c1 c2))))
        refine wpQuiet_nil ?_
        intro _ hw'
        obtain ⟨kk, rfl⟩ := hw'
        have hb8 := hb.trans (kk.below.mono hb.size)
        go_wp2
        go_roundw
        case rel => exact ⟨k + 1, by omega, by omega, by go_num, hb8⟩
        case measure => simp [intOf]; omega
      · have hcase : (¬ (k : Int) < (l.length : Int)) ∨ ((k : Int) < (l.length : Int) ∧ ¬ (k : Int) < 3) := by omega
        have C1 := Lib.hid (fun w hr => bytes_any (.slice ad l.length cap) h l w h1 h2 hr)
        have C2 := Lib.hid (fun w hr => refBytes_any (.slice ad l.length cap) h l w h1 h2 hr)
        have HR1 := Lib.hid (HR.out.mono hb (Nat.le_refl _))
        obtain ⟨x, hx⟩ : ∃ x, x = run h l := ⟨_, rfl⟩
        rw [← hx] at C1 C2
        clear hx hlt hk hk3
        rcases hcase with hc1 | ⟨hc1, hc2⟩
        all_goals
          go_wp2_with fail
          refine (C1.out _ HR1.out).mono ?_
          rintro e w1 ⟨rfl, rfl⟩
          go_wp2_with fail
          refine (C2.out _ HR1.out).mono ?_
          rintro e w2 ⟨rfl, hm⟩
          have hb2 := below_drawn hb hm
          clear hm
          go_wp2_with fail
          refine (mixes_any _).mono ?_
          rintro e w3 ⟨rfl, hb4⟩
          go_wp2
          go_ret
          exact ⟨rfl, hb2.trans (hb4.mono hb2.size)⟩
end Go.Proofs.Ytojicajdhlahfaa.Mix
