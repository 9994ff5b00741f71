/- The walk of the statement MixParts. -/
import Derived.Test.YtojicajdhlahfaaMixD
namespace Go.Proofs.Ytojicajdhlahfaa.Mix
open Go.RowKit
set_option linter.unusedVariables false

theorem mixParts_out (v : Value) (h : Int) (at_ : Int) (s : ByteArray) (l : List Int) (w : World) (hr : Row .u8 w v l) (hs : s.size ≤ 9223372036854775807) (hb : 3000 < (l.length : Int) ∨ 3000 < (s.size : Int) ∨ at_ < 0 ∨ (l.length : Int) < at_) :
    Calls Try.prog 7 #[.int .u32 h, v, .int .i64 at_, .string s] w fun e w' => e = .returned (.bool true) ∧ Below w.heap.size w w' := by
  obtain ⟨ad, cap, rfl, q2, q3, q4, q5⟩ := hr
  clear q4 q5
  have hcase : 3000 < (l.length : Int) ∨ (¬ 3000 < (l.length : Int) ∧ 3000 < (s.size : Int)) ∨ (¬ 3000 < (l.length : Int) ∧ ¬ 3000 < (s.size : Int) ∧ at_ < 0) ∨ (¬ 3000 < (l.length : Int) ∧ ¬ 3000 < (s.size : Int) ∧ ¬ at_ < 0 ∧ (l.length : Int) < at_) := by omega
  clear hb
  rcases hcase with h1 | ⟨h1, h2⟩ | ⟨h1, h2, h3⟩ | ⟨h1, h2, h3, h4⟩
  all_goals
    go_enter Try.func7, Try.ntmps7
    go_wp2_with fail
    refine (mixes_any _).mono ?_
    rintro e w3 ⟨rfl, hb4⟩
    go_wp2
    go_ret
    exact ⟨rfl, hb4⟩

set_option maxRecDepth 100000 in
set_option maxHeartbeats 4000000 in
theorem mixParts_in (ad : Option Addr) (cap : Nat) (h : Int) (n : Nat) (s : ByteArray) (l : List Int) (w : World) (h1 : 0 ≤ h) (h2 : h < 4294967296) (hr : Row .u8 w (.slice ad l.length cap) l) (hs : s.size ≤ 3000) (hl : l.length ≤ 3000) (hn : n ≤ l.length) (hc : l.length ≤ cap) (hc2 : cap ≤ 9223372036854775807) :
    Calls Try.prog 7 #[.int .u32 h, .slice ad l.length cap, .int .i64 n, .string s] w fun e w' => e = .returned (.bool true) ∧ Below w.heap.size w w' := by
  have g1 : ¬ (3000 : Int) < (l.length : Int) := by omega
  have g2 : ¬ (3000 : Int) < (s.size : Int) := by omega
  have g0 : ¬ (n : Int) < 0 := by omega
  have g5 : decide ((n : Int) < 0) = false := by simp
  have g6 : (n : Int) ≤ (cap : Int) := by omega
  have g7 : 0 ≤ (n : Int) := by omega
  have g3 : (n : Int) ≤ (l.length : Int) := by omega
  have g4 : (l.length : Int) ≤ (cap : Int) := by omega
  have HR := Lib.hid hr
  clear hr
  have B1 := Lib.hid (fun u hu => bytes_any (.slice ad n cap) h (l.take n) u h1 h2 (Row.take (a := ad) (cap := cap) hu hn))
  have B2 := Lib.hid (fun u hu => bytes_any _ (run h (l.take n)) (l.drop n) u (run_bd h1 h2 _).1 (run_bd h1 h2 _).2 (Row.from_ (a := ad) (cap := cap) hu hn))
  have B3 := Lib.hid (fun u hu => bytes_any (.slice ad l.length cap) h l u h1 h2 hu)
  have e1 := run_take_drop h l n
  rw [e1] at B2
  obtain ⟨R1, hR1⟩ : ∃ R1, R1 = run h (l.take n) := ⟨_, rfl⟩
  obtain ⟨R, hR⟩ : ∃ R, R = run h l := ⟨_, rfl⟩
  rw [← hR1] at B1 B2
  rw [← hR] at B2 B3
  clear e1 hR1 hR
  have e2 : chn [s, ⟨#[120]⟩, ⟨#[89, 90]⟩] = labL (chn [⟨#[120]⟩, ⟨#[89, 90]⟩]) (bs s) := rfl
  have C1 := Lib.hid (fun v u hu => chain_any v [s, ⟨#[120]⟩, ⟨#[89, 90]⟩] u hu)
  have C2 := Lib.hid (fun v u hu => chain_any v [⟨#[120]⟩, ⟨#[89, 90]⟩] u hu)
  have hbd := chn_bd [⟨#[120]⟩, ⟨#[89, 90]⟩]
  have L1 := Lib.hid (fun u => label_any (chn [⟨#[120]⟩, ⟨#[89, 90]⟩]) s u hbd.1 hbd.2 (by omega))
  rw [e2] at C1
  obtain ⟨T, hT⟩ : ∃ T, T = labL (chn [⟨#[120]⟩, ⟨#[89, 90]⟩]) (bs s) := ⟨_, rfl⟩
  obtain ⟨T1, hT1⟩ : ∃ T1, T1 = chn [⟨#[120]⟩, ⟨#[89, 90]⟩] := ⟨_, rfl⟩
  rw [← hT] at C1 L1
  rw [← hT1] at C2 L1
  clear e2 hbd hT hT1
  go_enter Try.func7, Try.ntmps7
  go_wp2_with fail
  have SR := SRow.made w [s, ⟨#[120]⟩, ⟨#[89, 90]⟩] 9 #[.string s, .string ⟨#[120]⟩, .string ⟨#[89, 90]⟩] rfl (fun i hi => by
    match i, hi with
    | 0, _ => simp; omega
    | 1, _ => show (⟨#[120]⟩ : ByteArray).size ≤ 9223372036854775807; decide
    | 2, _ => show (⟨#[89, 90]⟩ : ByteArray).size ≤ 9223372036854775807; decide) (by simp)
  have hb := below_made w (.cells #[.string s, .string ⟨#[120]⟩, .string ⟨#[89, 90]⟩] 9)
  obtain ⟨W, hW⟩ : ∃ W, W = w.alloc (.cells #[.string s, .string ⟨#[120]⟩, .string ⟨#[89, 90]⟩] 9) := ⟨_, rfl⟩
  rw [← hW] at SR hb ⊢
  clear hW
  have HRW := Lib.hid (fun k : Kept W.heap.size W => (HR.out.mono hb (Nat.le_refl _)).mono k.below (Nat.le_refl _))
  have HSW := Lib.hid (fun k : Kept W.heap.size W => SR.mono k.below (Nat.le_refl _))
  have HSV := Lib.hid (fun k : Kept W.heap.size W => (SRow.tail (n := 1) SR (by simp)).mono k.below (Nat.le_refl _))
  clear SR
  refine wp_region_kept (by kernel_rfl) (by kernel_rfl) ?_
  repeat (quiet_step (first
    | (go_at_call 11; exact Calls.kept_same (B1.out _ (HRW.out _)))
    | (go_at_call 11; exact Calls.kept_same (B2.out _ (HRW.out _)))
    | (go_at_call 11; exact Calls.kept_same (B3.out _ (HRW.out _)))
    | (go_at_call 13; exact Calls.kept_of (C1.out _ _ (HSW.out _)) (Nat.le_refl _))
    | (go_at_call 13; exact Calls.kept_of (C2.out _ _ (HSV.out _)) (Nat.le_refl _))
    | (go_at_call 14; exact Calls.kept_of (L1.out _) (Nat.le_refl _))
    | (go_at_call 8; exact Calls.kept_of (mixes_any _) (Nat.le_refl _))))
  refine wpQuiet_nil ?_
  intro _ hw'
  obtain ⟨kk, rfl⟩ := hw'
  have hb8 := hb.trans (kk.below.mono hb.size)
  go_wp2
  all_goals
    go_ret
    exact ⟨rfl, hb8⟩

theorem mixParts_walk (v : Value) (h : Int) (a : Int) (s : ByteArray) (l : List Int) (w : World) (h1 : 0 ≤ h) (h2 : h < 4294967296) (hr : Row .u8 w v l) (hs : s.size ≤ 9223372036854775807) :
    Calls Try.prog 7 #[.int .u32 h, v, .int .i64 a, .string s] w fun e w' => e = .returned (.bool true) ∧ Below w.heap.size w w' := by
  by_cases hb : 3000 < (l.length : Int) ∨ 3000 < (s.size : Int) ∨ a < 0 ∨ (l.length : Int) < a
  · exact mixParts_out v h a s l w hr hs hb
  · obtain ⟨ad, cap, rfl, q2, q3, q4, q5⟩ := id hr
    obtain ⟨n, rfl⟩ := Int.eq_ofNat_of_zero_le (show 0 ≤ a by omega)
    exact mixParts_in ad cap h n s l w h1 h2 hr (by omega) (by omega) (by omega) q2 q3
end Go.Proofs.Ytojicajdhlahfaa.Mix
