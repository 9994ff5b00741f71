/- Contracts of mix's steps, and of the document's. -/
import Derived.Test.YtojicajdhlahfaaRows
import Derived.Test.YtojicajdhlahfaaFoldA
import Derived.Test.YtojicajdhlahfaaKit4
import Derived.Test.YtojicajdhlahfaaKit5
import Derived.Test.YtojicajdhlahfaaMixM
import Derived.Laws.BitsAllLaws
namespace Go.Proofs.Ytojicajdhlahfaa.Mix
open Go.RowKit
set_option linter.unusedVariables false

theorem bits_xr {a b : Int} (h1 : 0 ≤ a) (h2 : a < 4294967296) (h3 : 0 ≤ b) (h4 : b < 4294967296) : bits .xor .u32 a b = xr a b := u32_xor a b h1 h2 h3 h4

theorem step_any (h b : Int) (w : World) (h1 : 0 ≤ h) (h2 : h < 4294967296) (h3 : 0 ≤ b) (h4 : b < 256) :
    Calls Try.prog 9 #[.int .u32 h, .int .u8 b] w fun e w' => e = .returned (.int .u32 (stp h b)) ∧ w = w' := by
  go_enter Try.func9, Try.ntmps9
  go_wp2
  go_ret
  exact ⟨ret_int (by rw [bits_xr h1 h2 h3 (by omega)]; rfl), rfl⟩
theorem back_any (h b : Int) (w : World) (h1 : 0 ≤ h) (h2 : h < 4294967296) (h3 : 0 ≤ b) (h4 : b < 256) :
    Calls Try.prog 21 #[.int .u32 h, .int .u8 b] w fun e w' => e = .returned (.int .u32 (bck h b)) ∧ w = w' := by
  go_enter Try.func21, Try.ntmps21
  go_wp2
  go_ret
  exact ⟨ret_int (by rw [bits_xr (by omega) (by omega) h3 (by omega)]; rfl), rfl⟩

theorem drewN_more {w wr : World} (h : ∃ m, wr = w.drewN m) (n : Nat) : ∃ m, wr.drewN n = w.drewN m := by
  obtain ⟨m, rfl⟩ := h
  exact ⟨m + n, World.drewN_drewN _ _ _⟩
theorem below_drawn {B : Nat} {a w w' : World} (h : Below B a w) (hm : ∃ m, w' = w.drewN m) : Below B a w' := by
  obtain ⟨m, rfl⟩ := hm
  exact below_drewN h m

theorem eachB_any (v : Value) (h : Int) (l : List Int) (w : World) (h1 : 0 ≤ h) (h2 : h < 4294967296) (hr : Row .u8 w v l) :
    Calls Try.prog 23 #[.int .u32 h, v] w fun e w' => e = .returned (.int .u32 (run h l)) ∧ w = w' := by
  have HB := Lib.hid hr.bytes
  obtain ⟨ad, cap, rfl, g2, g3, g4, g5⟩ := hr
  have HC := Lib.hid g5
  clear g4 g5
  go_enter Try.func23, Try.ntmps23
  go_wp2
  go_loop [0, 8] (fun x i => ∃ (k : Nat) (y : Int), k ≤ l.length ∧ i = .int .i64 k ∧ x = .int .u32 y ∧ 0 ≤ y ∧ y < 4294967296 ∧ Hid (run y (l.drop k) = run h l)) (fun _ i => l.length - (intOf i).toNat)
  case atStart => exact ⟨0, h, Nat.zero_le _, rfl, rfl, h1, h2, rfl⟩
  case round =>
    obtain ⟨k, y, hk, rfl, rfl, y1, y2, HR⟩ := hrel
    by_cases hlt : k < l.length
    · obtain ⟨b, off, rfl, hlb, hc⟩ := HC.out (by rintro rfl; simp at hlt)
      have hcell := hc k hlt
      have hbd := HB.out k
      have S := HR.out
      rw [run_drop _ _ _ hlt] at S
      obtain ⟨c, hce⟩ : ∃ c, c = l.getD k 0 := ⟨_, rfl⟩
      rw [← hce] at hcell hbd S
      obtain ⟨c1, c2⟩ := hbd
      have HS := Lib.hid S
      have hbd2 := stp_bd y c
      clear S hce hc HC
      go_wp2_with (go_at_call 9; refine (step_any _ _ _ y1 y2 c1 c2).mono ?_; rintro e w' ⟨rfl, rfl⟩)
      go_round
      case rel => exact ⟨k + 1, _, by omega, by go_num, rfl, hbd2.1, hbd2.2, HS⟩
      case measure => simp [intOf]; omega
    · obtain rfl : k = l.length := by omega
      have HS := Lib.hid ((run_end y l l.length (Nat.le_refl _)).symm.trans HR.out)
      go_wp2
      go_ret
      exact ⟨ret_int HS.out, rfl⟩

theorem eachS_any (s : ByteArray) (h : Int) (w : World) (h1 : 0 ≤ h) (h2 : h < 4294967296) (hs : s.size ≤ 9223372036854775807) :
    Calls Try.prog 25 #[.int .u32 h, .string s] w fun e w' => e = .returned (.int .u32 (run h (bs s))) ∧ w = w' := by
  go_enter Try.func25, Try.ntmps25
  go_wp2
  go_loop [0, 8] (fun x i => ∃ (k : Nat) (y : Int), k ≤ s.size ∧ i = .int .i64 k ∧ x = .int .u32 y ∧ 0 ≤ y ∧ y < 4294967296 ∧ Hid (run y ((bs s).drop k) = run h (bs s))) (fun _ i => s.size - (intOf i).toNat)
  case atStart => exact ⟨0, h, Nat.zero_le _, rfl, rfl, h1, h2, rfl⟩
  case round =>
    obtain ⟨k, y, hk, rfl, rfl, y1, y2, HR⟩ := hrel
    by_cases hlt : k < s.size
    · have hbd := bs_bd s k
      have S := HR.out
      rw [run_drop _ _ _ (by rw [bs_length]; exact hlt)] at S
      rw [bs_getD s k hlt] at hbd S
      obtain ⟨c1, c2⟩ := hbd
      have HS := Lib.hid S
      have hbd2 := stp_bd y (s[k]'hlt).toNat
      clear S
      go_wp2_with (go_at_call 9; refine (step_any _ _ _ y1 y2 c1 c2).mono ?_; rintro e w' ⟨rfl, rfl⟩)
      go_round
      case rel => exact ⟨k + 1, _, by omega, by go_num, rfl, hbd2.1, hbd2.2, HS⟩
      case measure => simp [intOf]; omega
    · obtain rfl : k = s.size := by omega
      have HS := Lib.hid ((run_end y (bs s) s.size (by rw [bs_length]; exact Nat.le_refl _)).symm.trans HR.out)
      go_wp2
      go_ret
      exact ⟨ret_int HS.out, rfl⟩

theorem bytes_any (v : Value) (h : Int) (l : List Int) (w : World) (h1 : 0 ≤ h) (h2 : h < 4294967296) (hr : Row .u8 w v l) :
    Calls Try.prog 11 #[.int .u32 h, v] w fun e w' => e = .returned (.int .u32 (run h l)) ∧ w = w' := by
  have HE := Lib.hid (eachB_any v h l w h1 h2 hr)
  clear hr
  go_enter Try.func11, Try.ntmps11
  go_wp2_with fail
  refine HE.out.mono ?_
  rintro e w' ⟨rfl, rfl⟩
  go_wp2
  go_ret
  exact ⟨rfl, rfl⟩
theorem with_any (v : Value) (h : Int) (l : List Int) (w : World) (h1 : 0 ≤ h) (h2 : h < 4294967296) (hr : Row .u8 w v l) :
    Calls Try.prog 24 #[.int .u32 h, v] w fun e w' => e = .returned (.int .u32 (run h l)) ∧ w = w' := by
  have HE := Lib.hid (eachB_any v h l w h1 h2 hr)
  clear hr
  go_enter Try.func24, Try.ntmps24
  go_wp2_with fail
  refine HE.out.mono ?_
  rintro e w' ⟨rfl, rfl⟩
  go_wp2
  go_ret
  exact ⟨rfl, rfl⟩

theorem key_any (h t : Int) (w : World) (h1 : 0 ≤ h) (h2 : h < 4294967296) (t1 : 0 ≤ t) (t2 : t < 65536) :
    Calls Try.prog 17 #[.int .u32 h, .int .u16 t] w fun e w' => e = .returned (.int .u32 (key h t)) ∧ Below w.heap.size w w' := by
  have hr : Row .u8 (w.alloc (.cells #[.int .u8 (t % 256), .int .u8 (t / 256)] 5)) (.slice (some ⟨w.heap.size, 0, none⟩) 2 2) [t % 256, t / 256] := by
    refine Row.made w [t % 256, t / 256] _ _ rfl (fun i hi => ?_) (by simp)
    match i, hi with
    | 0, _ => exact WalkArith.wf_u8 (by simp; omega)
    | 1, _ => exact WalkArith.wf_u8 (by simp; omega)
  have HW := Lib.hid (with_any _ h _ _ h1 h2 hr)
  clear hr
  go_enter Try.func17, Try.ntmps17
  go_wp2_with fail
  refine HW.out.mono ?_
  rintro e w' ⟨rfl, rfl⟩
  go_wp2
  go_ret
  exact ⟨rfl, below_made _ _⟩

theorem home_any (h s : Int) (w : World) (h1 : 0 ≤ h) (h2 : h < 4294967296) (s1 : -9223372036854775808 ≤ s) (s2 : s < 9223372036854775808) :
    Calls Try.prog 19 #[.int .u32 h, .int .i64 s] w fun e w' => e = .returned (.int .i64 (hom h s)) ∧ w = w' := by
  by_cases hl : s < 1
  · have e : Hid (hom h s = 0) := by unfold Hid; rw [hom, if_pos hl]
    go_enter Try.func19, Try.ntmps19
    go_wp2
    go_ret
    exact ⟨ret_int e.out.symm, rfl⟩
  · have e : Hid (hom h s = h % s) := by unfold Hid; rw [hom, if_neg hl]
    have p1 : 0 < s := by omega
    have p2 := Int.emod_nonneg h (show s ≠ 0 by omega)
    have p3 := Int.emod_lt_of_pos h p1
    go_enter Try.func19, Try.ntmps19
    go_wp2
    go_ret
    exact ⟨ret_int e.out.symm, rfl⟩
theorem refHome_any (h s : Int) (w : World) (h1 : 0 ≤ h) (h2 : h < 4294967296) (s1 : -9223372036854775808 ≤ s) (s2 : s < 9223372036854775808) :
    Calls Try.prog 20 #[.int .u32 h, .int .i64 s] w fun e w' => e = .returned (.int .i64 (hom h s)) ∧ w = w' := by
  by_cases hl : s < 1
  · have e : Hid (hom h s = 0) := by unfold Hid; rw [hom, if_pos hl]
    go_enter Try.func20, Try.ntmps20
    go_wp2
    go_ret
    exact ⟨ret_int e.out.symm, rfl⟩
  · have e : Hid (hom h s = h % s) := by unfold Hid; rw [hom, if_neg hl]
    have p1 : 0 < s := by omega
    have p2 := Int.emod_nonneg h (show s ≠ 0 by omega)
    have p3 := Int.emod_lt_of_pos h p1
    go_enter Try.func20, Try.ntmps20
    go_wp2
    go_ret
    exact ⟨ret_int e.out.symm, rfl⟩

set_option maxRecDepth 100000 in
theorem refXor_any (a b : Int) (w : World) (h1 : 0 ≤ a) (h2 : a < 256) (h3 : 0 ≤ b) (h4 : b < 256) :
    Calls Try.prog 22 #[.int .u8 a, .int .u8 b] w fun e w' => e = .returned (.int .u8 (xr a b)) ∧ ∃ m, w' = w.drewN m := by
  have hX := xr_bd8 h2 h4
  have B0 := xr_go h1 h3 0 1 rfl
  have B1 := xr_go h1 h3 1 2 rfl
  have B2 := xr_go h1 h3 2 4 rfl
  have B3 := xr_go h1 h3 3 8 rfl
  have B4 := xr_go h1 h3 4 16 rfl
  have B5 := xr_go h1 h3 5 32 rfl
  have B6 := xr_go h1 h3 6 64 rfl
  have B7 := xr_go h1 h3 7 128 rfl
  simp only [Int.reduceMul, Int.ediv_one, Int.mul_one] at B0 B1 B2 B3 B4 B5 B6 B7
  obtain ⟨X, hXe⟩ : ∃ X, X = xr a b := ⟨_, rfl⟩
  rw [← hXe] at hX B0 B1 B2 B3 B4 B5 B6 B7 ⊢
  obtain ⟨x1, x2⟩ := hX
  rw [show X / 256 * 256 = 0 by omega] at B7
  have HB := Lib.hid (And.intro B0 (And.intro B1 (And.intro B2 (And.intro B3 (And.intro B4 (And.intro B5 (And.intro B6 B7)))))))
  clear hXe B0 B1 B2 B3 B4 B5 B6 B7
  go_enter Try.func22, Try.ntmps22
  go_wp2
  go_loopw [5, 6] (fun n i wr => ∃ I N : Int, i = .int .u8 I ∧ n = .int .u8 N ∧ Hid ((I = 0 ∧ N = X) ∨ (I = 1 ∧ N = X / 2 * 2) ∨ (I = 2 ∧ N = X / 4 * 4) ∨ (I = 4 ∧ N = X / 8 * 8) ∨ (I = 8 ∧ N = X / 16 * 16) ∨ (I = 16 ∧ N = X / 32 * 32) ∨ (I = 32 ∧ N = X / 64 * 64) ∨ (I = 64 ∧ N = X / 128 * 128) ∨ (I = 128 ∧ N = 0)) ∧ Hid (∃ m, wr = w.drewN m)) (fun _ i _ => (intOf i).toNat)
  case atStart => exact ⟨128, 0, rfl, rfl, by unfold Hid; simp, 0, rfl⟩
  case round =>
    obtain ⟨I, N, rfl, rfl, HI, HW⟩ := hrel
    by_cases hq : a / I % 2 = b / I % 2
    · have hbq : (a / I % 2 != b / I % 2) = false := by simpa using hq
      rcases HI.out with ⟨rfl, rfl⟩ | ⟨rfl, rfl⟩ | ⟨rfl, rfl⟩ | ⟨rfl, rfl⟩ | ⟨rfl, rfl⟩ | ⟨rfl, rfl⟩ | ⟨rfl, rfl⟩ | ⟨rfl, rfl⟩ | ⟨rfl, rfl⟩
      · clear hq hbq
        go_wp2
        go_ret
        exact ⟨rfl, HW.out⟩
      all_goals
        try simp only [Int.ediv_one] at hq hbq
        clear HI
        have HQ := Lib.hid hq
        clear hq
        go_wp2_with fail
        go_quiet (fail)
        go_wp2
        have hq := HQ.out
        refine ⟨⟨_, _, rfl, rfl, ?_, drewN_more HW.out _⟩, by simp [intOf]⟩
        unfold Hid
        first
          | exact Or.inl ⟨rfl, (HB.out.1).1 hq⟩
          | exact Or.inr (Or.inl ⟨rfl, (HB.out.2.1).1 hq⟩)
          | exact Or.inr (Or.inr (Or.inl ⟨rfl, (HB.out.2.2.1).1 hq⟩))
          | exact Or.inr (Or.inr (Or.inr (Or.inl ⟨rfl, (HB.out.2.2.2.1).1 hq⟩)))
          | exact Or.inr (Or.inr (Or.inr (Or.inr (Or.inl ⟨rfl, (HB.out.2.2.2.2.1).1 hq⟩))))
          | exact Or.inr (Or.inr (Or.inr (Or.inr (Or.inr (Or.inl ⟨rfl, (HB.out.2.2.2.2.2.1).1 hq⟩)))))
          | exact Or.inr (Or.inr (Or.inr (Or.inr (Or.inr (Or.inr (Or.inl ⟨rfl, (HB.out.2.2.2.2.2.2.1).1 hq⟩))))))
          | exact Or.inr (Or.inr (Or.inr (Or.inr (Or.inr (Or.inr (Or.inr (Or.inl ⟨rfl, (HB.out.2.2.2.2.2.2.2).1 hq⟩)))))))
    · have hbq : (a / I % 2 != b / I % 2) = true := by simpa using hq
      rcases HI.out with ⟨rfl, rfl⟩ | ⟨rfl, rfl⟩ | ⟨rfl, rfl⟩ | ⟨rfl, rfl⟩ | ⟨rfl, rfl⟩ | ⟨rfl, rfl⟩ | ⟨rfl, rfl⟩ | ⟨rfl, rfl⟩ | ⟨rfl, rfl⟩
      · clear hq hbq
        go_wp2
        go_ret
        exact ⟨rfl, HW.out⟩
      all_goals
        try simp only [Int.ediv_one] at hq hbq
        clear HI
        have HQ := Lib.hid hq
        clear hq
        go_wp2_with fail
        go_quiet (fail)
        go_wp2
        have hq := HQ.out
        refine ⟨⟨_, _, rfl, rfl, ?_, drewN_more HW.out _⟩, by simp [intOf]⟩
        unfold Hid
        first
          | exact Or.inl ⟨rfl, (HB.out.1).2 hq⟩
          | exact Or.inr (Or.inl ⟨rfl, (HB.out.2.1).2 hq⟩)
          | exact Or.inr (Or.inr (Or.inl ⟨rfl, (HB.out.2.2.1).2 hq⟩))
          | exact Or.inr (Or.inr (Or.inr (Or.inl ⟨rfl, (HB.out.2.2.2.1).2 hq⟩)))
          | exact Or.inr (Or.inr (Or.inr (Or.inr (Or.inl ⟨rfl, (HB.out.2.2.2.2.1).2 hq⟩))))
          | exact Or.inr (Or.inr (Or.inr (Or.inr (Or.inr (Or.inl ⟨rfl, (HB.out.2.2.2.2.2.1).2 hq⟩)))))
          | exact Or.inr (Or.inr (Or.inr (Or.inr (Or.inr (Or.inr (Or.inl ⟨rfl, (HB.out.2.2.2.2.2.2.1).2 hq⟩))))))
          | exact Or.inr (Or.inr (Or.inr (Or.inr (Or.inr (Or.inr (Or.inr (Or.inl ⟨rfl, (HB.out.2.2.2.2.2.2.2).2 hq⟩)))))))

theorem refStep_any (h b : Int) (w : World) (h1 : 0 ≤ h) (h2 : h < 4294967296) (h3 : 0 ≤ b) (h4 : b < 256) :
    Calls Try.prog 10 #[.int .u32 h, .int .u8 b] w fun e w' => e = .returned (.int .u32 (stp h b)) ∧ ∃ m, w' = w.drewN m := by
  have hS := xr_split h1 h3 h4
  have hX := @xr_bd8 (h % 256) b (by omega) h4
  have HX := Lib.hid (fun w => refXor_any (h % 256) b w (by omega) (by omega) h3 h4)
  have HT : Hid (stp h b = (h - h % 256 + xr (h % 256) b) * 16777619 % 4294967296) := by unfold Hid; rw [← hS]; rfl
  obtain ⟨x, hx⟩ : ∃ x, x = xr (h % 256) b := ⟨_, rfl⟩
  rw [← hx] at HX HT hX
  clear hx hS
  obtain ⟨x1, x2⟩ := hX
  go_enter Try.func10, Try.ntmps10
  go_wp2_with fail
  refine (HX.out _).mono ?_
  rintro e w' ⟨rfl, hm⟩
  have HM := Lib.hid hm
  clear hm
  go_wp2
  go_ret
  exact ⟨ret_int (by rw [HT.out]), HM.out⟩
end Go.Proofs.Ytojicajdhlahfaa.Mix
