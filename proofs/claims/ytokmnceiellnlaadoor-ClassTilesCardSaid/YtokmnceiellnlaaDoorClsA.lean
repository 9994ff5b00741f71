/- Contracts of the document's functions on classes. -/
import Derived.Test.YtokmnceiellnlaaDoorRows
import Derived.Test.YtokmnceiellnlaaDoorClsM
namespace Go.Proofs.YtokmnceiellnlaaDoor.Cls
open Go.RowKit
set_option linter.unusedVariables false

theorem ret_two {a b c d : Int} (h1 : a = c) (h2 : b = d) : Ending.returned (.tuple #[.int .i64 a, .int .i64 b]) = .returned (.tuple #[.int .i64 c, .int .i64 d]) := by rw [h1, h2]
theorem ret_ib {a c : Int} {b d : Bool} (h1 : a = c) (h2 : b = d) : Ending.returned (.tuple #[.int .i64 a, .bool b]) = .returned (.tuple #[.int .i64 c, .bool d]) := by rw [h1, h2]

set_option maxRecDepth 100000 in
theorem refSize_any (c : Int) (w : World) : Calls Tryd.prog 11 #[.int .i64 c] w fun e w' => e = .returned (.int .i64 (szC c)) ∧ w = w' := by
  rcases cls_cases c with h | rfl | rfl | rfl | rfl | rfl | rfl | rfl | rfl | rfl
  · have hz := Lib.hid (szC_no h)
    have hc : c < 1 ∨ (¬ c < 1 ∧ 9 < c) := by omega
    clear h
    rcases hc with h1 | ⟨h1, h2⟩
    · go_enter Tryd.func11, Tryd.ntmps11
      go_wp2
      go_ret
      exact ⟨ret_int (by rw [hz.out]; rfl), rfl⟩
    · go_enter Tryd.func11, Tryd.ntmps11
      go_wp2
      go_ret
      exact ⟨ret_int (by rw [hz.out]; rfl), rfl⟩
  · go_enter Tryd.func11, Tryd.ntmps11
    go_wp2
    refine wp_loop_rounds 1 ?_
    rw [rounds_succ]; go_wp2
    go_ret
    exact ⟨rfl, rfl⟩
  · go_enter Tryd.func11, Tryd.ntmps11
    go_wp2
    refine wp_loop_rounds 1 ?_
    rw [rounds_succ]; go_wp2
    go_ret
    exact ⟨rfl, rfl⟩
  · go_enter Tryd.func11, Tryd.ntmps11
    go_wp2
    refine wp_loop_rounds 2 ?_
    rw [rounds_succ]; go_wp2
    rw [rounds_succ]; go_wp2
    go_ret
    exact ⟨rfl, rfl⟩
  · go_enter Tryd.func11, Tryd.ntmps11
    go_wp2
    refine wp_loop_rounds 2 ?_
    rw [rounds_succ]; go_wp2
    rw [rounds_succ]; go_wp2
    go_ret
    exact ⟨rfl, rfl⟩
  · go_enter Tryd.func11, Tryd.ntmps11
    go_wp2
    refine wp_loop_rounds 3 ?_
    rw [rounds_succ]; go_wp2
    rw [rounds_succ]; go_wp2
    rw [rounds_succ]; go_wp2
    go_ret
    exact ⟨rfl, rfl⟩
  · go_enter Tryd.func11, Tryd.ntmps11
    go_wp2
    refine wp_loop_rounds 3 ?_
    rw [rounds_succ]; go_wp2
    rw [rounds_succ]; go_wp2
    rw [rounds_succ]; go_wp2
    go_ret
    exact ⟨rfl, rfl⟩
  · go_enter Tryd.func11, Tryd.ntmps11
    go_wp2
    refine wp_loop_rounds 4 ?_
    rw [rounds_succ]; go_wp2
    rw [rounds_succ]; go_wp2
    rw [rounds_succ]; go_wp2
    rw [rounds_succ]; go_wp2
    go_ret
    exact ⟨rfl, rfl⟩
  · go_enter Tryd.func11, Tryd.ntmps11
    go_wp2
    refine wp_loop_rounds 4 ?_
    rw [rounds_succ]; go_wp2
    rw [rounds_succ]; go_wp2
    rw [rounds_succ]; go_wp2
    rw [rounds_succ]; go_wp2
    go_ret
    exact ⟨rfl, rfl⟩
  · go_enter Tryd.func11, Tryd.ntmps11
    go_wp2
    refine wp_loop_rounds 5 ?_
    rw [rounds_succ]; go_wp2
    rw [rounds_succ]; go_wp2
    rw [rounds_succ]; go_wp2
    rw [rounds_succ]; go_wp2
    rw [rounds_succ]; go_wp2
    go_ret
    exact ⟨rfl, rfl⟩

theorem refOf_any (s : Int) (w : World) (h0 : -9223372036854775808 ≤ s) (h1 : s ≤ 9223372036854775807) : Calls Tryd.prog 9 #[.int .i64 s] w fun e w' => e = .returned (.tuple #[.int .i64 (ofC s).1, .int .i64 (ofC s).2]) ∧ w = w' := by
  by_cases h : s < 1
  · have hz : ofC s = (0, 2) := by rw [ofC, if_pos h]
    rw [hz]
    clear hz
    go_enter Tryd.func9, Tryd.ntmps9
    go_wp2
    go_ret2
    exact ⟨rfl, rfl⟩
  · have hz : ofC s = ofL s 1 9 := by rw [ofC, if_neg h]
    rw [hz]
    obtain ⟨R, hR⟩ : ∃ R, R = ofL s 1 9 := ⟨_, rfl⟩
    rw [← hR]
    have HR := Lib.hid hR
    clear hz hR
    go_enter Tryd.func9, Tryd.ntmps9
    go_wp2
    go_loop [4] (fun c => ∃ k : Nat, 1 ≤ k ∧ k ≤ 10 ∧ c = .int .i64 k ∧ Hid (R = ofL s k (10 - k))) (fun c => 10 - (intOf c).toNat)
    case atStart => exact ⟨1, by omega, by omega, rfl, HR⟩
    case round =>
      obtain ⟨k, hk1, hk2, rfl, HK⟩ := hrel
      by_cases hk : k ≤ 9
      · have hki : (k : Int) ≤ 9 := by omega
        have hK := HK.out
        rw [show 10 - k = (10 - (k + 1)) + 1 by omega, ofL] at hK
        have HS := Lib.hid (refSize_any (k : Int) w)
        have hbd := szC_bd (k : Int)
        obtain ⟨x, hx⟩ : ∃ x, x = szC (k : Int) := ⟨_, rfl⟩
        rw [← hx] at hK HS hbd
        by_cases hs : s ≤ (x : Int)
        · rw [if_pos hs] at hK
          have HK2 := Lib.hid hK
          clear hK HK hx hbd
          go_wp2_with fail
          refine HS.out.mono ?_
          rintro e w1 ⟨rfl, rfl⟩
          go_wp2
          go_ret2
          exact ⟨by rw [HK2.out]; rfl, rfl⟩
        · rw [if_neg hs] at hK
          have HK2 := Lib.hid hK
          clear hK HK hx hbd
          go_wp2_with fail
          refine HS.out.mono ?_
          rintro e w1 ⟨rfl, rfl⟩
          go_wp2
          go_round
          case rel => exact ⟨k + 1, by omega, by omega, by go_num, HK2⟩
          case measure => simp [intOf]; omega
      · obtain rfl : k = 10 := by omega
        have HK2 : Hid (R = (0, 22)) := HK.out
        clear HK
        go_wp2
        go_ret2
        exact ⟨by rw [HK2.out]; rfl, rfl⟩

theorem refBlocks_any (c : Int) (w : World) : Calls Tryd.prog 13 #[.int .i64 c] w fun e w' => e = .returned (.int .i64 (blC c)) ∧ w = w' := by
  have HS := Lib.hid (refSize_any c w)
  by_cases hz : szC c = 0
  · have hb := Lib.hid (blC_no hz)
    rw [hz] at HS
    clear hz
    go_enter Tryd.func13, Tryd.ntmps13
    go_wp2
    refine wp_loop_rounds 1 ?_
    rw [rounds_succ]
    go_wp2_with (go_at_call 11; refine HS.out.mono ?_; rintro e w1 ⟨rfl, rfl⟩)
    go_ret
    exact ⟨by rw [hb.out]; rfl, rfl⟩
  · have hf := blC_fit hz
    have hbd := szC_bd c
    have hb32 := blC_bd c
    obtain ⟨B, hB⟩ : ∃ B, B = blC c := ⟨_, rfl⟩
    obtain ⟨x, hx⟩ : ∃ x, x = szC c := ⟨_, rfl⟩
    rw [← hB, ← hx] at hf
    rw [← hx] at HS hbd hz
    rw [← hB] at hb32 ⊢
    have hx0 : (0 : Int) < (x : Int) := by omega
    have hx5 : (x : Int) ≤ 512 := by omega
    have HF := Lib.hid hf
    clear hB hx hz hf hbd
    go_enter Tryd.func13, Tryd.ntmps13
    go_wp2
    go_loop [3] (fun n => ∃ k : Nat, k ≤ B ∧ n = .int .i64 k) (fun n => B - (intOf n).toNat)
    case atStart => exact ⟨0, Nat.zero_le _, rfl⟩
    case round =>
      obtain ⟨k, hk, rfl⟩ := hrel
      obtain ⟨y, hy⟩ : ∃ y, y = (k + 1) * x := ⟨_, rfl⟩
      have hy1 : ((k : Int) + 1) * x = (y : Int) := by rw [hy]; simp
      have hyb : y ≤ (B + 1) * x := by rw [hy]; exact Nat.mul_le_mul_right _ (by omega)
      have hF := HF.out
      have hlin : (B + 1) * x = B * x + x := by rw [Nat.add_mul, Nat.one_mul]
      have hw1 : IntKind.i64.wrap (((k : Int) + 1) * x) = (y : Int) := by rw [hy1]; simp [IntKind.wrap, IntKind.signed, IntKind.bits]; omega
      by_cases hlt : k < B
      · have h10 : (y : Int) ≤ 1024 := by
          have : y ≤ B * x := by rw [hy]; exact Nat.mul_le_mul_right _ (by omega)
          omega
        clear hy hy1 hyb hF hlin
        go_wp2_with (go_at_call 11; refine HS.out.mono ?_; rintro e w1 ⟨rfl, rfl⟩)
        go_round
        case rel => exact ⟨k + 1, by omega, by go_num⟩
        case measure => simp [intOf]; omega
      · obtain rfl : k = B := by omega
        have h10 : ¬ (y : Int) ≤ 1024 := by omega
        clear hy hy1 hyb hF hlin
        go_wp2_with (go_at_call 11; refine HS.out.mono ?_; rintro e w1 ⟨rfl, rfl⟩)
        go_ret
        exact ⟨rfl, rfl⟩

theorem refPad_any (c : Int) (w : World) : Calls Tryd.prog 15 #[.int .i64 c] w fun e w' => e = .returned (.int .i64 (pdC c)) ∧ w = w' := by
  have HS := Lib.hid (refSize_any c w)
  have HB := Lib.hid (refBlocks_any c w)
  by_cases hz : szC c = 0
  · have hp : pdC c = 0 := by rw [pdC, if_pos hz]
    rw [hp]
    rw [hz] at HS
    clear hz hp HB
    go_enter Tryd.func15, Tryd.ntmps15
    go_wp2_with (go_at_call 11; refine HS.out.mono ?_; rintro e w1 ⟨rfl, rfl⟩)
    go_ret
    exact ⟨rfl, rfl⟩
  · have hp := pdC_less hz
    have hbd := szC_bd c
    have hb32 := blC_bd c
    generalize pdC c = q at hp ⊢
    generalize blC c = n at hp HB hb32
    generalize szC c = x at hp HS hbd hz
    obtain ⟨y, hy⟩ : ∃ y, y = n * x := ⟨_, rfl⟩
    rw [← hy] at hp
    have hw1 : IntKind.i64.wrap ((n : Int) * x) = (y : Int) := by
      have e : (n : Int) * x = (y : Int) := by rw [hy]; simp
      rw [e]; simp [IntKind.wrap, IntKind.signed, IntKind.bits]; omega
    have hxne : ((x : Int) == 0) = false := by rw [beq_eq_false_iff_ne]; omega
    have hq : (1024 : Int) - (y : Int) = q := by omega
    have hy1 : (y : Int) ≤ 1024 := by omega
    have HQ := Lib.hid hq
    clear hy hp hz hbd hq
    go_enter Tryd.func15, Tryd.ntmps15
    go_wp2_with (first | (go_at_call 11; refine HS.out.mono ?_; rintro e w1 ⟨rfl, rfl⟩) | (go_at_call 13; refine HB.out.mono ?_; rintro e w1 ⟨rfl, rfl⟩))
    go_ret
    exact ⟨ret_int HQ.out, rfl⟩

theorem refPlace_any (c i : Int) (w : World) (h0 : -9223372036854775808 ≤ i) (h1 : i ≤ 9223372036854775807) : Calls Tryd.prog 18 #[.int .i64 c, .int .i64 i] w fun e w' => e = .returned (.tuple #[.int .i64 (plC c i).1, .int .i64 (plC c i).2]) ∧ w = w' := by
  have HS := Lib.hid (refSize_any c w)
  have HB := Lib.hid (refBlocks_any c w)
  by_cases hz : szC c = 0
  · have hp : plC c i = (0, 2) := by rw [plC, if_pos hz]
    rw [hp]
    rw [hz] at HS
    clear hz hp HB
    go_enter Tryd.func18, Tryd.ntmps18
    go_wp2_with (go_at_call 11; refine HS.out.mono ?_; rintro e w1 ⟨rfl, rfl⟩)
    go_ret2
    exact ⟨rfl, rfl⟩
  · have hp : plC c i = if i < 0 ∨ (blC c : Int) ≤ i then (0, 6) else (i.toNat * szC c, 0) := by rw [plC, if_neg hz]
    rw [hp]
    have hf := blC_fit hz
    have hb32 := blC_bd c
    have hbd := szC_bd c
    generalize blC c = n at hf HB hb32 ⊢
    generalize szC c = x at hf HS hz hbd ⊢
    have hxne : ((x : Int) == 0) = false := by rw [beq_eq_false_iff_ne]; omega
    by_cases hi : i < 0 ∨ (n : Int) ≤ i
    · rw [if_pos hi]
      have hc : i < 0 ∨ (¬ i < 0 ∧ (n : Int) ≤ i) := by omega
      clear hi hf hz hp hbd
      rcases hc with g1 | ⟨g1, g2⟩
      · go_enter Tryd.func18, Tryd.ntmps18
        go_wp2_with (first | (go_at_call 11; refine HS.out.mono ?_; rintro e w1 ⟨rfl, rfl⟩) | (go_at_call 13; refine HB.out.mono ?_; rintro e w1 ⟨rfl, rfl⟩))
        go_ret2
        exact ⟨rfl, rfl⟩
      · go_enter Tryd.func18, Tryd.ntmps18
        go_wp2_with (first | (go_at_call 11; refine HS.out.mono ?_; rintro e w1 ⟨rfl, rfl⟩) | (go_at_call 13; refine HB.out.mono ?_; rintro e w1 ⟨rfl, rfl⟩))
        go_ret2
        exact ⟨rfl, rfl⟩
    · rw [if_neg hi]
      obtain ⟨k, rfl⟩ := Int.eq_ofNat_of_zero_le (show 0 ≤ i by omega)
      rw [Int.toNat_natCast]
      have g1 : ¬ (k : Int) < 0 := by omega
      have g2 : ¬ (n : Int) ≤ (k : Int) := by omega
      obtain ⟨y, hy⟩ : ∃ y, y = k * x := ⟨_, rfl⟩
      have hyb : y ≤ n * x := by rw [hy]; exact Nat.mul_le_mul_right _ (by omega)
      have hw1 : IntKind.i64.wrap ((k : Int) * x) = (y : Int) := by
        have e : (k : Int) * x = (y : Int) := by rw [hy]; simp
        rw [e]; simp [IntKind.wrap, IntKind.signed, IntKind.bits]; omega
      rw [← hy]
      clear hi hf hz hp hbd hy hyb
      go_enter Tryd.func18, Tryd.ntmps18
      go_wp2_with (first | (go_at_call 11; refine HS.out.mono ?_; rintro e w1 ⟨rfl, rfl⟩) | (go_at_call 13; refine HB.out.mono ?_; rintro e w1 ⟨rfl, rfl⟩))
      go_ret2
      exact ⟨rfl, rfl⟩

theorem refIndex_any (c a : Int) (w : World) (h0 : -9223372036854775808 ≤ a) (h1 : a ≤ 9223372036854775807) : Calls Tryd.prog 20 #[.int .i64 c, .int .i64 a] w fun e w' => e = .returned (.tuple #[.int .i64 (idC c a).1, .bool (idC c a).2]) ∧ w = w' := by
  have HS := Lib.hid (refSize_any c w)
  have HB := Lib.hid (refBlocks_any c w)
  have hb32 := blC_bd c
  have hbd := szC_bd c
  have HR := Lib.hid (show idC c a = idL c a 0 (blC c) from rfl)
  have HK0 := Lib.hid (fun i n => show idL c a i (n + 1) = if ((i * szC c : Nat) : Int) = a then (i, true) else idL c a (i + 1) n from rfl)
  have HK1 := Lib.hid (fun i => show idL c a i 0 = (0, false) from rfl)
  obtain ⟨R, hR⟩ : ∃ R, R = idC c a := ⟨_, rfl⟩
  rw [← hR] at HR ⊢
  generalize blC c = B at HB hb32 HR
  generalize szC c = x at HS hbd HK0
  have hx5 : (x : Int) ≤ 512 := by omega
  clear hR
  go_enter Tryd.func20, Tryd.ntmps20
  go_wp2
  go_loop [6] (fun i => ∃ k : Nat, k ≤ B ∧ i = .int .i64 k ∧ Hid (R = idL c a k (B - k))) (fun i => B - (intOf i).toNat)
  case atStart => exact ⟨0, Nat.zero_le _, rfl, HR⟩
  case round =>
    obtain ⟨k, hk, rfl, HK⟩ := hrel
    clear hbd
    by_cases hlt : k < B
    · have hlt1 : (k : Int) < (B : Int) := by omega
      have hK := HK.out
      rw [show B - k = (B - (k + 1)) + 1 by omega, HK0.out] at hK
      obtain ⟨y, hy⟩ : ∃ y, y = k * x := ⟨_, rfl⟩
      have hyb : y ≤ 32 * 512 := by rw [hy]; exact Nat.mul_le_mul (by omega) (by omega)
      have hw1 : IntKind.i64.wrap ((k : Int) * x) = (y : Int) := by
        have e : (k : Int) * x = (y : Int) := by rw [hy]; simp
        rw [e]; simp [IntKind.wrap, IntKind.signed, IntKind.bits]; omega
      rw [← hy] at hK
      by_cases ha : (y : Int) = a
      · rw [if_pos ha] at hK
        have HK2 := Lib.hid hK
        have hE : ((y : Int) == a) = true := by simpa using ha
        clear hK HK hy ha hyb
        go_wp2_with (first | (go_at_call 11; refine HS.out.mono ?_; rintro e w1 ⟨rfl, rfl⟩) | (go_at_call 13; refine HB.out.mono ?_; rintro e w1 ⟨rfl, rfl⟩))
        go_ret2
        exact ⟨by rw [HK2.out]; rfl, rfl⟩
      · rw [if_neg ha] at hK
        have HK2 := Lib.hid hK
        have hE : ((y : Int) == a) = false := by rw [beq_eq_false_iff_ne]; exact ha
        clear hK HK hy ha hyb
        go_wp2_with (first | (go_at_call 11; refine HS.out.mono ?_; rintro e w1 ⟨rfl, rfl⟩) | (go_at_call 13; refine HB.out.mono ?_; rintro e w1 ⟨rfl, rfl⟩))
        go_round
        case rel => exact ⟨k + 1, by omega, by go_num, HK2⟩
        case measure => simp [intOf]; omega
    · obtain rfl : k = B := by omega
      have hK := HK.out
      rw [Nat.sub_self, HK1.out] at hK
      have HK2 := Lib.hid hK
      clear hK HK
      go_wp2_with (first | (go_at_call 11; refine HS.out.mono ?_; rintro e w1 ⟨rfl, rfl⟩) | (go_at_call 13; refine HB.out.mono ?_; rintro e w1 ⟨rfl, rfl⟩))
      go_ret2
      exact ⟨by rw [HK2.out]; rfl, rfl⟩

theorem refEntry_any (p : Int) (w : World) (h0 : -9223372036854775808 ≤ p) (h1 : p ≤ 9223372036854775807) : Calls Tryd.prog 22 #[.int .i64 p] w fun e w' => e = .returned (.tuple #[.int .i64 (enC p).1, .int .i64 (enC p).2]) ∧ w = w' := by
  by_cases h : p < 0
  · have hz : enC p = (0, 2) := by rw [enC, if_pos h]
    rw [hz]
    clear hz
    go_enter Tryd.func22, Tryd.ntmps22
    go_wp2
    go_ret2
    exact ⟨rfl, rfl⟩
  · by_cases h2 : 480 < p
    · have hz : enC p = (0, 22) := by rw [enC, if_neg h, if_pos h2]
      rw [hz]
      clear hz
      go_enter Tryd.func22, Tryd.ntmps22
      go_wp2
      go_ret2
      exact ⟨rfl, rfl⟩
    · have hz : enC p = ofC (32 + p) := by rw [enC, if_neg h, if_neg h2]
      rw [hz]
      have HO := Lib.hid (refOf_any (32 + p) w (by omega) (by omega))
      generalize ofC (32 + p) = R at HO ⊢
      obtain ⟨r1, r2⟩ := R
      clear hz
      go_enter Tryd.func22, Tryd.ntmps22
      go_wp2_with (go_at_call 9; refine HO.out.mono ?_; rintro e w1 ⟨rfl, rfl⟩)
      go_ret2
      exact ⟨rfl, rfl⟩

theorem refNode_any (p : Int) (w : World) (h0 : -9223372036854775808 ≤ p) (h1 : p ≤ 9223372036854775807) : Calls Tryd.prog 24 #[.int .i64 p] w fun e w' => e = .returned (.tuple #[.int .i64 (noC p).1, .int .i64 (noC p).2]) ∧ w = w' := by
  by_cases h : p < 1 ∨ 63 < p
  · have hz : noC p = (0, 20) := by rw [noC, if_pos h]
    rw [hz]
    have hc : p < 1 ∨ (¬ p < 1 ∧ 63 < p) := by omega
    clear hz h
    rcases hc with g1 | ⟨g1, g2⟩
    · go_enter Tryd.func24, Tryd.ntmps24
      go_wp2
      go_ret2
      exact ⟨rfl, rfl⟩
    · go_enter Tryd.func24, Tryd.ntmps24
      go_wp2
      go_ret2
      exact ⟨rfl, rfl⟩
  · have hz : noC p = ofC (16 + p) := by rw [noC, if_neg h]
    rw [hz]
    have HO := Lib.hid (refOf_any (16 + p) w (by omega) (by omega))
    generalize ofC (16 + p) = R at HO ⊢
    obtain ⟨r1, r2⟩ := R
    have g1 : ¬ p < 1 := by omega
    have g2 : ¬ 63 < p := by omega
    clear hz h
    go_enter Tryd.func24, Tryd.ntmps24
    go_wp2_with (go_at_call 9; refine HO.out.mono ?_; rintro e w1 ⟨rfl, rfl⟩)
    go_ret2
    exact ⟨rfl, rfl⟩
end Go.Proofs.YtokmnceiellnlaaDoor.Cls
