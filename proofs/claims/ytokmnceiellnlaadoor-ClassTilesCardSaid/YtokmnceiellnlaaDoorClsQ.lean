/- The walks of ClassLeast, ClassTiles. -/
import Derived.Test.YtokmnceiellnlaaDoorClsL
namespace Go.Proofs.YtokmnceiellnlaaDoor.Cls
open Go.RowKit
set_option linter.unusedVariables false

set_option maxRecDepth 100000 in
set_option maxHeartbeats 2000000 in
theorem classLeast_walk {Tb : World → Prop} (D : Does Tb) (s : Int) (w : World) (ht : Tb w) (s1 : -9223372036854775808 ≤ s) (s2 : s ≤ 9223372036854775807) :
    Calls Tryd.prog 6 #[.int .i64 s] w fun e w' => e = .returned (.bool true) ∧ Below w.heap.size w w' := by
  have HCl := Lib.hid (fun u (hu : Below w.heap.size w u) => classes_any D u (D.keep w u hu ht))
  have h1 := fun u (hu : Below w.heap.size w u) => D.of_ s u (D.keep w u hu ht) s1 s2
  have hb := Below.refl w.heap.size w
  by_cases hs : s < 1
  · rw [show ofC s = (0, 2) by rw [ofC, if_pos hs]] at h1
    have H1 := Lib.hid h1
    clear h1 D
    go_enter Tryd.func6, Tryd.ntmps6
    go_wp2_with (first | (go_at_call 8; refine (H1.out _ hb).mono ?_; rintro e w1 ⟨rfl, hb1⟩; replace hb := hb.trans (hb1.mono hb.size); clear hb1) | (go_at_call 16; refine (HCl.out _ hb).mono ?_; rintro e w1 ⟨rfl, hb1⟩; replace hb := hb.trans (hb1.mono hb.size); clear hb1))
    go_ret
    exact ⟨rfl, hb⟩
  · have hs1 : (1 : Int) ≤ s := by omega
    rcases ofL_spec s 1 9 with ⟨k, k1, k2, k3, k4, k5⟩ | ⟨k1, k2⟩
    · rw [show ofC s = (k, 0) by rw [ofC, if_neg hs, k3]] at h1
      have H1 := Lib.hid h1
      have H2 := Lib.hid (fun u (hu : Below w.heap.size w u) => D.size (k : Int) u (D.keep w u hu ht) (by omega) (by omega))
      have hbd := szC_bd (k : Int)
      generalize szC (k : Int) = x at H2 k4 hbd
      have hxs : s ≤ (x : Int) := k4
      by_cases hk : k = 1
      · subst hk
        clear h1 D k3 k4 k5 hbd
        go_enter Tryd.func6, Tryd.ntmps6
        go_wp2_with (first | (go_at_call 8; refine (H1.out _ hb).mono ?_; rintro e w1 ⟨rfl, hb1⟩; replace hb := hb.trans (hb1.mono hb.size); clear hb1) | (go_at_call 10; refine (H2.out _ hb).mono ?_; rintro e w1 ⟨rfl, hb1⟩; replace hb := hb.trans (hb1.mono hb.size); clear hb1) | (go_at_call 16; refine (HCl.out _ hb).mono ?_; rintro e w1 ⟨rfl, hb1⟩; replace hb := hb.trans (hb1.mono hb.size); clear hb1))
        go_ret
        exact ⟨rfl, hb⟩
      · have hkn : ((k : Int) == 1) = false := by rw [beq_eq_false_iff_ne]; omega
        obtain ⟨j, hj⟩ : ∃ j, j = k - 1 := ⟨_, rfl⟩
        have h5 := k5 j (by omega) (by omega)
        have hw1 : IntKind.i64.wrap ((k : Int) - 1) = (j : Int) := by rw [show (k : Int) - 1 = j by omega]; simp [IntKind.wrap, IntKind.signed, IntKind.bits]; omega
        have hkj : (k : Int) - 1 = (j : Int) := by omega
        have H3 := Lib.hid (fun u (hu : Below w.heap.size w u) => D.size (j : Int) u (D.keep w u hu ht) (by omega) (by omega))
        have hbd2 := szC_bd (j : Int)
        generalize szC (j : Int) = y at H3 h5 hbd2
        have hys : (y : Int) < s := h5
        clear h1 D k3 k4 k5 hbd hj h5 hbd2
        go_enter Tryd.func6, Tryd.ntmps6
        go_wp2_with (first | (go_at_call 8; refine (H1.out _ hb).mono ?_; rintro e w1 ⟨rfl, hb1⟩; replace hb := hb.trans (hb1.mono hb.size); clear hb1) | (go_at_call 10; refine (H2.out _ hb).mono ?_; rintro e w1 ⟨rfl, hb1⟩; replace hb := hb.trans (hb1.mono hb.size); clear hb1) | (go_at_call 10; refine (H3.out _ hb).mono ?_; rintro e w1 ⟨rfl, hb1⟩; replace hb := hb.trans (hb1.mono hb.size); clear hb1) | (go_at_call 16; refine (HCl.out _ hb).mono ?_; rintro e w1 ⟨rfl, hb1⟩; replace hb := hb.trans (hb1.mono hb.size); clear hb1))
        go_ret
        exact ⟨rfl, hb⟩
    · rw [show ofC s = (0, 22) by rw [ofC, if_neg hs, k1]] at h1
      have H1 := Lib.hid h1
      have H7 := Lib.hid (fun u (hu : Below w.heap.size w u) => (show szC 9 = 512 by decide) ▸ D.size 9 u (D.keep w u hu ht) (by decide) (by decide))
      have h9 := k2 9 (by omega) (by omega)
      have h9' : (512 : Int) < s := by rw [show szC ((9 : Nat) : Int) = 512 by decide] at h9; exact h9
      clear h1 D k1 k2 h9
      go_enter Tryd.func6, Tryd.ntmps6
      go_wp2_with (first | (go_at_call 8; refine (H1.out _ hb).mono ?_; rintro e w1 ⟨rfl, hb1⟩; replace hb := hb.trans (hb1.mono hb.size); clear hb1) | (go_at_call 10; refine (H7.out _ hb).mono ?_; rintro e w1 ⟨rfl, hb1⟩; replace hb := hb.trans (hb1.mono hb.size); clear hb1) | (go_at_call 16; refine (HCl.out _ hb).mono ?_; rintro e w1 ⟨rfl, hb1⟩; replace hb := hb.trans (hb1.mono hb.size); clear hb1))
      go_ret
      exact ⟨rfl, hb⟩

set_option maxRecDepth 100000 in
set_option maxHeartbeats 2000000 in
theorem classTiles_walk {Tb : World → Prop} (D : Does Tb) (c : Int) (w : World) (ht : Tb w) (c1 : -9223372036854775808 ≤ c) (c2 : c ≤ 9223372036854775807) :
    Calls Tryd.prog 7 #[.int .i64 c] w fun e w' => e = .returned (.bool true) ∧ Below w.heap.size w w' := by
  have HCl := Lib.hid (fun u (hu : Below w.heap.size w u) => classes_any D u (D.keep w u hu ht))
  have HD := Lib.hid D
  have H2 := Lib.hid (fun u (hu : Below w.heap.size w u) => D.size c u (D.keep w u hu ht) c1 c2)
  have H3 := Lib.hid (fun u (hu : Below w.heap.size w u) => D.blocks c u (D.keep w u hu ht) c1 c2)
  have H4 := Lib.hid (fun u (hu : Below w.heap.size w u) => D.pad c u (D.keep w u hu ht) c1 c2)
  have hb := Below.refl w.heap.size w
  by_cases hz : szC c = 0
  · rw [hz] at H2
    rw [blC_no hz] at H3
    rw [show pdC c = 0 by rw [pdC, if_pos hz]] at H4
    clear hz c1 c2 D
    go_enter Tryd.func7, Tryd.ntmps7
    go_wp2_with (first | (go_at_call 10; refine (H2.out _ hb).mono ?_; rintro e w1 ⟨rfl, hb1⟩; replace hb := hb.trans (hb1.mono hb.size); clear hb1) | (go_at_call 12; refine (H3.out _ hb).mono ?_; rintro e w1 ⟨rfl, hb1⟩; replace hb := hb.trans (hb1.mono hb.size); clear hb1) | (go_at_call 14; refine (H4.out _ hb).mono ?_; rintro e w1 ⟨rfl, hb1⟩; replace hb := hb.trans (hb1.mono hb.size); clear hb1) | (go_at_call 16; refine (HCl.out _ hb).mono ?_; rintro e w1 ⟨rfl, hb1⟩; replace hb := hb.trans (hb1.mono hb.size); clear hb1))
    go_ret
    exact ⟨rfl, hb⟩
  · have hbd := szC_bd c
    have hb32 := blC_bd c
    have hbp := blC_pos hz
    have hpl := pdC_less hz
    have HZ := Lib.hid hz
    have HP := Lib.hid (fun (k : Nat) (hk : k < blC c) u (hu : Below w.heap.size w u) => show Calls Tryd.prog 17 #[.int .i64 c, .int .i64 (k : Int)] u fun e w' => e = .returned (.tuple #[.int .i64 ((k * szC c : Nat) : Int), .int .i64 0]) ∧ Below u.heap.size u w' from by
      have h := D.place c (k : Int) u (D.keep w u hu ht) c1 c2 (by omega) (by omega)
      rw [show plC c (k : Int) = (k * szC c, 0) by rw [plC, if_neg hz, if_neg (by omega), Int.toNat_natCast]] at h
      exact h)
    have HI := Lib.hid (fun (k : Nat) (hk : k < blC c) (hk2 : ((k * szC c : Nat) : Int) ≤ 1024) u (hu : Below w.heap.size w u) => show Calls Tryd.prog 19 #[.int .i64 c, .int .i64 ((k * szC c : Nat) : Int)] u fun e w' => e = .returned (.tuple #[.int .i64 (k : Int), .bool true]) ∧ Below u.heap.size u w' from by
      have h := D.index c ((k * szC c : Nat) : Int) u (D.keep w u hu ht) c1 c2 (by omega) (by omega)
      rw [idC_hit hz hk] at h
      exact h)
    have HJ := Lib.hid (fun (k : Nat) (hk2 : ((k * szC c : Nat) : Int) ≤ 1024) u (hu : Below w.heap.size w u) => show Calls Tryd.prog 19 #[.int .i64 c, .int .i64 (((k * szC c : Nat) : Int) + 1)] u fun e w' => e = .returned (.tuple #[.int .i64 0, .bool false]) ∧ Below u.heap.size u w' from by
      have h := D.index c (((k * szC c : Nat) : Int) + 1) u (D.keep w u hu ht) c1 c2 (by omega) (by omega)
      rw [idC_miss hz] at h
      exact h)
    generalize pdC c = z at H4 hpl
    generalize blC c = n at H3 hb32 hbp hpl HP HI
    generalize szC c = x at H2 hbd hpl HP HI HJ
    have hn1 : ¬ (n : Int) < 1 := by omega
    have hn2 : ¬ (1024 : Int) < (n : Int) := by omega
    have hn3 : (n : Int) ≤ 32 := by omega
    have hx0 : ((x : Int) == 0) = false := by rw [beq_eq_false_iff_ne]; omega
    have hx5 : (x : Int) ≤ 512 := by omega
    have HPL := Lib.hid hpl
    have hzx : (z : Int) < (x : Int) := by omega
    have hz0 : (0 : Int) ≤ (z : Int) := by omega
    clear hz hbp hpl hbd D c1 c2
    go_enter Tryd.func7, Tryd.ntmps7
    go_wp2_with (first | (go_at_call 10; refine (H2.out _ hb).mono ?_; rintro e w1 ⟨rfl, hb1⟩; replace hb := hb.trans (hb1.mono hb.size); clear hb1) | (go_at_call 12; refine (H3.out _ hb).mono ?_; rintro e w1 ⟨rfl, hb1⟩; replace hb := hb.trans (hb1.mono hb.size); clear hb1) | (go_at_call 16; refine (HCl.out _ hb).mono ?_; rintro e w1 ⟨rfl, hb1⟩; replace hb := hb.trans (hb1.mono hb.size); clear hb1))
    go_loopw [4, 5] (fun a i wr => ∃ k y : Nat, k ≤ n ∧ i = .int .i64 k ∧ a = .int .i64 y ∧ Hid (y = k * x) ∧ Below w.heap.size w wr) (fun _ i _ => n - (intOf i).toNat)
    case atStart => exact ⟨0, 0, Nat.zero_le _, rfl, rfl, by simp [Hid], hb⟩
    case round =>
      clear hb
      obtain ⟨k, y, hk, rfl, rfl, HY, hb⟩ := hrel
      have hPL := HPL.out
      by_cases hlt : k < n
      · have hlt1 : (k : Int) < (n : Int) := by omega
        have hyn : (k + 1) * x ≤ n * x := Nat.mul_le_mul_right _ (by omega)
        have hlin : (k + 1) * x = k * x + x := by rw [Nat.add_mul, Nat.one_mul]
        have hY := HY.out
        have hyx : y + x ≤ 1024 := by omega
        have HY2 : Hid (y + x = (k + 1) * x) := by unfold Hid; omega
        have HP1 := Lib.hid (HP.out k hlt)
        have HI1 := Lib.hid (HI.out k hlt (by omega))
        have HJ1 := Lib.hid (HJ.out k (by omega))
        rw [← hY] at HP1 HI1 HJ1
        have hyy : ((y : Int) != (y : Int)) = false := by simp
        have hkk : ((k : Int) != (k : Int)) = false := by simp
        clear hyn hlin hY HY hPL
        go_wp2_with fail
        refine (HP1.out _ hb).mono ?_
        rintro e w1 ⟨rfl, hb1⟩
        replace hb := hb.trans (hb1.mono hb.size)
        clear hb1
        go_wp2_with fail
        refine (HI1.out _ hb).mono ?_
        rintro e w1 ⟨rfl, hb1⟩
        replace hb := hb.trans (hb1.mono hb.size)
        clear hb1
        go_wp2_with fail
        refine (HJ1.out _ hb).mono ?_
        rintro e w1 ⟨rfl, hb1⟩
        replace hb := hb.trans (hb1.mono hb.size)
        clear hb1
        go_wp2_with fail
        refine (H2.out _ hb).mono ?_
        rintro e w1 ⟨rfl, hb1⟩
        replace hb := hb.trans (hb1.mono hb.size)
        clear hb1
        go_wp2
        go_roundw
        case rel => exact ⟨k + 1, y + x, by omega, by go_num, by go_num, HY2, hb⟩
        case measure => simp [intOf]; omega
      · obtain rfl : k = n := by omega
        have hY := HY.out
        have hyz : (y : Int) + z = 1024 := by omega
        clear hY HY hPL
        go_wp2_with (first | (go_at_call 14; refine (H4.out _ hb).mono ?_; rintro e w1 ⟨rfl, hb1⟩; replace hb := hb.trans (hb1.mono hb.size); clear hb1) | (go_at_call 10; refine (H2.out _ hb).mono ?_; rintro e w1 ⟨rfl, hb1⟩; replace hb := hb.trans (hb1.mono hb.size); clear hb1) | (go_at_call 16; refine (HCl.out _ hb).mono ?_; rintro e w1 ⟨rfl, hb1⟩; replace hb := hb.trans (hb1.mono hb.size); clear hb1))
        go_ret
        exact ⟨rfl, hb⟩
end Go.Proofs.YtokmnceiellnlaaDoor.Cls
