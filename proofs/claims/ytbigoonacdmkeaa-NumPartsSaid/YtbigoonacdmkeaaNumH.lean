/- The walk of the statement NumParts. -/
import Derived.Test.YtbigoonacdmkeaaNumF
import Derived.Test.YtbigoonacdmkeaaKit2
namespace Go.Proofs.Ytbigoonacdmkeaa.Num
open Go.RowKit
set_option linter.unusedVariables false

theorem ldv_ok {l : List Int} {a x : Int} {n : Nat} (hx : isW x = true) (hn : x = n) (h0 : 0 ≤ a) (h1 : a ≤ l.length - x) (h2 : a % x = 0) : ldv l a x = (le ((l.drop a.toNat).take n), 0) := by
  have : plc l.length a x = 0 := by unfold plc; rw [if_neg (by omega), if_pos h2]
  subst hn
  simp [ldv, hx, this]

theorem ldv_one {l : List Int} (i : Nat) (h : i < l.length) : ldv l (i : Int) 1 = (l.getD i 0, 0) := by
  rw [ldv_ok (x := 1) (n := 1) (by decide) rfl (by omega) (by omega) (by omega), Int.toNat_natCast, take_drop_cons l i 0 h, List.take_zero]
  simp [le]

theorem eight (l : List Int) (m : Nat) (h : m + 8 ≤ l.length) : (l.drop m).take 8 = [l.getD m 0, l.getD (m + 1) 0, l.getD (m + 2) 0, l.getD (m + 3) 0, l.getD (m + 4) 0, l.getD (m + 5) 0, l.getD (m + 6) 0, l.getD (m + 7) 0] := by
  rw [take_drop_cons l m 7 (by omega), take_drop_cons l (m + 1) 6 (by omega), take_drop_cons l (m + 2) 5 (by omega), take_drop_cons l (m + 3) 4 (by omega), take_drop_cons l (m + 4) 3 (by omega), take_drop_cons l (m + 5) 2 (by omega), take_drop_cons l (m + 6) 1 (by omega), take_drop_cons l (m + 7) 0 (by omega), List.take_zero]
theorem four (l : List Int) (m : Nat) (h : m + 4 ≤ l.length) : (l.drop m).take 4 = [l.getD m 0, l.getD (m + 1) 0, l.getD (m + 2) 0, l.getD (m + 3) 0] := by
  rw [take_drop_cons l m 3 (by omega), take_drop_cons l (m + 1) 2 (by omega), take_drop_cons l (m + 2) 1 (by omega), take_drop_cons l (m + 3) 0 (by omega), List.take_zero]

theorem numParts_in (l : List Int) (m : Nat) (u : Value) (w : World) (R : Row .u8 w u l) (hl : l.length ≤ 300) (hu : ∃ a cap, u = .slice a l.length cap) (hm : m + 8 ≤ l.length) (hd : (m : Int) % 8 = 0) :
    Calls Try.prog 7 #[u, .int .i64 m] w fun e w' => e = .returned (.bool true) ∧ Below w.heap.size w w' := by
  obtain ⟨a, cap, rfl⟩ := hu
  obtain ⟨c0, h0⟩ : ∃ c, c = l.getD m 0 := ⟨_, rfl⟩
  have b0 := R.bytes m
  rw [← h0] at b0
  obtain ⟨c1, h1⟩ : ∃ c, c = l.getD (m + 1) 0 := ⟨_, rfl⟩
  have b1 := R.bytes (m + 1)
  rw [← h1] at b1
  obtain ⟨c2, h2⟩ : ∃ c, c = l.getD (m + 2) 0 := ⟨_, rfl⟩
  have b2 := R.bytes (m + 2)
  rw [← h2] at b2
  obtain ⟨c3, h3⟩ : ∃ c, c = l.getD (m + 3) 0 := ⟨_, rfl⟩
  have b3 := R.bytes (m + 3)
  rw [← h3] at b3
  obtain ⟨c4, h4⟩ : ∃ c, c = l.getD (m + 4) 0 := ⟨_, rfl⟩
  have b4 := R.bytes (m + 4)
  rw [← h4] at b4
  obtain ⟨c5, h5⟩ : ∃ c, c = l.getD (m + 5) 0 := ⟨_, rfl⟩
  have b5 := R.bytes (m + 5)
  rw [← h5] at b5
  obtain ⟨c6, h6⟩ : ∃ c, c = l.getD (m + 6) 0 := ⟨_, rfl⟩
  have b6 := R.bytes (m + 6)
  rw [← h6] at b6
  obtain ⟨c7, h7⟩ : ∃ c, c = l.getD (m + 7) 0 := ⟨_, rfl⟩
  have b7 := R.bytes (m + 7)
  rw [← h7] at b7
  obtain ⟨n, hn⟩ : ∃ n : Int, n = c0 + 256 * c1 + 65536 * c2 + 16777216 * c3 + 4294967296 * c4 + 1099511627776 * c5 + 281474976710656 * c6 + 72057594037927936 * c7 := ⟨_, rfl⟩
  have E : Hid (ldv l m 8 = (n, 0)) := by
    unfold Hid
    rw [ldv_ok (x := 8) (n := 8) (by decide) rfl (by omega) (by omega) hd, Int.toNat_natCast, eight l m hm, ← h0, ← h1, ← h2, ← h3, ← h4, ← h5, ← h6, ← h7]
    simp only [le, Prod.mk.injEq, and_true]; omega
  have E0 : Hid (ldv l (m : Int) 1 = (c0, 0)) := by
    unfold Hid
    rw [ldv_one _ (by omega), ← h0]
  have E1 : Hid (ldv l ((m : Int) + 1) 1 = (c1, 0)) := by
    unfold Hid
    rw [show (m : Int) + 1 = ((m + 1 : Nat) : Int) from by omega, ldv_one _ (by omega), ← h1]
  have E2 : Hid (ldv l ((m : Int) + 2) 1 = (c2, 0)) := by
    unfold Hid
    rw [show (m : Int) + 2 = ((m + 2 : Nat) : Int) from by omega, ldv_one _ (by omega), ← h2]
  have E3 : Hid (ldv l ((m : Int) + 3) 1 = (c3, 0)) := by
    unfold Hid
    rw [show (m : Int) + 3 = ((m + 3 : Nat) : Int) from by omega, ldv_one _ (by omega), ← h3]
  have E4 : Hid (ldv l ((m : Int) + 4) 1 = (c4, 0)) := by
    unfold Hid
    rw [show (m : Int) + 4 = ((m + 4 : Nat) : Int) from by omega, ldv_one _ (by omega), ← h4]
  have E5 : Hid (ldv l ((m : Int) + 5) 1 = (c5, 0)) := by
    unfold Hid
    rw [show (m : Int) + 5 = ((m + 5 : Nat) : Int) from by omega, ldv_one _ (by omega), ← h5]
  have E6 : Hid (ldv l ((m : Int) + 6) 1 = (c6, 0)) := by
    unfold Hid
    rw [show (m : Int) + 6 = ((m + 6 : Nat) : Int) from by omega, ldv_one _ (by omega), ← h6]
  have E7 : Hid (ldv l ((m : Int) + 7) 1 = (c7, 0)) := by
    unfold Hid
    rw [show (m : Int) + 7 = ((m + 7 : Nat) : Int) from by omega, ldv_one _ (by omega), ← h7]
  have EL : Hid (ldv l m 4 = (c0 + 256 * c1 + 65536 * c2 + 16777216 * c3, 0)) := by
    unfold Hid
    rw [ldv_ok (x := 4) (n := 4) (by decide) rfl (by omega) (by omega) (by omega), Int.toNat_natCast, four l m (by omega), ← h0, ← h1, ← h2, ← h3]
    simp only [le, Prod.mk.injEq, and_true]; omega
  have EH : Hid (ldv l ((m : Int) + 4) 4 = (c4 + 256 * c5 + 65536 * c6 + 16777216 * c7, 0)) := by
    unfold Hid
    rw [show (m : Int) + 4 = ((m + 4 : Nat) : Int) from by omega, ldv_ok (x := 4) (n := 4) (by decide) rfl (by omega) (by omega) (by omega), Int.toNat_natCast, four l (m + 4) (by omega)]
    simp only [Nat.add_assoc, Nat.reduceAdd, ← h4, ← h5, ← h6, ← h7, le, Prod.mk.injEq, and_true]; omega
  have n0 : 0 ≤ n := by omega
  have n1 : n < 18446744073709551616 := by omega
  have g0 : (c0 != n % 256) = false := by rw [bne_eq_false_iff_eq]; omega
  have g1 : (c1 != n / 256 % 256) = false := by rw [bne_eq_false_iff_eq]; omega
  have g2 : (c2 != n / 65536 % 256) = false := by rw [bne_eq_false_iff_eq]; omega
  have g3 : (c3 != n / 16777216 % 256) = false := by rw [bne_eq_false_iff_eq]; omega
  have g4 : (c4 != n / 4294967296 % 256) = false := by rw [bne_eq_false_iff_eq]; omega
  have g5 : (c5 != n / 1099511627776 % 256) = false := by rw [bne_eq_false_iff_eq]; omega
  have g6 : (c6 != n / 281474976710656 % 256) = false := by rw [bne_eq_false_iff_eq]; omega
  have g7 : (c7 != n / 72057594037927936 % 256) = false := by rw [bne_eq_false_iff_eq]; omega
  have gl : (c0 + 256 * c1 + 65536 * c2 + 16777216 * c3 == n % 4294967296) = true := by rw [beq_iff_eq]; omega
  have gh : (c4 + 256 * c5 + 65536 * c6 + 16777216 * c7 == n / 4294967296) = true := by rw [beq_iff_eq]; omega
  obtain ⟨lo, hlo⟩ : ∃ lo, lo = c0 + 256 * c1 + 65536 * c2 + 16777216 * c3 := ⟨_, rfl⟩
  obtain ⟨hi, hhi⟩ : ∃ hi, hi = c4 + 256 * c5 + 65536 * c6 + 16777216 * c7 := ⟨_, rfl⟩
  rw [← hlo] at gl EL
  rw [← hhi] at gh EH
  clear hlo hhi hn h0 h1 h2 h3 h4 h5 h6 h7
  have R' := Lib.hid R
  clear R
  go_enter Try.func7, Try.ntmps7
  go_wp2_with fail
  refine (load_any _ _ 8 l _ R'.out).mono ?_
  rintro e w0 ⟨rfl, hb⟩
  rw [E.out]
  have R0 := Lib.hid (R'.out.mono hb (Nat.le_refl _))
  have B0 : Below w.heap.size w w0 := hb
  clear hb R'
  go_wp2_with fail
  refine wp_loop_rounds 9 ?_
  rw [rounds_succ]
  go_wp2_with fail
  refine (load_any _ _ 1 l _ R0.out).mono ?_
  rintro e w1 ⟨rfl, hb⟩
  rw [E0.out]
  have R1 := Lib.hid (R0.out.mono hb (Nat.le_refl _))
  have B1 : Below w.heap.size w w1 := B0.trans (hb.mono B0.size)
  clear hb R0 B0
  go_wp2
  rw [rounds_succ]
  go_wp2_with fail
  refine (load_any _ _ 1 l _ R1.out).mono ?_
  rintro e w2 ⟨rfl, hb⟩
  rw [E1.out]
  have R2 := Lib.hid (R1.out.mono hb (Nat.le_refl _))
  have B2 : Below w.heap.size w w2 := B1.trans (hb.mono B1.size)
  clear hb R1 B1
  go_wp2
  rw [rounds_succ]
  go_wp2_with fail
  refine (load_any _ _ 1 l _ R2.out).mono ?_
  rintro e w3 ⟨rfl, hb⟩
  rw [E2.out]
  have R3 := Lib.hid (R2.out.mono hb (Nat.le_refl _))
  have B3 : Below w.heap.size w w3 := B2.trans (hb.mono B2.size)
  clear hb R2 B2
  go_wp2
  rw [rounds_succ]
  go_wp2_with fail
  refine (load_any _ _ 1 l _ R3.out).mono ?_
  rintro e w4 ⟨rfl, hb⟩
  rw [E3.out]
  have R4 := Lib.hid (R3.out.mono hb (Nat.le_refl _))
  have B4 : Below w.heap.size w w4 := B3.trans (hb.mono B3.size)
  clear hb R3 B3
  go_wp2
  rw [rounds_succ]
  go_wp2_with fail
  refine (load_any _ _ 1 l _ R4.out).mono ?_
  rintro e w5 ⟨rfl, hb⟩
  rw [E4.out]
  have R5 := Lib.hid (R4.out.mono hb (Nat.le_refl _))
  have B5 : Below w.heap.size w w5 := B4.trans (hb.mono B4.size)
  clear hb R4 B4
  go_wp2
  rw [rounds_succ]
  go_wp2_with fail
  refine (load_any _ _ 1 l _ R5.out).mono ?_
  rintro e w6 ⟨rfl, hb⟩
  rw [E5.out]
  have R6 := Lib.hid (R5.out.mono hb (Nat.le_refl _))
  have B6 : Below w.heap.size w w6 := B5.trans (hb.mono B5.size)
  clear hb R5 B5
  go_wp2
  rw [rounds_succ]
  go_wp2_with fail
  refine (load_any _ _ 1 l _ R6.out).mono ?_
  rintro e w7 ⟨rfl, hb⟩
  rw [E6.out]
  have R7 := Lib.hid (R6.out.mono hb (Nat.le_refl _))
  have B7 : Below w.heap.size w w7 := B6.trans (hb.mono B6.size)
  clear hb R6 B6
  go_wp2
  rw [rounds_succ]
  go_wp2_with fail
  refine (load_any _ _ 1 l _ R7.out).mono ?_
  rintro e w8 ⟨rfl, hb⟩
  rw [E7.out]
  have R8 := Lib.hid (R7.out.mono hb (Nat.le_refl _))
  have B8 : Below w.heap.size w w8 := B7.trans (hb.mono B7.size)
  clear hb R7 B7
  go_wp2
  rw [rounds_succ]
  go_wp2_with fail
  refine (load_any _ _ 4 l _ R8.out).mono ?_
  rintro e w9 ⟨rfl, hb⟩
  rw [EL.out]
  have R9 := Lib.hid (R8.out.mono hb (Nat.le_refl _))
  have B9 : Below w.heap.size w w9 := B8.trans (hb.mono B8.size)
  clear hb R8 B8
  go_wp2_with fail
  refine (load_any _ _ 4 l _ R9.out).mono ?_
  rintro e w10 ⟨rfl, hb⟩
  rw [EH.out]
  have B10 : Below w.heap.size w w10 := B9.trans (hb.mono B9.size)
  clear hb R9 B9
  go_wp2_with (first
      | (go_at_call 8; refine (loads_any _).mono ?_; rintro e w11 ⟨rfl, hb⟩))
  go_ret
  exact ⟨rfl, B10.trans (hb.mono B10.size)⟩
end Go.Proofs.Ytbigoonacdmkeaa.Num
