/- The walk of LayoutApart. -/
import Derived.Test.YtemkmkkpamhfoaaDoorLayQ
namespace Go.Proofs.YtemkmkkpamhfoaaDoor.Lay
open Go.RowKit
set_option linter.unusedVariables false

set_option maxRecDepth 100000 in
set_option maxHeartbeats 2000000 in
theorem layoutApart_walk {Tb : World → Prop} (D : Does Tb) (s n i k : Int) (w : World) (ht : Tb w) (s1 : -9223372036854775808 ≤ s) (s2 : s ≤ 9223372036854775807) (n1 : -9223372036854775808 ≤ n) (n2 : n ≤ 9223372036854775807) (i1 : -9223372036854775808 ≤ i) (i2 : i ≤ 9223372036854775807) (k1 : -9223372036854775808 ≤ k) (k2 : k ≤ 9223372036854775807) :
    Calls Tryd.prog 6 #[.agg #[.int .i64 s, .int .i64 n], .int .i64 i, .int .i64 k] w fun e w' => e = .returned (.bool true) ∧ Below w.heap.size w w' := by
  have HL := Lib.hid (fun u (hu : Tb u) => lies_any D u hu)
  have H1 := Lib.hid (fun u (hu : Tb u) => D.right s n u hu s1 s2 n1 n2)
  obtain ⟨c1, c2, hlt1, hb⟩ := one_box (Below.refl (W1 w s n).heap.size (W1 w s n))
  unfold W1 at c1 c2 hlt1 hb
  have HKeep := Lib.hid D.keep
  have HKd := Lib.hid (fun u (hu : Tb u) => D.keep u u.drew (Below.refl _ u).drew hu)
  have htb := D.keep _ _ (below_made w (.cells #[.int .i64 s, .int .i64 n] 23)) ht
  by_cases h : rightC s n = true
  · rw [h] at H1
    by_cases hi : 0 ≤ i ∧ i < s ∧ 0 ≤ k ∧ k < n
    · have HD := Lib.hid D
      obtain ⟨S, N, rfl, rfl, b1, b2, b3, b4, b5⟩ := right_nat h
      obtain ⟨I, rfl⟩ := Int.eq_ofNat_of_zero_le hi.1
      obtain ⟨K, rfl⟩ := Int.eq_ofNat_of_zero_le hi.2.2.1
      have hIS : I < S := by omega
      have hKN : K < N := by omega
      have hb16 := base_sixteen (s := S) b3
      have hend : endT S N = 128 + 16 * S + 4 * N := rfl
      have hz : sizeT S N = baseT S N + 1024 * S := rfl
      have q1 : baseC (S : Int) (N : Int) = baseT S N := by rw [baseC, if_pos h, Int.toNat_natCast, Int.toNat_natCast]
      have q2 : sizeC (S : Int) (N : Int) = sizeT S N := by rw [sizeC, if_pos h, Int.toNat_natCast, Int.toNat_natCast]
      have hH := Lib.hid (fun (j : Nat) u (hu : Tb u) (hj : j < S) => show Calls Tryd.prog 22 #[.agg #[.int .i64 (S : Int), .int .i64 (N : Int)], .int .i64 (j : Int)] u fun e w' => e = .returned (.int .i64 ((128 + 16 * j : Nat) : Int)) ∧ Below u.heap.size u w' from by
        have := D.headAt (S : Int) (N : Int) (j : Int) u hu s1 s2 n1 n2 (by omega) (by omega)
        rw [show headC (S : Int) (N : Int) (j : Int) = 128 + 16 * j by rw [headC, if_pos ⟨h, by omega, by omega⟩, Int.toNat_natCast]] at this
        exact this)
      have hT := Lib.hid (fun (j : Nat) u (hu : Tb u) (hj : j < N) => show Calls Tryd.prog 24 #[.agg #[.int .i64 (S : Int), .int .i64 (N : Int)], .int .i64 (j : Int)] u fun e w' => e = .returned (.int .i64 ((128 + 16 * S + 4 * j : Nat) : Int)) ∧ Below u.heap.size u w' from by
        have := D.slotAt (S : Int) (N : Int) (j : Int) u hu s1 s2 n1 n2 (by omega) (by omega)
        rw [show slotC (S : Int) (N : Int) (j : Int) = 128 + 16 * S + 4 * j by rw [slotC, if_pos ⟨h, by omega, by omega⟩, Int.toNat_natCast, Int.toNat_natCast]; rfl] at this
        exact this)
      have hB := Lib.hid (fun (j : Nat) u (hu : Tb u) (hj : j < S) => show Calls Tryd.prog 26 #[.agg #[.int .i64 (S : Int), .int .i64 (N : Int)], .int .i64 (j : Int)] u fun e w' => e = .returned (.int .i64 ((baseT S N + 1024 * j : Nat) : Int)) ∧ Below u.heap.size u w' from by
        have := D.slabAt (S : Int) (N : Int) (j : Int) u hu s1 s2 n1 n2 (by omega) (by omega)
        rw [show slabC (S : Int) (N : Int) (j : Int) = baseT S N + 1024 * j by rw [slabC, if_pos ⟨h, by omega, by omega⟩, Int.toNat_natCast, Int.toNat_natCast, Int.toNat_natCast]] at this
        exact this)
      have hIn := Lib.hid (fun (a : Nat) u (hu : Tb u) (h1 : baseT S N + 1024 * I ≤ a) (h2 : a < baseT S N + 1024 * I + 1024) => show Calls Tryd.prog 20 #[.agg #[.int .i64 (S : Int), .int .i64 (N : Int)], .int .i64 (a : Int)] u fun e w' => e = .returned (.tuple #[.int .i64 (I : Int), .bool true]) ∧ Below u.heap.size u w' from by
        have := D.slab (S : Int) (N : Int) (a : Int) u hu s1 s2 n1 n2 (by omega) (by omega)
        rw [inC_yes (k := I) h rfl rfl hIS (by omega) (by omega)] at this
        exact this)
      have hOut := Lib.hid (fun (a : Nat) u (hu : Tb u) (h1 : a < baseT S N) => show Calls Tryd.prog 20 #[.agg #[.int .i64 (S : Int), .int .i64 (N : Int)], .int .i64 (a : Int)] u fun e w' => e = .returned (.tuple #[.int .i64 0, .bool false]) ∧ Below u.heap.size u w' from by
        have := D.slab (S : Int) (N : Int) (a : Int) u hu s1 s2 n1 n2 (by omega) (by omega)
        rw [inC_no (S := S) (N := N) rfl rfl (by intro j hj; omega)] at this
        exact this)
      have h6 := fun u (hu : Tb u) => D.base (S : Int) (N : Int) u hu s1 s2 n1 n2
      have h7 := fun u (hu : Tb u) => D.size (S : Int) (N : Int) u hu s1 s2 n1 n2
      rw [q1] at h6
      rw [q2] at h7
      have H6 := Lib.hid h6
      have H7 := Lib.hid h7
      obtain ⟨B, hBe⟩ : ∃ B, B = baseT S N := ⟨_, rfl⟩
      obtain ⟨Z, hZe⟩ : ∃ Z, Z = sizeT S N := ⟨_, rfl⟩
      rw [← hBe] at hB hIn hOut H6 hb16 hz
      rw [← hZe] at H7 hz
      obtain ⟨x, hx⟩ : ∃ x, x = 128 + 16 * I := ⟨_, rfl⟩
      obtain ⟨y, hy⟩ : ∃ y, y = 128 + 16 * S + 4 * K := ⟨_, rfl⟩
      obtain ⟨z, hze⟩ : ∃ z, z = B + 1024 * I := ⟨_, rfl⟩
      have X := Lib.hid (fun u hu => hH.out I u hu hIS)
      have Y := Lib.hid (fun u hu => hT.out K u hu hKN)
      have Zc := Lib.hid (fun u hu => hB.out I u hu hIS)
      rw [← hx] at X
      rw [← hy] at Y
      rw [← hze] at Zc
      have A1 := Lib.hid (fun u hu => hIn.out z u hu (by omega) (by omega))
      obtain ⟨z3, hz3⟩ : ∃ z3, z3 = z + 1023 := ⟨_, rfl⟩
      have A2 := Lib.hid (fun u hu => hIn.out z3 u hu (by omega) (by omega))
      have A3 := Lib.hid (fun u hu => hOut.out y u hu (by omega))
      obtain ⟨y0, hy0⟩ : ∃ y0, y0 = 128 + 16 * S + 4 * 0 := ⟨_, rfl⟩
      have y0' := fun u hu => hT.out 0 u hu (by omega)
      rw [← hy0] at y0'
      have Y0 : Hid (∀ u, Tb u → Calls Tryd.prog 24 #[.agg #[.int .i64 (S : Int), .int .i64 (N : Int)], .int .i64 0] u fun e w' => e = .returned (.int .i64 (y0 : Int)) ∧ Below u.heap.size u w') := y0'
      clear y0'
      have hz3i : (z : Int) + 1023 = (z3 : Int) := by omega
      have f1 : ¬ (x : Int) < 128 := by omega
      have f2 : (x : Int) % 16 = 0 := by omega
      have f3 : (y : Int) % 4 = 0 := by omega
      have f4 : (z : Int) % 16 = 0 := by omega
      have f2n : x % 16 = 0 := by omega
      have f3n : y % 4 = 0 := by omega
      have f4n : z % 16 = 0 := by omega
      have f5 : (x : Int) + 16 ≤ (y0 : Int) := by omega
      have f6 : (y : Int) + 4 ≤ (B : Int) := by omega
      have f7 : (z : Int) + 1024 ≤ (Z : Int) := by omega
      have f8 : (Z : Int) ≤ 1000000 := by omega
      have g1 : ¬ (I : Int) < 0 := by omega
      have g2 : ¬ (S : Int) ≤ (I : Int) := by omega
      have g3 : ¬ (K : Int) < 0 := by omega
      have g4 : ¬ (N : Int) ≤ (K : Int) := by omega
      have gS : (S : Int) ≤ 64 := by omega
      have gN : (N : Int) ≤ 8192 := by omega
      have hcI : (I = 0 ∧ decide ((0 : Int) < (I : Int)) = false ∧ decide (0 < I) = false) ∨ ∃ IP xp zp : Nat, decide ((0 : Int) < (I : Int)) = true ∧ decide (0 < I) = true ∧ (I : Int) - 1 = (IP : Int) ∧ IntKind.i64.wrap ((I : Int) - 1) = (IP : Int) ∧ IP < S ∧ xp = 128 + 16 * IP ∧ zp = B + 1024 * IP ∧ (xp : Int) + 16 = (x : Int) ∧ (zp : Int) + 1024 = (z : Int) := by
        by_cases h0 : I = 0
        · exact .inl ⟨h0, by simp; omega, by simp; omega⟩
        · exact .inr ⟨I - 1, 128 + 16 * (I - 1), B + 1024 * (I - 1), by simp; omega, by simp; omega, by omega, (wrap_id (by omega) (by omega)).trans (by omega), by omega, rfl, rfl, by omega, by omega⟩
      have hcK : (K = 0 ∧ decide ((0 : Int) < (K : Int)) = false ∧ decide (0 < K) = false) ∨ ∃ KP yp : Nat, decide ((0 : Int) < (K : Int)) = true ∧ decide (0 < K) = true ∧ (K : Int) - 1 = (KP : Int) ∧ IntKind.i64.wrap ((K : Int) - 1) = (KP : Int) ∧ KP < N ∧ yp = 128 + 16 * S + 4 * KP ∧ (yp : Int) + 4 = (y : Int) := by
        by_cases h0 : K = 0
        · exact .inl ⟨h0, by simp; omega, by simp; omega⟩
        · exact .inr ⟨K - 1, 128 + 16 * S + 4 * (K - 1), by simp; omega, by simp; omega, by omega, (wrap_id (by omega) (by omega)).trans (by omega), by omega, rfl, by omega⟩
      have hxx : ((x : Int) != (x : Int)) = false := by simp
      have hyy : ((y : Int) != (y : Int)) = false := by simp
      have hzz : ((z : Int) != (z : Int)) = false := by simp
      have hII : ((I : Int) == (I : Int)) = true := by simp
      have fx : (x : Int) ≤ 100000 := by omega
      have fy : (y : Int) ≤ 100000 := by omega
      have fz : (z : Int) ≤ 1000000 := by omega
      clear h hi hIS hKN hb16 hend hz q1 q2 hIn hOut h6 h7 hBe hZe hx hy hze hz3 hy0 b1 b2 b3 b4 b5 s1 s2 n1 n2 i1 i2 k1 k2 D
      rcases hcI with ⟨hI0, e1, e2⟩ | ⟨IP, xp, zp, e1, e2, e3, e4, hIP, hxp, hzp, e5, e6⟩
      · clear hI0 hH hB
        rcases hcK with ⟨hK0, d1, d2⟩ | ⟨KP, yp, d1, d2, d3, d4, hKP, hyp, d5⟩
        · clear hK0 hT
          go_enter Tryd.func6, Tryd.ntmps6
          go_wp2_with (go_at_call 8; refine (H1.out _ (by first | exact htb | exact HKd.out _ htb)).mono ?_; rintro e w1 ⟨rfl, hw1⟩; replace c1 := (hw1.cell (p := ⟨w.heap.size, 0, none⟩) hlt1).trans c1; replace c2 := (hw1.cell (p := ⟨w.heap.size, 1, none⟩) hlt1).trans c2; replace hb := hb.trans (hw1.mono hb.size); replace htb := HKeep.out _ _ hw1 htb; replace hlt1 := Nat.lt_of_lt_of_le hlt1 hw1.size; clear hw1)
          have k1 := Kept.cell c1 hlt1
          have k2 := Kept.cell c2 hlt1
          have HKT := Lib.hid (fun kk : Kept _ _ => HKeep.out _ _ kk.below htb)
          refine wp_region_kept (by kernel_rfl) (by kernel_rfl) ?_
          repeat (go_big_quiet_step (first | (go_at_call 22; exact Calls.kept_of (X.out _ (HKT.out _)) (Nat.le_refl _)) | (go_at_call 24; exact Calls.kept_of (Y.out _ (HKT.out _)) (Nat.le_refl _)) | (go_at_call 26; exact Calls.kept_of (Zc.out _ (HKT.out _)) (Nat.le_refl _))))
          refine wpQuiet_nil ?_
          intro _ hw'
          obtain ⟨kk, rfl⟩ := hw'
          have hw1 := kk.below
          replace c1 := (hw1.cell (p := ⟨w.heap.size, 0, none⟩) hlt1).trans c1
          replace c2 := (hw1.cell (p := ⟨w.heap.size, 1, none⟩) hlt1).trans c2
          replace hb := hb.trans (hw1.mono hb.size)
          replace htb := HKeep.out _ _ hw1 htb
          replace hlt1 := Nat.lt_of_lt_of_le hlt1 hw1.size
          clear hw1 k1 k2
          go_wp2_with fail
          refine (A1.out _ (by first | exact htb | exact HKd.out _ htb)).mono ?_
          rintro e w1 ⟨rfl, hw1⟩
          replace c1 := (hw1.cell (p := ⟨w.heap.size, 0, none⟩) hlt1).trans c1
          replace c2 := (hw1.cell (p := ⟨w.heap.size, 1, none⟩) hlt1).trans c2
          replace hb := hb.trans (hw1.mono hb.size)
          replace htb := HKeep.out _ _ hw1 htb
          replace hlt1 := Nat.lt_of_lt_of_le hlt1 hw1.size
          clear hw1
          go_wp2_with fail
          refine (A2.out _ (by first | exact htb | exact HKd.out _ htb)).mono ?_
          rintro e w1 ⟨rfl, hw1⟩
          replace c1 := (hw1.cell (p := ⟨w.heap.size, 0, none⟩) hlt1).trans c1
          replace c2 := (hw1.cell (p := ⟨w.heap.size, 1, none⟩) hlt1).trans c2
          replace hb := hb.trans (hw1.mono hb.size)
          replace htb := HKeep.out _ _ hw1 htb
          replace hlt1 := Nat.lt_of_lt_of_le hlt1 hw1.size
          clear hw1
          go_wp2_with fail
          refine (A3.out _ (by first | exact htb | exact HKd.out _ htb)).mono ?_
          rintro e w1 ⟨rfl, hw1⟩
          replace c1 := (hw1.cell (p := ⟨w.heap.size, 0, none⟩) hlt1).trans c1
          replace c2 := (hw1.cell (p := ⟨w.heap.size, 1, none⟩) hlt1).trans c2
          replace hb := hb.trans (hw1.mono hb.size)
          replace htb := HKeep.out _ _ hw1 htb
          replace hlt1 := Nat.lt_of_lt_of_le hlt1 hw1.size
          clear hw1
          go_wp2_with fail
          refine (Y0.out _ (by first | exact htb | exact HKd.out _ htb)).mono ?_
          rintro e w1 ⟨rfl, hw1⟩
          replace c1 := (hw1.cell (p := ⟨w.heap.size, 0, none⟩) hlt1).trans c1
          replace c2 := (hw1.cell (p := ⟨w.heap.size, 1, none⟩) hlt1).trans c2
          replace hb := hb.trans (hw1.mono hb.size)
          replace htb := HKeep.out _ _ hw1 htb
          replace hlt1 := Nat.lt_of_lt_of_le hlt1 hw1.size
          clear hw1
          go_wp2_with fail
          refine (H6.out _ (by first | exact htb | exact HKd.out _ htb)).mono ?_
          rintro e w1 ⟨rfl, hw1⟩
          replace c1 := (hw1.cell (p := ⟨w.heap.size, 0, none⟩) hlt1).trans c1
          replace c2 := (hw1.cell (p := ⟨w.heap.size, 1, none⟩) hlt1).trans c2
          replace hb := hb.trans (hw1.mono hb.size)
          replace htb := HKeep.out _ _ hw1 htb
          replace hlt1 := Nat.lt_of_lt_of_le hlt1 hw1.size
          clear hw1
          go_wp2_with fail
          refine (H7.out _ (by first | exact htb | exact HKd.out _ htb)).mono ?_
          rintro e w1 ⟨rfl, hw1⟩
          replace c1 := (hw1.cell (p := ⟨w.heap.size, 0, none⟩) hlt1).trans c1
          replace c2 := (hw1.cell (p := ⟨w.heap.size, 1, none⟩) hlt1).trans c2
          replace hb := hb.trans (hw1.mono hb.size)
          replace htb := HKeep.out _ _ hw1 htb
          replace hlt1 := Nat.lt_of_lt_of_le hlt1 hw1.size
          clear hw1
          go_wp2_with fail
          refine (HL.out _ (by first | exact htb | exact HKd.out _ htb)).mono ?_
          rintro e w1 ⟨rfl, hw1⟩
          replace c1 := (hw1.cell (p := ⟨w.heap.size, 0, none⟩) hlt1).trans c1
          replace c2 := (hw1.cell (p := ⟨w.heap.size, 1, none⟩) hlt1).trans c2
          replace hb := hb.trans (hw1.mono hb.size)
          replace htb := HKeep.out _ _ hw1 htb
          replace hlt1 := Nat.lt_of_lt_of_le hlt1 hw1.size
          clear hw1
          go_wp2
          go_ret
          exact ⟨rfl, hb⟩
        · have YP := Lib.hid (fun u hu => hT.out KP u hu hKP)
          rw [← hyp] at YP
          have fyp : (yp : Int) ≤ 100000 := by omega
          clear hT hyp hKP
          go_enter Tryd.func6, Tryd.ntmps6
          go_wp2_with (go_at_call 8; refine (H1.out _ (by first | exact htb | exact HKd.out _ htb)).mono ?_; rintro e w1 ⟨rfl, hw1⟩; replace c1 := (hw1.cell (p := ⟨w.heap.size, 0, none⟩) hlt1).trans c1; replace c2 := (hw1.cell (p := ⟨w.heap.size, 1, none⟩) hlt1).trans c2; replace hb := hb.trans (hw1.mono hb.size); replace htb := HKeep.out _ _ hw1 htb; replace hlt1 := Nat.lt_of_lt_of_le hlt1 hw1.size; clear hw1)
          have k1 := Kept.cell c1 hlt1
          have k2 := Kept.cell c2 hlt1
          have HKT := Lib.hid (fun kk : Kept _ _ => HKeep.out _ _ kk.below htb)
          refine wp_region_kept (by kernel_rfl) (by kernel_rfl) ?_
          repeat (go_big_quiet_step (first | (go_at_call 22; exact Calls.kept_of (X.out _ (HKT.out _)) (Nat.le_refl _)) | (go_at_call 24; exact Calls.kept_of (Y.out _ (HKT.out _)) (Nat.le_refl _)) | (go_at_call 26; exact Calls.kept_of (Zc.out _ (HKT.out _)) (Nat.le_refl _))))
          refine wpQuiet_nil ?_
          intro _ hw'
          obtain ⟨kk, rfl⟩ := hw'
          have hw1 := kk.below
          replace c1 := (hw1.cell (p := ⟨w.heap.size, 0, none⟩) hlt1).trans c1
          replace c2 := (hw1.cell (p := ⟨w.heap.size, 1, none⟩) hlt1).trans c2
          replace hb := hb.trans (hw1.mono hb.size)
          replace htb := HKeep.out _ _ hw1 htb
          replace hlt1 := Nat.lt_of_lt_of_le hlt1 hw1.size
          clear hw1 k1 k2
          go_wp2_with fail
          refine (YP.out _ (by first | exact htb | exact HKd.out _ htb)).mono ?_
          rintro e w1 ⟨rfl, hw1⟩
          replace c1 := (hw1.cell (p := ⟨w.heap.size, 0, none⟩) hlt1).trans c1
          replace c2 := (hw1.cell (p := ⟨w.heap.size, 1, none⟩) hlt1).trans c2
          replace hb := hb.trans (hw1.mono hb.size)
          replace htb := HKeep.out _ _ hw1 htb
          replace hlt1 := Nat.lt_of_lt_of_le hlt1 hw1.size
          clear hw1
          go_wp2_with fail
          refine (A1.out _ (by first | exact htb | exact HKd.out _ htb)).mono ?_
          rintro e w1 ⟨rfl, hw1⟩
          replace c1 := (hw1.cell (p := ⟨w.heap.size, 0, none⟩) hlt1).trans c1
          replace c2 := (hw1.cell (p := ⟨w.heap.size, 1, none⟩) hlt1).trans c2
          replace hb := hb.trans (hw1.mono hb.size)
          replace htb := HKeep.out _ _ hw1 htb
          replace hlt1 := Nat.lt_of_lt_of_le hlt1 hw1.size
          clear hw1
          go_wp2_with fail
          refine (A2.out _ (by first | exact htb | exact HKd.out _ htb)).mono ?_
          rintro e w1 ⟨rfl, hw1⟩
          replace c1 := (hw1.cell (p := ⟨w.heap.size, 0, none⟩) hlt1).trans c1
          replace c2 := (hw1.cell (p := ⟨w.heap.size, 1, none⟩) hlt1).trans c2
          replace hb := hb.trans (hw1.mono hb.size)
          replace htb := HKeep.out _ _ hw1 htb
          replace hlt1 := Nat.lt_of_lt_of_le hlt1 hw1.size
          clear hw1
          go_wp2_with fail
          refine (A3.out _ (by first | exact htb | exact HKd.out _ htb)).mono ?_
          rintro e w1 ⟨rfl, hw1⟩
          replace c1 := (hw1.cell (p := ⟨w.heap.size, 0, none⟩) hlt1).trans c1
          replace c2 := (hw1.cell (p := ⟨w.heap.size, 1, none⟩) hlt1).trans c2
          replace hb := hb.trans (hw1.mono hb.size)
          replace htb := HKeep.out _ _ hw1 htb
          replace hlt1 := Nat.lt_of_lt_of_le hlt1 hw1.size
          clear hw1
          go_wp2_with fail
          refine (Y0.out _ (by first | exact htb | exact HKd.out _ htb)).mono ?_
          rintro e w1 ⟨rfl, hw1⟩
          replace c1 := (hw1.cell (p := ⟨w.heap.size, 0, none⟩) hlt1).trans c1
          replace c2 := (hw1.cell (p := ⟨w.heap.size, 1, none⟩) hlt1).trans c2
          replace hb := hb.trans (hw1.mono hb.size)
          replace htb := HKeep.out _ _ hw1 htb
          replace hlt1 := Nat.lt_of_lt_of_le hlt1 hw1.size
          clear hw1
          go_wp2_with fail
          refine (H6.out _ (by first | exact htb | exact HKd.out _ htb)).mono ?_
          rintro e w1 ⟨rfl, hw1⟩
          replace c1 := (hw1.cell (p := ⟨w.heap.size, 0, none⟩) hlt1).trans c1
          replace c2 := (hw1.cell (p := ⟨w.heap.size, 1, none⟩) hlt1).trans c2
          replace hb := hb.trans (hw1.mono hb.size)
          replace htb := HKeep.out _ _ hw1 htb
          replace hlt1 := Nat.lt_of_lt_of_le hlt1 hw1.size
          clear hw1
          go_wp2_with fail
          refine (H7.out _ (by first | exact htb | exact HKd.out _ htb)).mono ?_
          rintro e w1 ⟨rfl, hw1⟩
          replace c1 := (hw1.cell (p := ⟨w.heap.size, 0, none⟩) hlt1).trans c1
          replace c2 := (hw1.cell (p := ⟨w.heap.size, 1, none⟩) hlt1).trans c2
          replace hb := hb.trans (hw1.mono hb.size)
          replace htb := HKeep.out _ _ hw1 htb
          replace hlt1 := Nat.lt_of_lt_of_le hlt1 hw1.size
          clear hw1
          go_wp2_with fail
          refine (HL.out _ (by first | exact htb | exact HKd.out _ htb)).mono ?_
          rintro e w1 ⟨rfl, hw1⟩
          replace c1 := (hw1.cell (p := ⟨w.heap.size, 0, none⟩) hlt1).trans c1
          replace c2 := (hw1.cell (p := ⟨w.heap.size, 1, none⟩) hlt1).trans c2
          replace hb := hb.trans (hw1.mono hb.size)
          replace htb := HKeep.out _ _ hw1 htb
          replace hlt1 := Nat.lt_of_lt_of_le hlt1 hw1.size
          clear hw1
          go_wp2
          go_ret
          exact ⟨rfl, hb⟩
      · have XP := Lib.hid (fun u hu => hH.out IP u hu hIP)
        have ZP := Lib.hid (fun u hu => hB.out IP u hu hIP)
        rw [← hxp] at XP
        rw [← hzp] at ZP
        have fxp : (xp : Int) ≤ 100000 := by omega
        have fzp : (zp : Int) ≤ 1000000 := by omega
        clear hH hB hxp hzp hIP
        rcases hcK with ⟨hK0, d1, d2⟩ | ⟨KP, yp, d1, d2, d3, d4, hKP, hyp, d5⟩
        · clear hK0 hT
          go_enter Tryd.func6, Tryd.ntmps6
          go_wp2_with (go_at_call 8; refine (H1.out _ (by first | exact htb | exact HKd.out _ htb)).mono ?_; rintro e w1 ⟨rfl, hw1⟩; replace c1 := (hw1.cell (p := ⟨w.heap.size, 0, none⟩) hlt1).trans c1; replace c2 := (hw1.cell (p := ⟨w.heap.size, 1, none⟩) hlt1).trans c2; replace hb := hb.trans (hw1.mono hb.size); replace htb := HKeep.out _ _ hw1 htb; replace hlt1 := Nat.lt_of_lt_of_le hlt1 hw1.size; clear hw1)
          have k1 := Kept.cell c1 hlt1
          have k2 := Kept.cell c2 hlt1
          have HKT := Lib.hid (fun kk : Kept _ _ => HKeep.out _ _ kk.below htb)
          refine wp_region_kept (by kernel_rfl) (by kernel_rfl) ?_
          repeat (go_big_quiet_step (first | (go_at_call 22; exact Calls.kept_of (X.out _ (HKT.out _)) (Nat.le_refl _)) | (go_at_call 24; exact Calls.kept_of (Y.out _ (HKT.out _)) (Nat.le_refl _)) | (go_at_call 26; exact Calls.kept_of (Zc.out _ (HKT.out _)) (Nat.le_refl _))))
          refine wpQuiet_nil ?_
          intro _ hw'
          obtain ⟨kk, rfl⟩ := hw'
          have hw1 := kk.below
          replace c1 := (hw1.cell (p := ⟨w.heap.size, 0, none⟩) hlt1).trans c1
          replace c2 := (hw1.cell (p := ⟨w.heap.size, 1, none⟩) hlt1).trans c2
          replace hb := hb.trans (hw1.mono hb.size)
          replace htb := HKeep.out _ _ hw1 htb
          replace hlt1 := Nat.lt_of_lt_of_le hlt1 hw1.size
          clear hw1 k1 k2
          go_wp2_with fail
          refine (XP.out _ (by first | exact htb | exact HKd.out _ htb)).mono ?_
          rintro e w1 ⟨rfl, hw1⟩
          replace c1 := (hw1.cell (p := ⟨w.heap.size, 0, none⟩) hlt1).trans c1
          replace c2 := (hw1.cell (p := ⟨w.heap.size, 1, none⟩) hlt1).trans c2
          replace hb := hb.trans (hw1.mono hb.size)
          replace htb := HKeep.out _ _ hw1 htb
          replace hlt1 := Nat.lt_of_lt_of_le hlt1 hw1.size
          clear hw1
          go_wp2_with fail
          refine (ZP.out _ (by first | exact htb | exact HKd.out _ htb)).mono ?_
          rintro e w1 ⟨rfl, hw1⟩
          replace c1 := (hw1.cell (p := ⟨w.heap.size, 0, none⟩) hlt1).trans c1
          replace c2 := (hw1.cell (p := ⟨w.heap.size, 1, none⟩) hlt1).trans c2
          replace hb := hb.trans (hw1.mono hb.size)
          replace htb := HKeep.out _ _ hw1 htb
          replace hlt1 := Nat.lt_of_lt_of_le hlt1 hw1.size
          clear hw1
          go_wp2_with fail
          refine (A1.out _ (by first | exact htb | exact HKd.out _ htb)).mono ?_
          rintro e w1 ⟨rfl, hw1⟩
          replace c1 := (hw1.cell (p := ⟨w.heap.size, 0, none⟩) hlt1).trans c1
          replace c2 := (hw1.cell (p := ⟨w.heap.size, 1, none⟩) hlt1).trans c2
          replace hb := hb.trans (hw1.mono hb.size)
          replace htb := HKeep.out _ _ hw1 htb
          replace hlt1 := Nat.lt_of_lt_of_le hlt1 hw1.size
          clear hw1
          go_wp2_with fail
          refine (A2.out _ (by first | exact htb | exact HKd.out _ htb)).mono ?_
          rintro e w1 ⟨rfl, hw1⟩
          replace c1 := (hw1.cell (p := ⟨w.heap.size, 0, none⟩) hlt1).trans c1
          replace c2 := (hw1.cell (p := ⟨w.heap.size, 1, none⟩) hlt1).trans c2
          replace hb := hb.trans (hw1.mono hb.size)
          replace htb := HKeep.out _ _ hw1 htb
          replace hlt1 := Nat.lt_of_lt_of_le hlt1 hw1.size
          clear hw1
          go_wp2_with fail
          refine (A3.out _ (by first | exact htb | exact HKd.out _ htb)).mono ?_
          rintro e w1 ⟨rfl, hw1⟩
          replace c1 := (hw1.cell (p := ⟨w.heap.size, 0, none⟩) hlt1).trans c1
          replace c2 := (hw1.cell (p := ⟨w.heap.size, 1, none⟩) hlt1).trans c2
          replace hb := hb.trans (hw1.mono hb.size)
          replace htb := HKeep.out _ _ hw1 htb
          replace hlt1 := Nat.lt_of_lt_of_le hlt1 hw1.size
          clear hw1
          go_wp2_with fail
          refine (Y0.out _ (by first | exact htb | exact HKd.out _ htb)).mono ?_
          rintro e w1 ⟨rfl, hw1⟩
          replace c1 := (hw1.cell (p := ⟨w.heap.size, 0, none⟩) hlt1).trans c1
          replace c2 := (hw1.cell (p := ⟨w.heap.size, 1, none⟩) hlt1).trans c2
          replace hb := hb.trans (hw1.mono hb.size)
          replace htb := HKeep.out _ _ hw1 htb
          replace hlt1 := Nat.lt_of_lt_of_le hlt1 hw1.size
          clear hw1
          go_wp2_with fail
          refine (H6.out _ (by first | exact htb | exact HKd.out _ htb)).mono ?_
          rintro e w1 ⟨rfl, hw1⟩
          replace c1 := (hw1.cell (p := ⟨w.heap.size, 0, none⟩) hlt1).trans c1
          replace c2 := (hw1.cell (p := ⟨w.heap.size, 1, none⟩) hlt1).trans c2
          replace hb := hb.trans (hw1.mono hb.size)
          replace htb := HKeep.out _ _ hw1 htb
          replace hlt1 := Nat.lt_of_lt_of_le hlt1 hw1.size
          clear hw1
          go_wp2_with fail
          refine (H7.out _ (by first | exact htb | exact HKd.out _ htb)).mono ?_
          rintro e w1 ⟨rfl, hw1⟩
          replace c1 := (hw1.cell (p := ⟨w.heap.size, 0, none⟩) hlt1).trans c1
          replace c2 := (hw1.cell (p := ⟨w.heap.size, 1, none⟩) hlt1).trans c2
          replace hb := hb.trans (hw1.mono hb.size)
          replace htb := HKeep.out _ _ hw1 htb
          replace hlt1 := Nat.lt_of_lt_of_le hlt1 hw1.size
          clear hw1
          go_wp2_with fail
          refine (HL.out _ (by first | exact htb | exact HKd.out _ htb)).mono ?_
          rintro e w1 ⟨rfl, hw1⟩
          replace c1 := (hw1.cell (p := ⟨w.heap.size, 0, none⟩) hlt1).trans c1
          replace c2 := (hw1.cell (p := ⟨w.heap.size, 1, none⟩) hlt1).trans c2
          replace hb := hb.trans (hw1.mono hb.size)
          replace htb := HKeep.out _ _ hw1 htb
          replace hlt1 := Nat.lt_of_lt_of_le hlt1 hw1.size
          clear hw1
          go_wp2
          go_ret
          exact ⟨rfl, hb⟩
        · have YP := Lib.hid (fun u hu => hT.out KP u hu hKP)
          rw [← hyp] at YP
          have fyp : (yp : Int) ≤ 100000 := by omega
          clear hT hyp hKP
          go_enter Tryd.func6, Tryd.ntmps6
          go_wp2_with (go_at_call 8; refine (H1.out _ (by first | exact htb | exact HKd.out _ htb)).mono ?_; rintro e w1 ⟨rfl, hw1⟩; replace c1 := (hw1.cell (p := ⟨w.heap.size, 0, none⟩) hlt1).trans c1; replace c2 := (hw1.cell (p := ⟨w.heap.size, 1, none⟩) hlt1).trans c2; replace hb := hb.trans (hw1.mono hb.size); replace htb := HKeep.out _ _ hw1 htb; replace hlt1 := Nat.lt_of_lt_of_le hlt1 hw1.size; clear hw1)
          have k1 := Kept.cell c1 hlt1
          have k2 := Kept.cell c2 hlt1
          have HKT := Lib.hid (fun kk : Kept _ _ => HKeep.out _ _ kk.below htb)
          refine wp_region_kept (by kernel_rfl) (by kernel_rfl) ?_
          repeat (go_big_quiet_step (first | (go_at_call 22; exact Calls.kept_of (X.out _ (HKT.out _)) (Nat.le_refl _)) | (go_at_call 24; exact Calls.kept_of (Y.out _ (HKT.out _)) (Nat.le_refl _)) | (go_at_call 26; exact Calls.kept_of (Zc.out _ (HKT.out _)) (Nat.le_refl _))))
          refine wpQuiet_nil ?_
          intro _ hw'
          obtain ⟨kk, rfl⟩ := hw'
          have hw1 := kk.below
          replace c1 := (hw1.cell (p := ⟨w.heap.size, 0, none⟩) hlt1).trans c1
          replace c2 := (hw1.cell (p := ⟨w.heap.size, 1, none⟩) hlt1).trans c2
          replace hb := hb.trans (hw1.mono hb.size)
          replace htb := HKeep.out _ _ hw1 htb
          replace hlt1 := Nat.lt_of_lt_of_le hlt1 hw1.size
          clear hw1 k1 k2
          go_wp2_with fail
          refine (XP.out _ (by first | exact htb | exact HKd.out _ htb)).mono ?_
          rintro e w1 ⟨rfl, hw1⟩
          replace c1 := (hw1.cell (p := ⟨w.heap.size, 0, none⟩) hlt1).trans c1
          replace c2 := (hw1.cell (p := ⟨w.heap.size, 1, none⟩) hlt1).trans c2
          replace hb := hb.trans (hw1.mono hb.size)
          replace htb := HKeep.out _ _ hw1 htb
          replace hlt1 := Nat.lt_of_lt_of_le hlt1 hw1.size
          clear hw1
          go_wp2_with fail
          refine (YP.out _ (by first | exact htb | exact HKd.out _ htb)).mono ?_
          rintro e w1 ⟨rfl, hw1⟩
          replace c1 := (hw1.cell (p := ⟨w.heap.size, 0, none⟩) hlt1).trans c1
          replace c2 := (hw1.cell (p := ⟨w.heap.size, 1, none⟩) hlt1).trans c2
          replace hb := hb.trans (hw1.mono hb.size)
          replace htb := HKeep.out _ _ hw1 htb
          replace hlt1 := Nat.lt_of_lt_of_le hlt1 hw1.size
          clear hw1
          go_wp2_with fail
          refine (ZP.out _ (by first | exact htb | exact HKd.out _ htb)).mono ?_
          rintro e w1 ⟨rfl, hw1⟩
          replace c1 := (hw1.cell (p := ⟨w.heap.size, 0, none⟩) hlt1).trans c1
          replace c2 := (hw1.cell (p := ⟨w.heap.size, 1, none⟩) hlt1).trans c2
          replace hb := hb.trans (hw1.mono hb.size)
          replace htb := HKeep.out _ _ hw1 htb
          replace hlt1 := Nat.lt_of_lt_of_le hlt1 hw1.size
          clear hw1
          go_wp2_with fail
          refine (A1.out _ (by first | exact htb | exact HKd.out _ htb)).mono ?_
          rintro e w1 ⟨rfl, hw1⟩
          replace c1 := (hw1.cell (p := ⟨w.heap.size, 0, none⟩) hlt1).trans c1
          replace c2 := (hw1.cell (p := ⟨w.heap.size, 1, none⟩) hlt1).trans c2
          replace hb := hb.trans (hw1.mono hb.size)
          replace htb := HKeep.out _ _ hw1 htb
          replace hlt1 := Nat.lt_of_lt_of_le hlt1 hw1.size
          clear hw1
          go_wp2_with fail
          refine (A2.out _ (by first | exact htb | exact HKd.out _ htb)).mono ?_
          rintro e w1 ⟨rfl, hw1⟩
          replace c1 := (hw1.cell (p := ⟨w.heap.size, 0, none⟩) hlt1).trans c1
          replace c2 := (hw1.cell (p := ⟨w.heap.size, 1, none⟩) hlt1).trans c2
          replace hb := hb.trans (hw1.mono hb.size)
          replace htb := HKeep.out _ _ hw1 htb
          replace hlt1 := Nat.lt_of_lt_of_le hlt1 hw1.size
          clear hw1
          go_wp2_with fail
          refine (A3.out _ (by first | exact htb | exact HKd.out _ htb)).mono ?_
          rintro e w1 ⟨rfl, hw1⟩
          replace c1 := (hw1.cell (p := ⟨w.heap.size, 0, none⟩) hlt1).trans c1
          replace c2 := (hw1.cell (p := ⟨w.heap.size, 1, none⟩) hlt1).trans c2
          replace hb := hb.trans (hw1.mono hb.size)
          replace htb := HKeep.out _ _ hw1 htb
          replace hlt1 := Nat.lt_of_lt_of_le hlt1 hw1.size
          clear hw1
          go_wp2_with fail
          refine (Y0.out _ (by first | exact htb | exact HKd.out _ htb)).mono ?_
          rintro e w1 ⟨rfl, hw1⟩
          replace c1 := (hw1.cell (p := ⟨w.heap.size, 0, none⟩) hlt1).trans c1
          replace c2 := (hw1.cell (p := ⟨w.heap.size, 1, none⟩) hlt1).trans c2
          replace hb := hb.trans (hw1.mono hb.size)
          replace htb := HKeep.out _ _ hw1 htb
          replace hlt1 := Nat.lt_of_lt_of_le hlt1 hw1.size
          clear hw1
          go_wp2_with fail
          refine (H6.out _ (by first | exact htb | exact HKd.out _ htb)).mono ?_
          rintro e w1 ⟨rfl, hw1⟩
          replace c1 := (hw1.cell (p := ⟨w.heap.size, 0, none⟩) hlt1).trans c1
          replace c2 := (hw1.cell (p := ⟨w.heap.size, 1, none⟩) hlt1).trans c2
          replace hb := hb.trans (hw1.mono hb.size)
          replace htb := HKeep.out _ _ hw1 htb
          replace hlt1 := Nat.lt_of_lt_of_le hlt1 hw1.size
          clear hw1
          go_wp2_with fail
          refine (H7.out _ (by first | exact htb | exact HKd.out _ htb)).mono ?_
          rintro e w1 ⟨rfl, hw1⟩
          replace c1 := (hw1.cell (p := ⟨w.heap.size, 0, none⟩) hlt1).trans c1
          replace c2 := (hw1.cell (p := ⟨w.heap.size, 1, none⟩) hlt1).trans c2
          replace hb := hb.trans (hw1.mono hb.size)
          replace htb := HKeep.out _ _ hw1 htb
          replace hlt1 := Nat.lt_of_lt_of_le hlt1 hw1.size
          clear hw1
          go_wp2_with fail
          refine (HL.out _ (by first | exact htb | exact HKd.out _ htb)).mono ?_
          rintro e w1 ⟨rfl, hw1⟩
          replace c1 := (hw1.cell (p := ⟨w.heap.size, 0, none⟩) hlt1).trans c1
          replace c2 := (hw1.cell (p := ⟨w.heap.size, 1, none⟩) hlt1).trans c2
          replace hb := hb.trans (hw1.mono hb.size)
          replace htb := HKeep.out _ _ hw1 htb
          replace hlt1 := Nat.lt_of_lt_of_le hlt1 hw1.size
          clear hw1
          go_wp2
          go_ret
          exact ⟨rfl, hb⟩
    · have hcase : i < 0 ∨ (¬ i < 0 ∧ s ≤ i) ∨ (¬ i < 0 ∧ ¬ s ≤ i ∧ k < 0) ∨ (¬ i < 0 ∧ ¬ s ≤ i ∧ ¬ k < 0 ∧ n ≤ k) := by omega
      clear h hi D s1 s2 n1 n2 i1 i2 k1 k2
      rcases hcase with g1 | ⟨g1, g2⟩ | ⟨g1, g2, g3⟩ | ⟨g1, g2, g3, g4⟩
      all_goals
        go_enter Tryd.func6, Tryd.ntmps6
        go_wp2_with (first | (go_at_call 8; refine (H1.out _ (by first | exact htb | exact HKd.out _ htb)).mono ?_; rintro e w1 ⟨rfl, hw1⟩; replace c1 := (hw1.cell (p := ⟨w.heap.size, 0, none⟩) hlt1).trans c1; replace c2 := (hw1.cell (p := ⟨w.heap.size, 1, none⟩) hlt1).trans c2; replace hb := hb.trans (hw1.mono hb.size); replace htb := HKeep.out _ _ hw1 htb; replace hlt1 := Nat.lt_of_lt_of_le hlt1 hw1.size; clear hw1) | (go_at_call 19; refine (HL.out _ (by first | exact htb | exact HKd.out _ htb)).mono ?_; rintro e w1 ⟨rfl, hw1⟩; replace c1 := (hw1.cell (p := ⟨w.heap.size, 0, none⟩) hlt1).trans c1; replace c2 := (hw1.cell (p := ⟨w.heap.size, 1, none⟩) hlt1).trans c2; replace hb := hb.trans (hw1.mono hb.size); replace htb := HKeep.out _ _ hw1 htb; replace hlt1 := Nat.lt_of_lt_of_le hlt1 hw1.size; clear hw1))
        go_ret
        exact ⟨rfl, hb⟩
  · have h' : rightC s n = false := by simpa using h
    rw [h'] at H1
    clear h h' D s1 s2 n1 n2
    go_enter Tryd.func6, Tryd.ntmps6
    go_wp2_with (first | (go_at_call 8; refine (H1.out _ (by first | exact htb | exact HKd.out _ htb)).mono ?_; rintro e w1 ⟨rfl, hw1⟩; replace c1 := (hw1.cell (p := ⟨w.heap.size, 0, none⟩) hlt1).trans c1; replace c2 := (hw1.cell (p := ⟨w.heap.size, 1, none⟩) hlt1).trans c2; replace hb := hb.trans (hw1.mono hb.size); replace htb := HKeep.out _ _ hw1 htb; replace hlt1 := Nat.lt_of_lt_of_le hlt1 hw1.size; clear hw1) | (go_at_call 19; refine (HL.out _ (by first | exact htb | exact HKd.out _ htb)).mono ?_; rintro e w1 ⟨rfl, hw1⟩; replace c1 := (hw1.cell (p := ⟨w.heap.size, 0, none⟩) hlt1).trans c1; replace c2 := (hw1.cell (p := ⟨w.heap.size, 1, none⟩) hlt1).trans c2; replace hb := hb.trans (hw1.mono hb.size); replace htb := HKeep.out _ _ hw1 htb; replace hlt1 := Nat.lt_of_lt_of_le hlt1 hw1.size; clear hw1))
    go_ret
    exact ⟨rfl, hb⟩
end Go.Proofs.YtemkmkkpamhfoaaDoor.Lay
