/- The walk of LayoutTiles. -/
import Derived.Test.YtemkmkkpamhfoaaDoorLayP
namespace Go.Proofs.YtemkmkkpamhfoaaDoor.Lay
open Go.RowKit
set_option linter.unusedVariables false

/-- How far the first k runs reach. -/
def offR (P : List (Nat × Nat × Nat)) (k : Nat) : Nat := ((P.take k).map fun r => r.2.1).sum
theorem offR_succ (P : List (Nat × Nat × Nat)) (k : Nat) (h : k < P.length) : offR P (k + 1) = offR P k + (P.getD k (0, 0, 0)).2.1 := by
  have e : P.getD k (0, 0, 0) = P[k] := by simp [List.getD, h]
  unfold offR
  rw [e, List.take_succ_eq_append_getElem h, List.map_append, List.sum_append]
  simp
theorem offR_le (P : List (Nat × Nat × Nat)) (k : Nat) : offR P k ≤ offR P P.length := by
  have h : (P.map fun r => r.2.1).sum = ((P.take k).map fun r => r.2.1).sum + ((P.drop k).map fun r => r.2.1).sum := by rw [← List.sum_append, ← List.map_append, List.take_append_drop]
  unfold offR
  rw [List.take_length]
  omega
/-- The runs lie one behind the other, none is empty, no two of a kind beside each other. -/
theorem runs_tile {S N : Nat} (hS : 7 ≤ S) (hN : 224 ≤ N) : (∀ k, k < (runsT S N).length → ((runsT S N).getD k (0, 0, 0)).1 = offR (runsT S N) k ∧ 1 ≤ ((runsT S N).getD k (0, 0, 0)).2.1 ∧ (0 < k → ((runsT S N).getD k (0, 0, 0)).2.2 ≠ ((runsT S N).getD (k - 1) (0, 0, 0)).2.2)) ∧ offR (runsT S N) (runsT S N).length = sizeT S N ∧ (runsT S N).length ≤ 6 := by
  have hz : sizeT S N = baseT S N + 1024 * S := rfl
  have hb : baseT S N = endT S N + padT S N := rfl
  have he : endT S N = slT S + 4 * N := rfl
  have hs : slT S = 128 + 16 * S := rfl
  have hp : padT S N = 0 ∨ padT S N = 8 := by unfold padT; split <;> simp
  rcases hp with hp | hp
  · have hr : runsT S N = [(0, 8, 1), (8, 120, 2), (128, 16 * S, 3), (slT S, 4 * N, 4), (baseT S N, 1024 * S, 7)] := by unfold runsT; rw [if_pos hp]; rfl
    rw [hr]
    refine ⟨fun k hk => ?_, by simp [offR]; omega, by simp⟩
    simp at hk
    rcases k with _ | _ | _ | _ | _ | k
    · simp [offR, List.getD]
    · simp [offR, List.getD]
    · simp [offR, List.getD]; omega
    · simp [offR, List.getD]; omega
    · simp [offR, List.getD]; omega
    · omega
  · have hr : runsT S N = [(0, 8, 1), (8, 120, 2), (128, 16 * S, 3), (slT S, 4 * N, 4), (endT S N, 8, 8), (baseT S N, 1024 * S, 7)] := by unfold runsT; rw [if_neg (by omega)]; rfl
    rw [hr]
    refine ⟨fun k hk => ?_, by simp [offR]; omega, by simp⟩
    simp at hk
    rcases k with _ | _ | _ | _ | _ | _ | k
    · simp [offR, List.getD]
    · simp [offR, List.getD]
    · simp [offR, List.getD]; omega
    · simp [offR, List.getD]; omega
    · simp [offR, List.getD]; omega
    · simp [offR, List.getD]; omega
    · omega

set_option maxRecDepth 100000 in
set_option maxHeartbeats 2000000 in
theorem layoutTiles_walk {Tb : World → Prop} (D : Does Tb) (s n : Int) (w : World) (ht : Tb w) (s1 : -9223372036854775808 ≤ s) (s2 : s ≤ 9223372036854775807) (n1 : -9223372036854775808 ≤ n) (n2 : n ≤ 9223372036854775807) :
    Calls Tryd.prog 5 #[.agg #[.int .i64 s, .int .i64 n]] w fun e w' => e = .returned (.bool true) ∧ Below w.heap.size w w' := by
  have HL := Lib.hid (fun u (hu : Tb u) => lies_any D u hu)
  have H1 := Lib.hid (fun u (hu : Tb u) => D.right s n u hu s1 s2 n1 n2)
  have H2 := Lib.hid (fun u (hu : Tb u) => D.size s n u hu s1 s2 n1 n2)
  have H5 := Lib.hid (fun u (hu : Tb u) => D.runs s n u hu s1 s2 n1 n2)
  unfold RGot at H5
  obtain ⟨c1, c2, hlt1, hb⟩ := one_box (Below.refl (W1 w s n).heap.size (W1 w s n))
  unfold W1 at c1 c2 hlt1 hb
  have HKeep := Lib.hid D.keep
  have HKd := Lib.hid (fun u (hu : Tb u) => D.keep u u.drew (Below.refl _ u).drew hu)
  have htb := D.keep _ _ (below_made w (.cells #[.int .i64 s, .int .i64 n] 23)) ht
  by_cases h : rightC s n = true
  · rw [h] at H1
    rw [show runsC s n = runsT s.toNat n.toNat by rw [runsC, if_pos h]] at H5
    rw [show sizeC s n = sizeT s.toNat n.toNat by rw [sizeC, if_pos h]] at H2
    obtain ⟨S, N, rfl, rfl, b1, b2, b3, b4, b5⟩ := right_nat h
    simp only [Int.toNat_natCast] at H5 H2
    obtain ⟨t1, t2, t3⟩ := runs_tile (S := S) (N := N) b1 (by omega)
    have hb16 := base_sixteen (s := S) b3
    have hz : sizeT S N = baseT S N + 1024 * S := rfl
    have hend : endT S N ≤ 34000 := by unfold endT; omega
    have z1 : sizeT S N % 16 = 0 := by omega
    have z2 : sizeT S N ≤ 1048576 := by omega
    generalize runsT S N = P at H5 t1 t2 t3
    generalize sizeT S N = Z at H2 t2 z1 z2
    have HT1 := Lib.hid t1
    have HT2 := Lib.hid t2
    have t3' : (P.length : Int) ≤ 6 := by omega
    have z1' : (Z : Int) % 16 = 0 := by omega
    have z2' : (Z : Int) ≤ 1048576 := by omega
    clear h t1 t2 hz hb16 hend b1 b2 b3 b4 b5 D s1 s2 n1 n2
    go_enter Tryd.func5, Tryd.ntmps5
    go_wp2_with fail
    refine (H5.out _ (by first | exact htb | exact HKd.out _ htb)).mono ?_
    rintro e w1 ⟨u1, rfl, hw1, hA⟩
    replace c1 := (hw1.cell (p := ⟨w.heap.size, 0, none⟩) hlt1).trans c1
    replace c2 := (hw1.cell (p := ⟨w.heap.size, 1, none⟩) hlt1).trans c2
    replace hb := hb.trans (hw1.mono hb.size)
    replace htb := HKeep.out _ _ hw1 htb
    replace hlt1 := Nat.lt_of_lt_of_le hlt1 hw1.size
    clear hw1
    go_wp2_with fail
    refine (H1.out _ (by first | exact htb | exact HKd.out _ htb)).mono ?_
    rintro e w2 ⟨rfl, hw1⟩
    replace c1 := (hw1.cell (p := ⟨w.heap.size, 0, none⟩) hlt1).trans c1
    replace c2 := (hw1.cell (p := ⟨w.heap.size, 1, none⟩) hlt1).trans c2
    replace hb := hb.trans (hw1.mono hb.size)
    replace htb := HKeep.out _ _ hw1 htb
    replace hlt1 := Nat.lt_of_lt_of_le hlt1 hw1.size
    replace hA := hA.mono hw1 (Nat.le_refl _)
    clear hw1
    obtain ⟨a1, k1, rfl, -, -, g1⟩ := hA
    have G1 := Lib.hid g1
    clear g1
    go_wp2
    go_loopw [4, 5] (fun y i wr => ∃ k m : Nat, k ≤ P.length ∧ i = .int .i64 k ∧ y = .int .i64 m ∧ Hid (m = offR P k) ∧ Hid (∃ q, wr = w2.drewN q)) (fun _ i _ => P.length - (intOf i).toNat)
    case atStart => exact ⟨0, 0, Nat.zero_le _, rfl, rfl, rfl, 0, rfl⟩
    case round =>
      obtain ⟨k, m, hk, rfl, rfl, HM, HW⟩ := hrel
      have hM := HM.out
      have hT2 := HT2.out
      have hle := offR_le P k
      have hm6 : (m : Int) ≤ 1048576 := by omega
      by_cases hlt : k < P.length
      · have hlt1 : (k : Int) < (P.length : Int) := by omega
        have hlt0 : (0 : Int) ≤ (k : Int) := by omega
        obtain ⟨p1, p2, p3⟩ := HT1.out k hlt
        have hsu := offR_succ P k hlt
        have hle2 := offR_le P (k + 1)
        have hbel := drawn_below HW.out
        obtain ⟨b1, o1, rfl, hb1, hc1⟩ := G1.out (by rintro rfl; simp at hlt)
        have d1 : wr.cell? ⟨b1, o1 + k * 3, none⟩ = _ := (hbel.cell (p := ⟨b1, o1 + k * 3, none⟩) hb1).trans (hc1 k hlt 0 _ rfl)
        have d2 := (hbel.cell (p := ⟨b1, o1 + k * 3 + 1, none⟩) hb1).trans (hc1 k hlt 1 _ rfl)
        have d3 := (hbel.cell (p := ⟨b1, o1 + k * 3 + 2, none⟩) hb1).trans (hc1 k hlt 2 _ rfl)
        have hprev := fun (kp : Nat) (h : kp < P.length) => (hbel.cell (p := ⟨b1, o1 + kp * 3 + 2, none⟩) hb1).trans (hc1 kp h 2 _ rfl)
        obtain ⟨x, hx⟩ : ∃ x, x = P.getD k (0, 0, 0) := ⟨_, rfl⟩
        rw [← hx] at d1 d2 d3 p1 p2 p3 hsu
        obtain ⟨x1, x2, x3⟩ := x
        simp only [] at d1 d2 d3 p1 p2 p3 hsu
        obtain rfl : x1 = m := by omega
        have HM2 : Hid (x1 + x2 = offR P (k + 1)) := by unfold Hid; omega
        have hx2 : ¬ (x2 : Int) < 1 := by omega
        have hxz : (x1 : Int) + x2 ≤ 1048576 := by omega
        have hmm : ((x1 : Int) != (x1 : Int)) = false := by simp
        by_cases hk0 : k = 0
        · have e1 : decide ((0 : Int) < (k : Int)) = false := by simp; omega
          have e2 : decide (0 < k) = false := by simp; omega
          have e3 : decide (x2 = 0) = false := by simp; omega
          have e4 : decide ((x2 : Int) < 1) = false := by simp; omega
          clear hM hT2 hle p1 p2 p3 hsu hle2 hx hk0 hc1 hprev G1 hbel
          go_wp2_with fail
          go_quiet (fail)
          go_wp2_with fail
          go_quiet (fail)
          go_wp2
          go_roundw
          case rel => exact ⟨k + 1, x1 + x2, by omega, by go_num, by go_num, HM2, drewN_more HW.out _⟩
          case measure => simp [intOf]; omega
        · have e1 : decide ((0 : Int) < (k : Int)) = true := by simp; omega
          have e2 : decide (0 < k) = true := by simp; omega
          have e3 : decide (x2 = 0) = false := by simp; omega
          have e4 : decide ((x2 : Int) < 1) = false := by simp; omega
          obtain ⟨kp, hkp⟩ : ∃ kp, kp = k - 1 := ⟨_, rfl⟩
          have hw2 : IntKind.i64.wrap ((k : Int) - 1) = (kp : Int) := (wrap_id (by omega) (by omega)).trans (by omega)
          have r1 : (0 : Int) ≤ (kp : Int) := by omega
          have r2 : (kp : Int) < (P.length : Int) := by omega
          have d4 := hprev kp (by omega)
          have p3' := p3 (by omega)
          rw [← hkp] at p3'
          obtain ⟨y3, hy3⟩ : ∃ y3, y3 = (P.getD kp (0, 0, 0)).2.2 := ⟨_, rfl⟩
          rw [← hy3] at d4 p3'
          have e5 : ((x3 : Int) == (y3 : Int)) = false := by rw [beq_eq_false_iff_ne]; omega
          clear hM hT2 hle p1 p2 p3 p3' hsu hle2 hx hk0 hc1 hprev G1 hbel hkp hy3
          go_wp2_with fail
          go_quiet (fail)
          go_wp2_with fail
          go_quiet (fail)
          go_wp2
          go_roundw
          case rel => exact ⟨k + 1, x1 + x2, by omega, by go_num, by go_num, HM2, drewN_more HW.out _⟩
          case measure => simp [intOf]; omega
      · obtain rfl : k = P.length := by omega
        have hw1 := drawn_below HW.out
        replace c1 := (hw1.cell (p := ⟨w.heap.size, 0, none⟩) hlt1).trans c1
        replace c2 := (hw1.cell (p := ⟨w.heap.size, 1, none⟩) hlt1).trans c2
        replace hb := hb.trans (hw1.mono hb.size)
        replace htb := HKeep.out _ _ hw1 htb
        replace hlt1 := Nat.lt_of_lt_of_le hlt1 hw1.size
        obtain rfl : m = Z := by omega
        have hZ : ((m : Int) == (m : Int)) = true := by simp
        have z3 : m % 16 = 0 := by omega
        clear hw1 hM hT2 hle HM HW HT2
        go_wp2_with (first | (go_at_call 10; refine (H2.out _ (by first | exact htb | exact HKd.out _ htb)).mono ?_; rintro e w1 ⟨rfl, hw1⟩; replace c1 := (hw1.cell (p := ⟨w.heap.size, 0, none⟩) hlt1).trans c1; replace c2 := (hw1.cell (p := ⟨w.heap.size, 1, none⟩) hlt1).trans c2; replace hb := hb.trans (hw1.mono hb.size); replace htb := HKeep.out _ _ hw1 htb; replace hlt1 := Nat.lt_of_lt_of_le hlt1 hw1.size; clear hw1) | (go_at_call 19; refine (HL.out _ (by first | exact htb | exact HKd.out _ htb)).mono ?_; rintro e w1 ⟨rfl, hw1⟩; replace c1 := (hw1.cell (p := ⟨w.heap.size, 0, none⟩) hlt1).trans c1; replace c2 := (hw1.cell (p := ⟨w.heap.size, 1, none⟩) hlt1).trans c2; replace hb := hb.trans (hw1.mono hb.size); replace htb := HKeep.out _ _ hw1 htb; replace hlt1 := Nat.lt_of_lt_of_le hlt1 hw1.size; clear hw1))
        go_ret
        exact ⟨rfl, hb⟩
  · have h' : rightC s n = false := by simpa using h
    rw [h'] at H1
    rw [show runsC s n = [] by rw [runsC, if_neg h]] at H5
    rw [show sizeC s n = 0 by rw [sizeC, if_neg h]] at H2
    clear h h' D s1 s2 n1 n2
    go_enter Tryd.func5, Tryd.ntmps5
    go_wp2_with fail
    refine (H5.out _ (by first | exact htb | exact HKd.out _ htb)).mono ?_
    rintro e w1 ⟨u1, rfl, hw1, hA⟩
    obtain ⟨a1, k1, rfl, -, -, -⟩ := hA
    replace c1 := (hw1.cell (p := ⟨w.heap.size, 0, none⟩) hlt1).trans c1
    replace c2 := (hw1.cell (p := ⟨w.heap.size, 1, none⟩) hlt1).trans c2
    replace hb := hb.trans (hw1.mono hb.size)
    replace htb := HKeep.out _ _ hw1 htb
    replace hlt1 := Nat.lt_of_lt_of_le hlt1 hw1.size
    clear hw1
    go_wp2_with (first | (go_at_call 8; refine (H1.out _ (by first | exact htb | exact HKd.out _ htb)).mono ?_; rintro e w1 ⟨rfl, hw1⟩; replace c1 := (hw1.cell (p := ⟨w.heap.size, 0, none⟩) hlt1).trans c1; replace c2 := (hw1.cell (p := ⟨w.heap.size, 1, none⟩) hlt1).trans c2; replace hb := hb.trans (hw1.mono hb.size); replace htb := HKeep.out _ _ hw1 htb; replace hlt1 := Nat.lt_of_lt_of_le hlt1 hw1.size; clear hw1) | (go_at_call 10; refine (H2.out _ (by first | exact htb | exact HKd.out _ htb)).mono ?_; rintro e w1 ⟨rfl, hw1⟩; replace c1 := (hw1.cell (p := ⟨w.heap.size, 0, none⟩) hlt1).trans c1; replace c2 := (hw1.cell (p := ⟨w.heap.size, 1, none⟩) hlt1).trans c2; replace hb := hb.trans (hw1.mono hb.size); replace htb := HKeep.out _ _ hw1 htb; replace hlt1 := Nat.lt_of_lt_of_le hlt1 hw1.size; clear hw1) | (go_at_call 19; refine (HL.out _ (by first | exact htb | exact HKd.out _ htb)).mono ?_; rintro e w1 ⟨rfl, hw1⟩; replace c1 := (hw1.cell (p := ⟨w.heap.size, 0, none⟩) hlt1).trans c1; replace c2 := (hw1.cell (p := ⟨w.heap.size, 1, none⟩) hlt1).trans c2; replace hb := hb.trans (hw1.mono hb.size); replace htb := HKeep.out _ _ hw1 htb; replace hlt1 := Nat.lt_of_lt_of_le hlt1 hw1.size; clear hw1))
    go_ret
    exact ⟨rfl, hb⟩
end Go.Proofs.YtemkmkkpamhfoaaDoor.Lay
