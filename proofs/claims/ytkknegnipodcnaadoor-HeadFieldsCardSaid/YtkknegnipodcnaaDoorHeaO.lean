/- HeadFields. -/
import Derived.Test.YtkknegnipodcnaaDoorHeaN
namespace Go.Proofs.YtkknegnipodcnaaDoor.Hea
open Go.RowKit Num
set_option linter.unusedVariables false

def vI (L : List Int) : List Value := L.map (Value.int .i64)
/-- One more at each of j places from a on. -/
def incL (L : List Int) (a : Nat) : Nat → List Int
  | 0 => L
  | j + 1 => (incL L a j).set (a + j) ((incL L a j).getD (a + j) 0 + 1)
def seenF (t : Int) : Nat → List Int
  | 0 => List.replicate (szF t).toNat 0
  | k + 1 => incL (seenF t k) (whF t k).1.toNat (whF t k).2.toNat
theorem incL_length (L : List Int) (a j : Nat) : (incL L a j).length = L.length := by
  induction j with
  | zero => rfl
  | succ j ih => rw [incL, List.length_set, ih]
theorem set_getD (L : List Int) (s i : Nat) (v : Int) : (L.set s v).getD i 0 = if s = i ∧ s < L.length then v else L.getD i 0 := by
  unfold List.getD
  rw [List.getElem?_set]
  by_cases h : s = i
  · subst h
    by_cases h2 : s < L.length
    · simp [h2]
    · rw [if_pos rfl, if_neg h2, if_neg (by omega), List.getElem?_eq_none (by omega)]
  · rw [if_neg h, if_neg (by omega)]
theorem incL_bd {L : List Int} {c : Int} (h : ∀ i, 0 ≤ L.getD i 0 ∧ L.getD i 0 ≤ c) (a j : Nat) : ∀ i, 0 ≤ (incL L a j).getD i 0 ∧ (incL L a j).getD i 0 ≤ c + j := by
  induction j with
  | zero => intro i; have := h i; rw [incL]; omega
  | succ j ih =>
    intro i
    rw [incL, set_getD]
    have h1 := ih (a + j)
    have h2 := ih i
    split <;> omega
theorem seenF_bd {t : Int} (ht : 0 ≤ t ∧ t ≤ 2) : ∀ k, k ≤ 12 → ∀ i, 0 ≤ (seenF t k).getD i 0 ∧ (seenF t k).getD i 0 ≤ 8 * (k : Int) := by
  intro k
  induction k with
  | zero =>
    intro _ i
    by_cases hi : i < (szF t).toNat
    · simp [seenF, List.getD, hi]
    · simp [seenF, List.getD, hi]
  | succ k ih =>
    intro hk i
    have h := incL_bd (ih (by omega)) (whF t k).1.toNat (whF t k).2.toNat i
    have h2 := wh_fit ht k (by omega)
    rw [seenF]
    omega
theorem seenF_length (t : Int) : ∀ k, (seenF t k).length = (szF t).toNat := by
  intro k
  induction k with
  | zero => simp [seenF]
  | succ k ih => rw [seenF, incL_length, ih]
theorem rep_getD (n i : Nat) (v : Int) (h : i < n) : (List.replicate n v).getD i 0 = v := by simp [List.getD, h]
theorem seenF_end {t : Int} (ht : 0 ≤ t ∧ t ≤ 2) : ∀ i, i < (szF t).toNat → (seenF t 12).getD i 0 = 1 := by
  have h1 : t = 0 ∨ t = 1 ∨ t = 2 := by omega
  rcases h1 with rfl | rfl | rfl
  · have e : seenF 0 12 = List.replicate 8 1 := by kernel_rfl
    intro i hi
    rw [e]
    exact rep_getD _ _ _ hi
  · have e : seenF 1 12 = List.replicate 32 1 := by kernel_rfl
    intro i hi
    rw [e]
    exact rep_getD _ _ _ hi
  · have e : seenF 2 12 = List.replicate 16 1 := by kernel_rfl
    intro i hi
    rw [e]
    exact rep_getD _ _ _ hi
theorem wh_mod {t : Int} (ht : 0 ≤ t ∧ t ≤ 2) (k : Nat) (hk : k < 12) : (whF t k).2 = 0 ∨ (whF t k).1 % (whF t k).2 = 0 := by
  have h1 : t = 0 ∨ t = 1 ∨ t = 2 := by omega
  have h2 : k = 0 ∨ k = 1 ∨ k = 2 ∨ k = 3 ∨ k = 4 ∨ k = 5 ∨ k = 6 ∨ k = 7 ∨ k = 8 ∨ k = 9 ∨ k = 10 ∨ k = 11 := by omega
  rcases h1 with rfl | rfl | rfl <;> rcases h2 with rfl | rfl | rfl | rfl | rfl | rfl | rfl | rfl | rfl | rfl | rfl | rfl <;> decide
theorem sz_zero {t : Int} : szF t = 0 ↔ t < 0 ∨ 2 < t := by
  unfold szF
  constructor
  · intro h
    split at h
    · cases h
    · split at h
      · cases h
      · split at h
        · cases h
        · omega
  · intro h
    rw [if_neg (by omega), if_neg (by omega), if_neg (by omega)]
theorem infoI : (Tryd.prog.info? 3).map (fun i => (i.zero, i.size, i.bytes)) = some (some (.int .i64 0), 1, 8) := by kernel_rfl
theorem vI_get (L : List Int) (i : Nat) (h : i < L.length) : (vI L)[i]? = some (.int .i64 (L.getD i 0)) := by simp [vI, h, List.getD]
theorem vI_set (L : List Int) (i : Nat) (y : Int) : (vI L).toArray.setIfInBounds i (.int .i64 y) = (vI (L.set i y)).toArray := by simp [vI, List.map_set]
theorem vI_zeros (n : Nat) : madeCells #[Value.int .i64 0] n = (vI (List.replicate n 0)).toArray := by
  rw [madeCells_one]; simp [vI]

set_option maxRecDepth 100000 in
set_option maxHeartbeats 4000000 in
theorem headFields_walk {Tb : World → Prop} (D : Does Tb) (t : Int) (w : World) (ht : Tb w) (t64 : i64 t) : Calls Tryd.prog 6 #[.int .i64 t] w fun e w' => e = .returned (.bool true) ∧ Below w.heap.size w w' := by
  have HW := Lib.hid (fun (k : Nat) (hk : k < 12) u (hu : Tb u) => D.whr t k u hu t64 (by unfold i64; omega))
  have HS := Lib.hid (fun u (hu : Tb u) => D.size t u hu t64)
  have HH := Lib.hid (fun u (hu : Tb u) => heads_any D u hu)
  have HK := Lib.hid D.keep
  by_cases hz : szF t = 0
  · have h02 := sz_zero.1 hz
    rw [hz] at HS
    clear hz t64 D
    rcases (show t < 0 ∨ (0 ≤ t ∧ 2 < t) by omega) with h1 | ⟨h1, h2⟩
    all_goals
      clear h02
      go_enter Tryd.func6, Tryd.ntmps6
      go_wp2_with fail
      refine (HS.out _ ht).mono ?_
      rintro e w1 ⟨rfl, hb1⟩
      have ht1 := HK.out _ _ hb1 ht
      have HB1 := Lib.hid hb1
      clear hb1
      go_wp2_with fail
      refine (HH.out _ ht1).mono ?_
      rintro e w2 ⟨rfl, hb2⟩
      have HE := Lib.hid (HB1.out.trans (hb2.mono HB1.out.size))
      clear hb2
      go_wp2
      go_ret
      exact ⟨rfl, HE.out⟩
  · have ht3 : 0 ≤ t ∧ t ≤ 2 := by
      have := mt sz_zero.2 hz
      omega
    have hsz := sz_bd ht3
    have HFit := Lib.hid (wh_fit ht3)
    have HMod := Lib.hid (wh_mod ht3)
    have HBd := Lib.hid (seenF_bd ht3)
    have HLen := Lib.hid (seenF_length t)
    have HEnd := Lib.hid (seenF_end ht3)
    have HStep : Hid (∀ k, seenF t (k + 1) = incL (seenF t k) (whF t k).1.toNat (whF t k).2.toNat) := fun k => rfl
    have HZ : Hid (seenF t 0 = List.replicate (szF t).toNat 0) := rfl
    obtain ⟨SE, hSE⟩ : ∃ SE : Nat → List Int, SE = seenF t := ⟨_, rfl⟩
    rw [← hSE] at HBd HLen HEnd HStep HZ
    obtain ⟨z, hzz⟩ : ∃ z : Nat, szF t = z := ⟨(szF t).toNat, by omega⟩
    rw [hzz] at HS HFit HLen HEnd HZ hsz
    rw [Int.toNat_natCast] at HLen HEnd HZ
    obtain ⟨i0, hi, hz0, hz1, hz2⟩ := info_parts infoI
    have hzn : ((z : Int) == 0) = false := by rw [beq_eq_false_iff_ne]; omega
    clear hSE hzz hz D t64
    go_enter Tryd.func6, Tryd.ntmps6
    go_wp2_with fail
    refine (HS.out _ ht).mono ?_
    rintro e w1 ⟨rfl, hb1⟩
    have HT := Lib.hid (fun W (hb : Below w.heap.size w W) => HK.out _ _ hb ht)
    have HB1 := Lib.hid hb1
    clear hb1 ht
    go_wp2_with (refine wpList_make_row rfl (.tmp 25) (.tmp 25) 44 rfl 3 i0 (.int .i64 0) 8 Tryd.underlying44 hi hz0 hz1 hz2 .i64 .i64 z rfl rfl (by omega) (by omega) ?_)
    have hblk := heap_alloc_new w1 (.cells (madeCells #[.int .i64 0] z) 3)
    have hbm := below_made w1 (.cells (madeCells #[.int .i64 0] z) 3)
    obtain ⟨g, hg⟩ : ∃ g, g = w1.heap.size := ⟨_, rfl⟩
    rw [← hg] at hblk ⊢
    have HGl : Hid (w.heap.size ≤ g) := by unfold Hid; rw [hg]; exact HB1.out.size
    have HI0 : Hid (Below w.heap.size w (w1.alloc (.cells (madeCells #[.int .i64 0] z) 3)) ∧ (w1.alloc (.cells (madeCells #[.int .i64 0] z) 3)).heap[g]? = some (.cells (vI (SE 0)).toArray 3 (0, 0))) := ⟨HB1.out.trans (hbm.mono HB1.out.size), by rw [HZ.out]; rw [vI_zeros] at hblk ⊢; exact hblk⟩
    clear hblk hbm hg
    generalize w1.alloc (.cells (madeCells #[.int .i64 0] z) 3) = w3 at HI0 ⊢
    go_loopw [5] (fun i wr => ∃ k : Nat, k ≤ 12 ∧ i = .int .i64 k ∧ Hid (Below w.heap.size w wr ∧ wr.heap[g]? = some (.cells (vI (SE k)).toArray 3 (0, 0)))) (fun i _ => 12 - (intOf i).toNat)
    case atStart => exact ⟨0, Nat.zero_le _, rfl, HI0.out⟩
    case round =>
      obtain ⟨k, hk, rfl, HV⟩ := hrel
      by_cases hlt : k < 12
      · have hlt1 : (k : Int) < 12 := by omega
        have hfit := HFit.out k hlt
        have hmod := HMod.out k hlt
        have hlen := HLen.out k
        have hbd := HBd.out k hk
        have hstep := HStep.out k
        have HWk := Lib.hid (HW.out k hlt wr (HT.out _ HV.out.1))
        obtain ⟨a, ha⟩ : ∃ a : Nat, (whF t k).1 = a := ⟨(whF t k).1.toNat, by omega⟩
        obtain ⟨n, hn⟩ : ∃ n : Nat, (whF t k).2 = n := ⟨(whF t k).2.toNat, by omega⟩
        rw [ha, hn] at HWk hfit hstep hmod
        rw [Int.toNat_natCast, Int.toNat_natCast] at hstep
        obtain ⟨L, hL⟩ : ∃ L, L = SE k := ⟨_, rfl⟩
        rw [← hL] at hlen hbd hstep HV
        have HSt := Lib.hid hstep
        have HBL := Lib.hid hbd
        clear ha hn hL hstep hbd
        by_cases hn0 : n = 0
        · subst hn0
          have HN : Hid (∀ W, Below wr.heap.size wr W → Below w.heap.size w W ∧ W.heap[g]? = some (.cells (vI (SE (k + 1))).toArray 3 (0, 0))) := fun W hb => ⟨HV.out.1.trans (hb.mono HV.out.1.size), by rw [HSt.out]; exact (hb.block _ (lt_block HV.out.2)).trans HV.out.2⟩
          clear hmod HV
          go_wp2_with fail
          refine HWk.out.mono ?_
          rintro e w4 ⟨rfl, hb4⟩
          have HN4 := Lib.hid (HN.out w4 hb4)
          clear hb4 HN
          go_wp2
          go_roundw
          case rel => exact ⟨k + 1, by omega, by go_num, HN4.out⟩
          case measure => simp [intOf]; omega
        · have hnz : ((n : Int) == 0) = false := by rw [beq_eq_false_iff_ne]; omega
          have hnz2 : ¬ (n : Int) = 0 := by omega
          have m0 : Int.tmod (a : Int) (n : Int) = 0 := by
            rw [← Int.dvd_iff_tmod_eq_zero, Int.dvd_iff_emod_eq_zero]
            omega
          have g0 : ¬ (a : Int) < 0 := by omega
          have g1 : decide ((n : Int) < 1) = false := by rw [decide_eq_false_iff_not]; omega
          have g2 : decide ((z : Int) < (a : Int)) = false := by rw [decide_eq_false_iff_not]; omega
          have g2' : decide (z < a) = false := by rw [decide_eq_false_iff_not]; omega
          obtain ⟨d, hd⟩ : ∃ d : Nat, d = z - a := ⟨_, rfl⟩
          have w1' : IntKind.i64.wrap ((z : Int) - (a : Int)) = (d : Int) := (wrap_id (by omega) (by omega)).trans (by omega)
          have g3 : decide ((d : Int) < (n : Int)) = false := by rw [decide_eq_false_iff_not]; omega
          have g3' : decide (d < n) = false := by rw [decide_eq_false_iff_not]; omega
          have hfit2 : a + n ≤ z := by omega
          have hn8 : n ≤ 8 := by omega
          clear hmod hd hfit
          go_wp2_with fail
          refine HWk.out.mono ?_
          rintro e w4 ⟨rfl, hb4⟩
          have HV4 : Hid (Below w.heap.size w w4 ∧ w4.heap[g]? = some (.cells (vI (incL L a 0)).toArray 3 (0, 0))) := ⟨HV.out.1.trans (hb4.mono HV.out.1.size), (hb4.block _ (lt_block HV.out.2)).trans HV.out.2⟩
          clear hb4 HV
          go_wp2
          go_loopw [8] (fun i wi => ∃ j : Nat, j ≤ n ∧ i = .int .i64 j ∧ Hid (Below w.heap.size w wi ∧ wi.heap[g]? = some (.cells (vI (incL L a j)).toArray 3 (0, 0)))) (fun i _ => n - (intOf i).toNat)
          case atStart => exact ⟨0, Nat.zero_le _, rfl, HV4.out⟩
          case round =>
            obtain ⟨j, hj, rfl, HI⟩ := hrel
            by_cases hjn : j < n
            · have hjn1 : (j : Int) < (n : Int) := by omega
              obtain ⟨s, hs⟩ : ∃ s : Nat, s = a + j := ⟨_, rfl⟩
              have hst : incL L a (j + 1) = (incL L a j).set s ((incL L a j).getD s 0 + 1) := by rw [hs]; rfl
              have hll := incL_length L a j
              have hib := incL_bd HBL.out a j s
              have q0 : wr.cell? ⟨g, s, none⟩ = some (.int .i64 ((incL L a j).getD s 0)) := by
                rw [cell_block HI.out.2, List.getElem?_toArray, vI_get _ _ (by omega)]
              obtain ⟨y, hy⟩ : ∃ y, y = (incL L a j).getD s 0 := ⟨_, rfl⟩
              rw [← hy] at q0 hst hib
              obtain ⟨y1, hy1⟩ : ∃ y1, y1 = y + 1 := ⟨_, rfl⟩
              rw [← hy1] at hst
              have q1 := frozen_block HI.out.2 s
              have HNx : Hid (Below w.heap.size w (wr.setCell ⟨g, s, none⟩ (.int .i64 y1)) ∧ (wr.setCell ⟨g, s, none⟩ (.int .i64 y1)).heap[g]? = some (.cells (vI (incL L a (j + 1))).toArray 3 (0, 0))) := by
                refine ⟨HI.out.1.setCell (p := ⟨g, s, none⟩) HGl.out _, ?_⟩
                have h1 := heap_setCell_own (o := s) HI.out.2 (.int .i64 y1)
                rw [vI_set, ← hst] at h1
                exact h1
              have hs1 : (s : Int) < (z : Int) := by omega
              have hs0 : (0 : Int) ≤ (s : Int) := by omega
              have hsz2 : s < z := by omega
              obtain ⟨hw1, hw2, hw3, hw4⟩ : IntKind.i64.wrap ((a : Int) + (j : Int)) = (s : Int) ∧ wrap64 ((a : Int) + (j : Int)) = (s : Int) ∧ IntKind.i64.wrap (y + 1) = y1 ∧ wrap64 (y + 1) = y1 := ⟨(wrap_id (by omega) (by omega)).trans (by omega), (IntWalk.wrap64_in _ (by omega)).trans (by omega), (wrap_id (by omega) (by omega)).trans (by omega), (IntWalk.wrap64_in _ (by omega)).trans (by omega)⟩
              clear hs hst hll hib hy hy1 HI
              go_wp2
              go_roundw
              case rel => exact ⟨j + 1, by omega, by go_num, HNx.out⟩
              case measure => simp [intOf]; omega
            · obtain rfl : j = n := by omega
              have HNx : Hid (Below w.heap.size w wr ∧ wr.heap[g]? = some (.cells (vI (SE (k + 1))).toArray 3 (0, 0))) := by
                refine ⟨HI.out.1, ?_⟩
                rw [HSt.out]
                exact HI.out.2
              clear HI
              go_wp2
              go_roundw
              case rel => exact ⟨k + 1, by omega, by go_num, HNx.out⟩
              case measure => simp [intOf]; omega
      · obtain rfl : k = 12 := by omega
        have hl12 := HLen.out 12
        clear hlt hk
        go_wp2
        go_loopw [9] (fun i wi => ∃ j : Nat, j ≤ z ∧ i = .int .i64 j ∧ wi = wr) (fun i _ => z - (intOf i).toNat)
        case atStart => exact ⟨0, Nat.zero_le _, rfl, rfl⟩
        case round =>
          obtain ⟨j, hj, rfl, rfl⟩ := hrel
          by_cases hjz : j < z
          · have hjz1 : (j : Int) < (z : Int) := by omega
            have q0 : wr.cell? ⟨g, j, none⟩ = some (.int .i64 1) := by
              rw [cell_block HV.out.2, List.getElem?_toArray, vI_get _ _ (by omega), HEnd.out j hjz]
            go_wp2
            go_roundw
            case rel => exact ⟨j + 1, by omega, by go_num, trivial⟩
            case measure => simp [intOf]; omega
          · obtain rfl : j = z := by omega
            have HTr := Lib.hid (HT.out _ HV.out.1)
            go_wp2_with fail
            refine (HH.out _ HTr.out).mono ?_
            rintro e w5 ⟨rfl, hb5⟩
            have HE := Lib.hid (HV.out.1.trans (hb5.mono HV.out.1.size))
            clear hb5
            go_wp2
            go_ret
            exact ⟨rfl, HE.out⟩
end Go.Proofs.YtkknegnipodcnaaDoor.Hea
