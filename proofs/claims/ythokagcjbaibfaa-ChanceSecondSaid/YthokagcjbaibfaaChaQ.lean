/- The statement ChanceSecond. -/
import Derived.Test.YthokagcjbaibfaaChaI
namespace Go.Proofs.Ythokagcjbaibfaa.Cha
open Go.RowKit
set_option linter.unusedVariables false

set_option maxRecDepth 100000 in
set_option maxHeartbeats 1000000 in
theorem chanceSecond_walk (u : Value) (U : List Bool) (x : Int) (w : World) (hu : BRow w u U) :
    Calls Try.prog 7 #[u, .int .i64 x] w fun e w' => e = .returned (.bool true) ∧ Below w.heap.size w w' := by
  by_cases h1 : 300 < U.length
  · obtain ⟨a, c, rfl, -, -, -⟩ := hu
    have k1 : (300 : Int) < (U.length : Int) := by omega
    obtain ⟨n, hN⟩ : ∃ n, n = U.length := ⟨_, rfl⟩
    rw [← hN] at k1 ⊢
    clear hN h1
    go_enter Try.func7, Try.ntmps7
    go_wp2_with (go_at_call 8; refine (goes_any _).mono ?_; rintro e w' ⟨rfl, hb⟩)
    go_ret
    exact ⟨rfl, hb⟩
  have k1 : ¬ (300 : Int) < (U.length : Int) := by omega
  obtain ⟨i1, gi, gz0, gz1, gz2⟩ := info_parts infoBool
  have HU : Hid (∀ W, Below w.heap.size w W → BRow W u U) := fun W b => hu.mono b (Nat.le_refl _)
  have HN : Hid (∀ W g, Below w.heap.size w W → BRow W (.slice (some ⟨g, 0, none⟩) U.length U.length) (List.replicate U.length false) → Calls Try.prog 14 #[u, .slice (some ⟨g, 0, none⟩) U.length U.length, .int .i64 x] W fun e w' => ∃ y, e = .returned (.tuple #[y, .int .i64 (ckU U.length U.length x)]) ∧ Below W.heap.size W w' ∧ Row .i64 w' y (ints (odL U (List.replicate U.length false) x))) := fun W g b hr => by
    have := order_all u _ U (List.replicate U.length false) x W (HU.out W b) hr (by omega)
    rw [List.length_replicate] at this
    exact this
  have HV0 : Hid (BRow (w.alloc (.cells (madeCells (Value.bool false).cells U.length) 4)) (.slice (some ⟨w.heap.size, 0, none⟩) U.length U.length) (List.replicate U.length false)) := brow_of_owns (own_falses w U.length 4 (by omega)) (by simp)
  have HB0 := Lib.hid (below_made w (.cells (madeCells (Value.bool false).cells U.length) 4))
  by_cases hz : ckU U.length U.length x = 0
  · obtain ⟨g1, g2, g3, g4⟩ := ckU_ok hz
    obtain ⟨h, rfl, h5, h6⟩ := as_nat g3 g4
    have e1 : odL U (List.replicate U.length false) (h : Int) = ord U (List.replicate U.length false) h := by rw [odL, List.length_replicate, if_pos hz, h6]
    have HOl := Lib.hid (ord_length U (List.replicate U.length false) h)
    have HOb : Hid (∀ k, k < U.length → (ord U (List.replicate U.length false) h).getD k 0 < U.length) := fun k hk => by
      have hl := ord_length U (List.replicate U.length false) h
      exact ord_lt h5 (show (ord U (List.replicate U.length false) h).getD k 0 ∈ ord U (List.replicate U.length false) h by simp [List.getD, show k < (ord U (List.replicate U.length false) h).length by omega])
    have HOu := Lib.hid (fun k (hk : k < U.length) => ord_used (U := U) (h := h) hk (List.replicate U.length false) (fun i => by simp [List.getD, List.getElem?_replicate]; split <;> rfl))
    obtain ⟨b2, o2, c, rfl, q6, q7, q8, q9⟩ := brow_open hu (by omega)
    have HUc := Lib.hid q9
    have q10 : (U.length : Int) ≤ (c : Int) := by omega
    rw [hz] at HN
    simp only [e1] at HN
    obtain ⟨L, hL⟩ : ∃ L, L = ord U (List.replicate U.length false) h := ⟨_, rfl⟩
    obtain ⟨mm, hmm⟩ : ∃ mm, mm = ((rnd U.length h).filter (fun i => !st U (List.replicate U.length false) i)).length := ⟨_, rfl⟩
    rw [← hL] at HN HOl HOb HOu
    rw [← hmm] at HOu
    obtain ⟨n, hN⟩ : ∃ n, n = U.length := ⟨_, rfl⟩
    rw [← hN] at HN k1 HOl HOb HOu HV0 HB0 g2 h1 HUc q10 ⊢
    clear hL hmm hz hN HU g1 g3 g4 e1 h5 h6 q6 q9 hu
    go_enter Try.func7, Try.ntmps7
    go_wp2_with (refine wpList_make_row rfl (.tmp 16) (.tmp 16) 22 rfl 4 i1 (.bool false) 1 Try.underlying22 gi gz0 gz1 gz2 .i64 .i64 n rfl rfl (by omega) (by omega) ?_)
    refine (HN.out _ _ HB0.out HV0.out).mono ?_
    rintro e w1 ⟨y1, rfl, hb1, hr1⟩
    have B1 := Lib.hid (HB0.out.trans (hb1.mono HB0.out.size))
    obtain ⟨b1, o1, c1, rfl, q1, q2, q3, q4⟩ := nrow_open hr1 (by rw [HOl.out]; omega)
    have Y2 := Lib.hid q4
    rw [HOl.out] at q1 ⊢
    have q5 : (n : Int) ≤ (c1 : Int) := by omega
    clear hb1 hr1 q1 q4 HV0 HB0 HN
    go_wp2
    go_loopw [7, 8] (fun l i wr => ∃ k : Nat, k ≤ n ∧ i = .int .i64 k ∧ l = .bool (decide (mm < k)) ∧ w1 = wr) (fun _ i _ => n - (intOf i).toNat)
    case atStart => exact ⟨0, Nat.zero_le _, rfl, by simp, rfl⟩
    case round =>
      obtain ⟨k, hk, rfl, rfl, rfl⟩ := hrel
      by_cases hlt : k < n
      · have i1 : (k : Int) < (n : Int) := by omega
        have hkl : k < L.length := by rw [HOl.out]; exact hlt
        have d1 := Y2.out k hkl
        have hxb := HOb.out k hlt
        have hus := HOu.out k hlt
        obtain ⟨y, hy⟩ : ∃ y, y = L.getD k 0 := ⟨_, rfl⟩
        rw [← hy] at d1 hxb hus
        have i2 : (y : Int) < (n : Int) := by omega
        have i3 : ¬ (y : Int) < 0 := by omega
        have i5 : (0 : Int) ≤ (y : Int) := by omega
        have d2 := (B1.out.cell (p := ⟨b2, o2 + y, none⟩) q8).trans (HUc.out y hxb)
        rw [hus] at d2
        clear hus hy
        by_cases e1 : mm < k
        · have e2 : decide (mm < k) = true := by simp [e1]
          have e3 : decide (mm ≤ k) = true := by simp; omega
          have e4 : Hid (decide (mm < k + 1) = true) := by unfold Hid; simp; omega
          rw [e2]
          rw [e3] at d2
          clear e1 e2 e3
          go_wp2
          go_roundw
          case rel => exact ⟨k + 1, by omega, by go_num, by rw [e4.out], by first | exact rfl | trivial⟩
          case measure => simp [intOf]; omega
        · have e2 : decide (mm < k) = false := by simp; omega
          have e4 : Hid (decide (mm < k + 1) = decide (mm ≤ k)) := by unfold Hid; rw [decide_eq_decide]; omega
          rw [e2]
          obtain ⟨z, hz⟩ : ∃ z, z = decide (mm ≤ k) := ⟨_, rfl⟩
          rw [← hz] at d2 e4
          clear e1 e2 hz
          cases z with
          | false =>
            go_wp2
            go_roundw
            case rel => exact ⟨k + 1, by omega, by go_num, by rw [e4.out], by first | exact rfl | trivial⟩
            case measure => simp [intOf]; omega
          | true =>
            go_wp2
            go_roundw
            case rel => exact ⟨k + 1, by omega, by go_num, by rw [e4.out], by first | exact rfl | trivial⟩
            case measure => simp [intOf]; omega
      · obtain rfl : k = n := by omega
        go_wp2_with (go_at_call 8; refine (goes_any _).mono ?_; rintro e w' ⟨rfl, hb⟩)
        go_ret
        exact ⟨rfl, B1.out.trans (hb.mono B1.out.size)⟩
  · obtain ⟨a, c, rfl, -, -, -⟩ := hu
    have e1 : odL U (List.replicate U.length false) x = [] := by rw [odL, List.length_replicate, if_neg hz]
    rw [e1] at HN
    obtain ⟨z, hzz⟩ : ∃ z, z = ckU U.length U.length x := ⟨_, rfl⟩
    rw [← hzz] at HN hz
    have hz2 : (z != 0) = true := by simp [hz]
    have hz3 : (z == 0) = false := by simp [hz]
    obtain ⟨n, hN⟩ : ∃ n, n = U.length := ⟨_, rfl⟩
    rw [← hN] at HN k1 HV0 HB0 h1 ⊢
    clear hz hN HU e1 hzz
    go_enter Try.func7, Try.ntmps7
    go_wp2_with (refine wpList_make_row rfl (.tmp 16) (.tmp 16) 22 rfl 4 i1 (.bool false) 1 Try.underlying22 gi gz0 gz1 gz2 .i64 .i64 n rfl rfl (by omega) (by omega) ?_)
    refine (HN.out _ _ HB0.out HV0.out).mono ?_
    rintro e w1 ⟨y1, rfl, hb1, hr1⟩
    have B1 := Lib.hid (HB0.out.trans (hb1.mono HB0.out.size))
    clear hb1 hr1 HN HV0 HB0
    go_wp2_with (go_at_call 8; refine (goes_any _).mono ?_; rintro e w' ⟨rfl, hb⟩)
    go_ret
    exact ⟨rfl, B1.out.trans (hb.mono B1.out.size)⟩
end Go.Proofs.Ythokagcjbaibfaa.Cha
