/- The statement ChanceAll. -/
import Derived.Test.YthokagcjbaibfaaChaI
namespace Go.Proofs.Ythokagcjbaibfaa.Cha
open Go.RowKit
set_option linter.unusedVariables false

set_option maxRecDepth 100000 in
set_option maxHeartbeats 1000000 in
theorem chanceAll_walk (u v : Value) (U V : List Bool) (x : Int) (w : World) (hu : BRow w u U) (hv : BRow w v V) :
    Calls Try.prog 6 #[u, v, .int .i64 x] w fun e w' => e = .returned (.bool true) ∧ Below w.heap.size w w' := by
  by_cases h1 : 300 < U.length
  · obtain ⟨a, c, rfl, -, -, -⟩ := hu
    obtain ⟨a2, c2, rfl, -, -, -⟩ := hv
    have k1 : (300 : Int) < (U.length : Int) := by omega
    obtain ⟨n, hN⟩ : ∃ n, n = U.length := ⟨_, rfl⟩
    obtain ⟨m, hM⟩ : ∃ m, m = V.length := ⟨_, rfl⟩
    rw [← hN] at k1 ⊢
    rw [← hM]
    clear hN hM h1
    go_enter Try.func6, Try.ntmps6
    go_wp2_with (go_at_call 8; refine (goes_any _).mono ?_; rintro e w' ⟨rfl, hb⟩)
    go_ret
    exact ⟨rfl, hb⟩
  by_cases h2 : 300 < V.length
  · obtain ⟨a, c, rfl, -, -, -⟩ := hu
    obtain ⟨a2, c2, rfl, -, -, -⟩ := hv
    have k1 : ¬ (300 : Int) < (U.length : Int) := by omega
    have k2 : (300 : Int) < (V.length : Int) := by omega
    obtain ⟨n, hN⟩ : ∃ n, n = U.length := ⟨_, rfl⟩
    obtain ⟨m, hM⟩ : ∃ m, m = V.length := ⟨_, rfl⟩
    rw [← hN] at k1 ⊢
    rw [← hM] at k2 ⊢
    clear hN hM h1 h2
    go_enter Try.func6, Try.ntmps6
    go_wp2_with (go_at_call 8; refine (goes_any _).mono ?_; rintro e w' ⟨rfl, hb⟩)
    go_ret
    exact ⟨rfl, hb⟩
  have HU : Hid (∀ W, Below w.heap.size w W → BRow W u U) := fun W b => hu.mono b (Nat.le_refl _)
  have HV : Hid (∀ W, Below w.heap.size w W → BRow W v V) := fun W b => hv.mono b (Nat.le_refl _)
  obtain ⟨a, c, rfl, -, -, -⟩ := hu
  obtain ⟨a2, c2, rfl, -, -, -⟩ := hv
  have k1 : ¬ (300 : Int) < (U.length : Int) := by omega
  have k2 : ¬ (300 : Int) < (V.length : Int) := by omega
  have HN := Lib.hid (fun W b => order_all _ _ U V x W (HU.out W b) (HV.out W b) (by omega))
  have HR := Lib.hid (fun W b => next_all _ _ U V x W (HU.out W b) (HV.out W b) (by omega))
  by_cases hz : ckU U.length V.length x = 0
  · obtain ⟨g1, g2, g3, g4⟩ := ckU_ok hz
    obtain ⟨h, rfl, h5, h6⟩ := as_nat g3 g4
    have e1 : odL U V (h : Int) = ord U V h := by rw [odL, if_pos hz, h6]
    have e2 : nxI U V (h : Int) = (el U.length h (trn U V h) : Int) := by rw [nxI, if_pos hz, h6]
    have HOl := Lib.hid (ord_length U V h)
    have HOb : Hid (∀ k, k < U.length → (ord U V h).getD k 0 < U.length) := fun k hk => by
      have hl := ord_length U V h
      exact ord_lt h5 (show (ord U V h).getD k 0 ∈ ord U V h by simp [List.getD, show k < (ord U V h).length by omega])
    have HOf : Hid ((ord U V h).getD 0 0 = el U.length h (trn U V h)) := by unfold Hid; rw [List.getD, ord_first h5]; rfl
    have HOc : Hid (∀ k, k < U.length → (ord U V h).count k = 1) := fun k hk => ord_count h5 hk
    have HTk : Hid (∀ k, k < (ord U V h).length → ∀ j, ((ord U V h).take (k + 1)).count j = ((ord U V h).take k).count j + if j = (ord U V h).getD k 0 then 1 else 0) := fun k hk j => by
      rw [List.take_succ_eq_append_getElem hk, List.count_append]
      have : (ord U V h).getD k 0 = (ord U V h)[k] := by simp [List.getD, hk]
      rw [this, List.count_singleton]
      by_cases e : j = (ord U V h)[k]
      · simp [e]
      · rw [if_neg e, if_neg (by simp; exact fun e2 => e e2.symm)]
    have HTl : Hid (∀ k j, ((ord U V h).take k).count j ≤ k) := fun k j => Nat.le_trans List.count_le_length (by rw [List.length_take]; omega)
    rw [hz] at HN HR
    simp only [e1] at HN
    simp only [e2] at HR
    obtain ⟨L, hL⟩ : ∃ L, L = ord U V h := ⟨_, rfl⟩
    obtain ⟨k0, hk0⟩ : ∃ k0, k0 = el U.length h (trn U V h) := ⟨_, rfl⟩
    rw [← hL] at HN HOl HOb HOf HOc HTk HTl
    rw [← hk0] at HR HOf
    obtain ⟨i0, hi, hz0, hz1, hz2⟩ := info_parts infoI64
    obtain ⟨n, hN⟩ : ∃ n, n = U.length := ⟨_, rfl⟩
    obtain ⟨m, hM⟩ : ∃ m, m = V.length := ⟨_, rfl⟩
    rw [← hN] at HN HR k1 HOl HOb HOc g2 ⊢
    rw [← hM] at HN HR k2 ⊢
    have n1 : ¬ n = 0 := by omega
    clear hL hk0 hz hN hM HU HV h1 h2 g1 g3 g4 e1 e2 h5 h6
    go_enter Try.func6, Try.ntmps6
    go_wp2_with fail
    refine (HN.out _ (Below.refl _ _)).mono ?_
    rintro e w1 ⟨y1, rfl, hb1, hr1⟩
    have B1 := Lib.hid hb1
    have Y1 := Lib.hid hr1
    clear hb1 hr1
    go_wp2_with fail
    refine (HR.out _ B1.out).mono ?_
    rintro e w2 ⟨y2, rfl, hb2, hr2⟩
    obtain ⟨ya, yc, rfl, -, -, -⟩ := brow_slice hr2
    have B2 := Lib.hid (B1.out.trans (hb2.mono B1.out.size))
    obtain ⟨b1, o1, c1, rfl, q1, q2, q3, q4⟩ := nrow_open (Y1.out.mono hb2 (Nat.le_refl _)) (by rw [HOl.out]; omega)
    have Y2 := Lib.hid q4
    rw [HOl.out] at q1 ⊢
    have q5 : (n : Int) ≤ (c1 : Int) := by omega
    have f0 := Y2.out 0 (by rw [HOl.out]; omega)
    rw [HOf.out, Nat.add_zero] at f0
    have HV0 := Lib.hid (CA.made w2 (.int .i64 0) n 3)
    have HB0 := Lib.hid (below_made w2 (.cells (madeCells #[.int .i64 0] n) 3))
    clear hb2 hr2 Y1 B1 q1 q4
    go_wp2_with (refine wpList_make_row rfl (.tmp 63) (.tmp 63) 32 rfl 3 i0 (.int .i64 0) 8 Try.underlying32 hi hz0 hz1 hz2 .i64 .i64 n rfl rfl (by omega) (by omega) ?_)
    obtain ⟨w3, hw3⟩ : ∃ w3, w3 = w2.alloc (.cells (madeCells #[.int .i64 0] n) 3) := ⟨_, rfl⟩
    rw [← hw3] at HV0 HB0
    have hw4 : w2.alloc (.cells (madeCells (Value.int .i64 0).cells n) 3) = w3 := hw3.symm
    try rw [hw4]
    try rw [← hw3]
    clear hw3 hw4 f0
    go_wp2
    go_loopw [13] (fun i wr => ∃ k : Nat, k ≤ n ∧ i = .int .i64 k ∧ Hid (CA wr w2.heap.size n (fun j => .int .i64 (((L.take k).count j : Nat) : Int))) ∧ Hid (Below w2.heap.size w2 wr)) (fun i _ => n - (intOf i).toNat)
    case atStart => exact ⟨0, Nat.zero_le _, rfl, HV0.out.ext (fun j hj => by simp), HB0⟩
    case round =>
      obtain ⟨k, hk, rfl, HC, HB⟩ := hrel
      by_cases hlt : k < n
      · have i1 : (k : Int) < (n : Int) := by omega
        have hkl : k < L.length := by rw [HOl.out]; exact hlt
        have d1 := (HB.out.cell (p := ⟨b1, o1 + k, none⟩) q3).trans (Y2.out k hkl)
        have hxb := HOb.out k hlt
        have HT := Lib.hid (HTk.out k hkl)
        obtain ⟨x, hx⟩ : ∃ x, x = L.getD k 0 := ⟨_, rfl⟩
        rw [← hx] at d1 hxb HT
        have i2 : (x : Int) < (n : Int) := by omega
        have i3 : (0 : Int) ≤ (x : Int) := by omega
        have d2 : wr.cell? ⟨w2.heap.size, x, none⟩ = some (.int .i64 (((L.take k).count x : Nat) : Int)) := (HC.out.2 x hxb).1
        have f2 := (HC.out.2 x hxb).2
        have hcl := HTl.out k x
        obtain ⟨s, hs⟩ : ∃ s, s = (L.take k).count x := ⟨_, rfl⟩
        rw [← hs] at d2 hcl
        obtain ⟨t, ht⟩ : ∃ t, t = s + 1 := ⟨_, rfl⟩
        have i4 : IntKind.i64.wrap ((s : Int) + 1) = (t : Int) := (wrap_in (by omega) (by omega)).trans (by omega)
        have HC2 : Hid (CA (wr.setCell ⟨w2.heap.size, x, none⟩ (.int .i64 (t : Int))) w2.heap.size n (fun j => .int .i64 (((L.take (k + 1)).count j : Nat) : Int))) := by
          refine (HC.out.set x hxb _).ext (fun j hj => ?_)
          rw [HT.out]
          by_cases e : j = x
          · subst e; rw [if_pos rfl, if_pos rfl, ht, hs]
          · rw [if_neg e, if_neg e]; rfl
        have HB2 : Hid (Below w2.heap.size w2 (wr.setCell ⟨w2.heap.size, x, none⟩ (.int .i64 (t : Int)))) := HB.out.setCell (Nat.le_refl _) _
        clear hx hs ht
        go_wp2_with fail
        go_region
        go_wp2
        go_roundw
        case rel => exact ⟨k + 1, by omega, by go_num, HC2.out, HB2.out.drew⟩
        case measure => simp [intOf]; omega
      · obtain rfl : k = n := by omega
        have HC3 : Hid (∀ j, j < k → wr.cell? ⟨w2.heap.size, j, none⟩ = some (.int .i64 1)) := fun j hj => by
          have h1 : wr.cell? ⟨w2.heap.size, j, none⟩ = some (.int .i64 (((L.take k).count j : Nat) : Int)) := (HC.out.2 j hj).1
          have h2 : (L.take k).count j = 1 := by rw [← HOl.out, List.take_length]; exact HOc.out j hj
          rw [h1, h2]; rfl
        have HB3 := Lib.hid (B2.out.trans (HB.out.mono B2.out.size))
        go_wp2
        go_loopw [14] (fun i W => ∃ j : Nat, j ≤ k ∧ i = .int .i64 j ∧ wr = W) (fun i _ => k - (intOf i).toNat)
        case atStart => exact ⟨0, Nat.zero_le _, rfl, rfl⟩
        case round =>
          obtain ⟨j, hj, rfl, rfl⟩ := hrel
          by_cases hlt2 : j < k
          · have i1 : (j : Int) < (k : Int) := by omega
            have d1 := HC3.out j hlt2
            go_wp2
            go_roundw
            case rel => exact ⟨j + 1, by omega, by go_num, by first | exact rfl | trivial⟩
            case measure => simp [intOf]; omega
          · obtain rfl : j = k := by omega
            go_wp2_with (go_at_call 8; refine (goes_any _).mono ?_; rintro e w' ⟨rfl, hb⟩)
            go_ret
            exact ⟨rfl, HB3.out.trans (hb.mono HB3.out.size)⟩
  · have e1 : odL U V x = [] := by rw [odL, if_neg hz]
    rw [e1] at HN
    obtain ⟨z, hzz⟩ : ∃ z, z = ckU U.length V.length x := ⟨_, rfl⟩
    obtain ⟨t, ht⟩ : ∃ t, t = nxI U V x := ⟨_, rfl⟩
    rw [← hzz] at HN HR hz
    rw [← ht] at HR
    have hz2 : (z != 0) = true := by simp [hz]
    have hz3 : (z == 0) = false := by simp [hz]
    obtain ⟨n, hN⟩ : ∃ n, n = U.length := ⟨_, rfl⟩
    obtain ⟨m, hM⟩ : ∃ m, m = V.length := ⟨_, rfl⟩
    rw [← hN] at HN HR k1 ⊢
    rw [← hM] at HN HR k2 ⊢
    clear hz hN hM HU HV h1 h2 e1 hzz ht
    go_enter Try.func6, Try.ntmps6
    go_wp2_with fail
    refine (HN.out _ (Below.refl _ _)).mono ?_
    rintro e w1 ⟨y1, rfl, hb1, hr1⟩
    obtain ⟨a1, c1, rfl, -, -⟩ := row_slice hr1
    have B1 := Lib.hid hb1
    clear hb1 hr1
    rw [show (ints []).length = 0 from rfl]
    go_wp2_with fail
    refine (HR.out _ B1.out).mono ?_
    rintro e w2 ⟨y2, rfl, hb2, hr2⟩
    have B2 := Lib.hid (B1.out.trans (hb2.mono B1.out.size))
    clear hb2 hr2 B1
    go_wp2_with (go_at_call 8; refine (goes_any _).mono ?_; rintro e w' ⟨rfl, hb⟩)
    go_ret
    exact ⟨rfl, B2.out.trans (hb.mono B2.out.size)⟩
end Go.Proofs.Ythokagcjbaibfaa.Cha
