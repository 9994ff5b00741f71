/- The statements ChanceNext, ChanceOrder, ChanceBroom. -/
import Derived.Test.YthokagcjbaibfaaChaI
namespace Go.Proofs.Ythokagcjbaibfaa.Cha
open Go.RowKit
set_option linter.unusedVariables false

set_option maxRecDepth 100000 in
set_option maxHeartbeats 1000000 in
theorem chanceNext_walk (u v : Value) (U V : List Bool) (x : Int) (w : World) (hu : BRow w u U) (hv : BRow w v V) :
    Calls Try.prog 3 #[u, v, .int .i64 x] w fun e w' => e = .returned (.bool true) ∧ Below w.heap.size w w' := by
  by_cases h1 : 300 < U.length
  · obtain ⟨a, c, rfl, -, -, -⟩ := hu
    obtain ⟨a2, c2, rfl, -, -, -⟩ := hv
    have k1 : (300 : Int) < (U.length : Int) := by omega
    obtain ⟨n, hN⟩ : ∃ n, n = U.length := ⟨_, rfl⟩
    obtain ⟨m, hM⟩ : ∃ m, m = V.length := ⟨_, rfl⟩
    rw [← hN] at k1 ⊢
    rw [← hM]
    clear hN hM h1
    go_enter Try.func3, Try.ntmps3
    go_wp2_with (go_at_call 8; refine (goes_any _).mono ?_; rintro e w' ⟨rfl, hb⟩)
    go_ret
    exact ⟨rfl, hb⟩
  by_cases h2 : 300 < V.length
  · obtain ⟨a, c, rfl, -, -, -⟩ := hu
    obtain ⟨a2, c2, rfl, -, -, -⟩ := hv
    have k1 : ¬ (300 : Int) < (U.length : Int) := by omega
    have k2 : (300 : Int) < (V.length : Int) := by omega
    obtain ⟨n, hN⟩ : ∃ n, n = U.length := ⟨_, rfl⟩
    obtain ⟨m, hM⟩ : ∃ m, m = V.length := ⟨_, rfl⟩
    rw [← hN] at k1 ⊢
    rw [← hM] at k2 ⊢
    clear hN hM h1 h2
    go_enter Try.func3, Try.ntmps3
    go_wp2_with (go_at_call 8; refine (goes_any _).mono ?_; rintro e w' ⟨rfl, hb⟩)
    go_ret
    exact ⟨rfl, hb⟩
  have HU : Hid (∀ W, Below w.heap.size w W → BRow W u U) := fun W b => hu.mono b (Nat.le_refl _)
  have HV : Hid (∀ W, Below w.heap.size w W → BRow W v V) := fun W b => hv.mono b (Nat.le_refl _)
  obtain ⟨a, c, rfl, -, -, -⟩ := hu
  obtain ⟨a2, c2, rfl, -, -, -⟩ := hv
  have k1 : ¬ (300 : Int) < (U.length : Int) := by omega
  have k2 : ¬ (300 : Int) < (V.length : Int) := by omega
  have HN := Lib.hid (fun W b => next_all _ _ U V x W (HU.out W b) (HV.out W b) (by omega))
  have HR := Lib.hid (fun W b => refNext_all _ _ U V x W (HU.out W b) (HV.out W b) (by omega))
  have HT := Lib.hid (fun W b => turns_all _ _ U V x W (HU.out W b) (HV.out W b) (by omega))
  have HS := Lib.hid (fun W b => refTurns_all _ _ U V x W (HU.out W b) (HV.out W b) (by omega))
  obtain ⟨i, hi⟩ : ∃ i, i = nxI U V x := ⟨_, rfl⟩
  obtain ⟨L, hL⟩ : ∃ L, L = nxL U V x := ⟨_, rfl⟩
  obtain ⟨t, ht⟩ : ∃ t, t = tnI U V x := ⟨_, rfl⟩
  obtain ⟨z, hz⟩ : ∃ z, z = ckU U.length V.length x := ⟨_, rfl⟩
  rw [← hi, ← hL, ← hz] at HN HR
  rw [← ht] at HT HS
  obtain ⟨n, hN⟩ : ∃ n, n = U.length := ⟨_, rfl⟩
  obtain ⟨m, hM⟩ : ∃ m, m = V.length := ⟨_, rfl⟩
  rw [← hN] at HN HR HT HS k1 ⊢
  rw [← hM] at HN HR HT HS k2 ⊢
  clear hi hL ht hz hN hM HU HV h1 h2
  go_enter Try.func3, Try.ntmps3
  go_wp2_with fail
  refine (HN.out _ (Below.refl _ _)).mono ?_
  rintro e w1 ⟨y1, rfl, hb1, hr1⟩
  have B1 := Lib.hid hb1
  have Y1 := Lib.hid hr1
  clear hb1 hr1
  go_wp2_with fail
  refine (HR.out _ B1.out).mono ?_
  rintro e w2 ⟨y2, rfl, hb2, hr2⟩
  have B2 := Lib.hid (B1.out.trans (hb2.mono B1.out.size))
  have Y1' := Lib.hid (Y1.out.mono hb2 (Nat.le_refl _))
  have Y2 := Lib.hid hr2
  clear hb2 hr2 Y1 B1
  go_wp2_with fail
  refine (sameB_any _ _ L _ Y1'.out Y2.out).mono ?_
  rintro e w3 ⟨rfl, hb3⟩
  have B3 := Lib.hid (B2.out.trans (hb3.mono B2.out.size))
  clear hb3 Y1' Y2 B2
  go_wp2_with fail
  refine (HT.out _ B3.out).mono ?_
  rintro e w4 ⟨rfl, hb4⟩
  have B4 := Lib.hid (B3.out.trans (hb4.mono B3.out.size))
  clear hb4 B3
  go_wp2_with fail
  refine (HS.out _ B4.out).mono ?_
  rintro e w5 ⟨rfl, hb5⟩
  have B5 := Lib.hid (B4.out.trans (hb5.mono B4.out.size))
  clear hb5 B4
  go_wp2_with (go_at_call 8; refine (goes_any _).mono ?_; rintro e w' ⟨rfl, hb⟩)
  go_ret
  exact ⟨rfl, B5.out.trans (hb.mono B5.out.size)⟩

set_option maxRecDepth 100000 in
set_option maxHeartbeats 1000000 in
theorem chanceOrder_walk (u v : Value) (U V : List Bool) (x : Int) (w : World) (hu : BRow w u U) (hv : BRow w v V) :
    Calls Try.prog 4 #[u, v, .int .i64 x] w fun e w' => e = .returned (.bool true) ∧ Below w.heap.size w w' := by
  by_cases h1 : 300 < U.length
  · obtain ⟨a, c, rfl, -, -, -⟩ := hu
    obtain ⟨a2, c2, rfl, -, -, -⟩ := hv
    have k1 : (300 : Int) < (U.length : Int) := by omega
    obtain ⟨n, hN⟩ : ∃ n, n = U.length := ⟨_, rfl⟩
    obtain ⟨m, hM⟩ : ∃ m, m = V.length := ⟨_, rfl⟩
    rw [← hN] at k1 ⊢
    rw [← hM]
    clear hN hM h1
    go_enter Try.func4, Try.ntmps4
    go_wp2_with (go_at_call 8; refine (goes_any _).mono ?_; rintro e w' ⟨rfl, hb⟩)
    go_ret
    exact ⟨rfl, hb⟩
  by_cases h2 : 300 < V.length
  · obtain ⟨a, c, rfl, -, -, -⟩ := hu
    obtain ⟨a2, c2, rfl, -, -, -⟩ := hv
    have k1 : ¬ (300 : Int) < (U.length : Int) := by omega
    have k2 : (300 : Int) < (V.length : Int) := by omega
    obtain ⟨n, hN⟩ : ∃ n, n = U.length := ⟨_, rfl⟩
    obtain ⟨m, hM⟩ : ∃ m, m = V.length := ⟨_, rfl⟩
    rw [← hN] at k1 ⊢
    rw [← hM] at k2 ⊢
    clear hN hM h1 h2
    go_enter Try.func4, Try.ntmps4
    go_wp2_with (go_at_call 8; refine (goes_any _).mono ?_; rintro e w' ⟨rfl, hb⟩)
    go_ret
    exact ⟨rfl, hb⟩
  have HU : Hid (∀ W, Below w.heap.size w W → BRow W u U) := fun W b => hu.mono b (Nat.le_refl _)
  have HV : Hid (∀ W, Below w.heap.size w W → BRow W v V) := fun W b => hv.mono b (Nat.le_refl _)
  obtain ⟨a, c, rfl, -, -, -⟩ := hu
  obtain ⟨a2, c2, rfl, -, -, -⟩ := hv
  have k1 : ¬ (300 : Int) < (U.length : Int) := by omega
  have k2 : ¬ (300 : Int) < (V.length : Int) := by omega
  have HN := Lib.hid (fun W b => order_all _ _ U V x W (HU.out W b) (HV.out W b) (by omega))
  have HR := Lib.hid (fun W b => refOrder_all _ _ U V x W (HU.out W b) (HV.out W b) (by omega))
  obtain ⟨L, hL⟩ : ∃ L, L = ints (odL U V x) := ⟨_, rfl⟩
  obtain ⟨z, hz⟩ : ∃ z, z = ckU U.length V.length x := ⟨_, rfl⟩
  rw [← hL, ← hz] at HN HR
  obtain ⟨n, hN⟩ : ∃ n, n = U.length := ⟨_, rfl⟩
  obtain ⟨m, hM⟩ : ∃ m, m = V.length := ⟨_, rfl⟩
  rw [← hN] at HN HR k1 ⊢
  rw [← hM] at HN HR k2 ⊢
  clear hL hz hN hM HU HV h1 h2
  go_enter Try.func4, Try.ntmps4
  go_wp2_with fail
  refine (HN.out _ (Below.refl _ _)).mono ?_
  rintro e w1 ⟨y1, rfl, hb1, hr1⟩
  have B1 := Lib.hid hb1
  have Y1 := Lib.hid hr1
  clear hb1 hr1
  go_wp2_with fail
  refine (HR.out _ B1.out).mono ?_
  rintro e w2 ⟨y2, rfl, hb2, hr2⟩
  have B2 := Lib.hid (B1.out.trans (hb2.mono B1.out.size))
  have Y1' := Lib.hid (Y1.out.mono hb2 (Nat.le_refl _))
  have Y2 := Lib.hid hr2
  clear hb2 hr2 Y1 B1
  go_wp2_with fail
  refine (same64_any _ _ L _ Y1'.out Y2.out).mono ?_
  rintro e w3 ⟨rfl, hb3⟩
  have B3 := Lib.hid (B2.out.trans (hb3.mono B2.out.size))
  clear hb3 Y1' Y2 B2
  go_wp2_with (go_at_call 8; refine (goes_any _).mono ?_; rintro e w' ⟨rfl, hb⟩)
  go_ret
  exact ⟨rfl, B3.out.trans (hb.mono B3.out.size)⟩

set_option maxRecDepth 100000 in
set_option maxHeartbeats 1000000 in
theorem chanceBroom_walk (v : Value) (V : List Bool) (x m : Int) (w : World) (hv : BRow w v V) :
    Calls Try.prog 5 #[v, .int .i64 x, .int .i64 m] w fun e w' => e = .returned (.bool true) ∧ Below w.heap.size w w' := by
  by_cases h1 : 300 < V.length
  · obtain ⟨a, c, rfl, -, -, -⟩ := hv
    have k1 : (300 : Int) < (V.length : Int) := by omega
    obtain ⟨n, hN⟩ : ∃ n, n = V.length := ⟨_, rfl⟩
    rw [← hN] at k1 ⊢
    clear hN h1
    go_enter Try.func5, Try.ntmps5
    go_wp2_with (go_at_call 8; refine (goes_any _).mono ?_; rintro e w' ⟨rfl, hb⟩)
    go_ret
    exact ⟨rfl, hb⟩
  have HV : Hid (∀ W, Below w.heap.size w W → BRow W v V) := fun W b => hv.mono b (Nat.le_refl _)
  obtain ⟨a, c, rfl, -, -, -⟩ := hv
  have k1 : ¬ (300 : Int) < (V.length : Int) := by omega
  have HN := Lib.hid (fun W b => broom_all2 _ V x m W (HV.out W b) (by omega))
  have HR := Lib.hid (fun W b => refBroom_all _ V x m W (HV.out W b) (by omega))
  obtain ⟨L, hL⟩ : ∃ L, L = ints (brL V x m) := ⟨_, rfl⟩
  obtain ⟨i, hi⟩ : ∃ i, i = brI V x m := ⟨_, rfl⟩
  obtain ⟨z, hz⟩ : ∃ z, z = bk V.length x m := ⟨_, rfl⟩
  rw [← hL, ← hi, ← hz] at HN HR
  obtain ⟨n, hN⟩ : ∃ n, n = V.length := ⟨_, rfl⟩
  rw [← hN] at HN HR k1 ⊢
  clear hL hz hi hN HV h1
  go_enter Try.func5, Try.ntmps5
  go_wp2_with fail
  refine (HN.out _ (Below.refl _ _)).mono ?_
  rintro e w1 ⟨y1, rfl, hb1, hr1⟩
  have B1 := Lib.hid hb1
  have Y1 := Lib.hid hr1
  clear hb1 hr1
  go_wp2_with fail
  refine (HR.out _ B1.out).mono ?_
  rintro e w2 ⟨y2, rfl, hb2, hr2⟩
  have B2 := Lib.hid (B1.out.trans (hb2.mono B1.out.size))
  have Y1' := Lib.hid (Y1.out.mono hb2 (Nat.le_refl _))
  have Y2 := Lib.hid hr2
  clear hb2 hr2 Y1 B1
  go_wp2_with fail
  refine (same64_any _ _ L _ Y1'.out Y2.out).mono ?_
  rintro e w3 ⟨rfl, hb3⟩
  have B3 := Lib.hid (B2.out.trans (hb3.mono B2.out.size))
  clear hb3 Y1' Y2 B2
  go_wp2_with (go_at_call 8; refine (goes_any _).mono ?_; rintro e w' ⟨rfl, hb⟩)
  go_ret
  exact ⟨rfl, B3.out.trans (hb.mono B3.out.size)⟩
end Go.Proofs.Ythokagcjbaibfaa.Cha
