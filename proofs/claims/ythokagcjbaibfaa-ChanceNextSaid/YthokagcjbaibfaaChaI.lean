/- Contracts of chance and of its document, errors and all; what must come at any rate. -/
import Derived.Test.YthokagcjbaibfaaChaG
import Derived.Test.YthokagcjbaibfaaChaH
namespace Go.Proofs.Ythokagcjbaibfaa.Cha
open Go.RowKit
set_option linter.unusedVariables false

/-- Next's answers. -/
def nxI (U V : List Bool) (x : Int) : Int := if ckU U.length V.length x = 0 then (el U.length x.toNat (trn U V x.toNat) : Int) else 0
def nxL (U V : List Bool) (x : Int) : List Bool := if ckU U.length V.length x = 0 then aft U x.toNat (trn U V x.toNat) else []
def tnI (U V : List Bool) (x : Int) : Int := if ckU U.length V.length x = 0 then (trn U V x.toNat : Int) else 0
def odL (U V : List Bool) (x : Int) : List Nat := if ckU U.length V.length x = 0 then ord U V x.toNat else []
/-- How many the broom looks at. -/
def seen (n : Nat) (m : Int) : Nat := if m ≤ n then m.toNat else n
def brL (V : List Bool) (x m : Int) : List Nat := if bk V.length x m = 0 then ((rnd V.length x.toNat).take (seen V.length m)).filter (fun i => V.getD i false) else []
def brI (V : List Bool) (x m : Int) : Int := if bk V.length x m = 0 then (el V.length x.toNat (seen V.length m) : Int) else 0

theorem as_nat {x : Int} {n : Nat} (h0 : 0 ≤ x) (h1 : x < n) : ∃ h : Nat, x = (h : Int) ∧ h < n ∧ x.toNat = h := ⟨x.toNat, by omega, by omega, rfl⟩

theorem next_all (u v : Value) (U V : List Bool) (x : Int) (w : World) (hu : BRow w u U) (hv : BRow w v V) (hn : U.length ≤ 1000) :
    Calls Try.prog 9 #[u, v, .int .i64 x] w fun e w' => ∃ y, e = .returned (.tuple #[.int .i64 (nxI U V x), y, .int .i64 (ckU U.length V.length x)]) ∧ Below w.heap.size w w' ∧ BRow w' y (nxL U V x) := by
  by_cases hb : ckU U.length V.length x = 0
  · obtain ⟨h1, h2, h3, h4⟩ := ckU_ok hb
    obtain ⟨h, rfl, h5, h6⟩ := as_nat h3 h4
    rw [nxI, if_pos hb, nxL, if_pos hb, hb, h6]
    exact next_ok u v U V h w hu hv hn h1 h5
  · refine (next_bad u v U V x w hu hv hn hb).mono ?_
    rintro e w' ⟨rfl, rfl⟩
    rw [nxI, if_neg hb, nxL, if_neg hb]
    exact ⟨_, rfl, Below.refl _ _, BRow.nil _⟩
theorem refNext_all (u v : Value) (U V : List Bool) (x : Int) (w : World) (hu : BRow w u U) (hv : BRow w v V) (hn : U.length ≤ 1000) :
    Calls Try.prog 10 #[u, v, .int .i64 x] w fun e w' => ∃ y, e = .returned (.tuple #[.int .i64 (nxI U V x), y, .int .i64 (ckU U.length V.length x)]) ∧ Below w.heap.size w w' ∧ BRow w' y (nxL U V x) := by
  by_cases hb : ckU U.length V.length x = 0
  · obtain ⟨h1, h2, h3, h4⟩ := ckU_ok hb
    obtain ⟨h, rfl, h5, h6⟩ := as_nat h3 h4
    rw [nxI, if_pos hb, nxL, if_pos hb, hb, h6]
    exact refNext_ok u v U V h w hu hv hn h1 h5
  · refine (refNext_bad u v U V x w hu hv hb).mono ?_
    rintro e w' ⟨rfl, rfl⟩
    rw [nxI, if_neg hb, nxL, if_neg hb]
    exact ⟨_, rfl, Below.refl _ _, BRow.nil _⟩
theorem turns_all (u v : Value) (U V : List Bool) (x : Int) (w : World) (hu : BRow w u U) (hv : BRow w v V) (hn : U.length ≤ 1000) :
    Calls Try.prog 12 #[u, v, .int .i64 x] w fun e w' => e = .returned (.int .i64 (tnI U V x)) ∧ Below w.heap.size w w' := by
  by_cases hb : ckU U.length V.length x = 0
  · obtain ⟨h1, h2, h3, h4⟩ := ckU_ok hb
    obtain ⟨h, rfl, h5, h6⟩ := as_nat h3 h4
    rw [tnI, if_pos hb, h6]
    exact turns_ok u v U V h w hu hv hn h1 h5
  · refine (turns_bad u v U V x w hu hv hn hb).mono ?_
    rintro e w' ⟨rfl, rfl⟩
    rw [tnI, if_neg hb]
    exact ⟨rfl, Below.refl _ _⟩
theorem refTurns_all (u v : Value) (U V : List Bool) (x : Int) (w : World) (hu : BRow w u U) (hv : BRow w v V) (hn : U.length ≤ 1000) :
    Calls Try.prog 13 #[u, v, .int .i64 x] w fun e w' => e = .returned (.int .i64 (tnI U V x)) ∧ Below w.heap.size w w' := by
  by_cases hb : ckU U.length V.length x = 0
  · obtain ⟨h1, h2, h3, h4⟩ := ckU_ok hb
    obtain ⟨h, rfl, h5, h6⟩ := as_nat h3 h4
    rw [tnI, if_pos hb, h6]
    exact refTurns_ok u v U V h w hu hv hn h1 h5
  · refine (refTurns_bad u v U V x w hu hv hb).mono ?_
    rintro e w' ⟨rfl, rfl⟩
    rw [tnI, if_neg hb]
    exact ⟨rfl, Below.refl _ _⟩
theorem order_all (u v : Value) (U V : List Bool) (x : Int) (w : World) (hu : BRow w u U) (hv : BRow w v V) (hn : U.length ≤ 1000) :
    Calls Try.prog 14 #[u, v, .int .i64 x] w fun e w' => ∃ y, e = .returned (.tuple #[y, .int .i64 (ckU U.length V.length x)]) ∧ Below w.heap.size w w' ∧ Row .i64 w' y (ints (odL U V x)) := by
  by_cases hb : ckU U.length V.length x = 0
  · obtain ⟨h1, h2, h3, h4⟩ := ckU_ok hb
    obtain ⟨h, rfl, h5, h6⟩ := as_nat h3 h4
    rw [odL, if_pos hb, hb, h6]
    exact order_ok u v U V h w hu hv hn h1 h5
  · refine (order_bad u v U V x w hu hv hn hb).mono ?_
    rintro e w' ⟨rfl, rfl⟩
    rw [odL, if_neg hb]
    exact ⟨_, rfl, Below.refl _ _, Row.nil _ _⟩
theorem refOrder_all (u v : Value) (U V : List Bool) (x : Int) (w : World) (hu : BRow w u U) (hv : BRow w v V) (hn : U.length ≤ 1000) :
    Calls Try.prog 15 #[u, v, .int .i64 x] w fun e w' => ∃ y, e = .returned (.tuple #[y, .int .i64 (ckU U.length V.length x)]) ∧ Below w.heap.size w w' ∧ Row .i64 w' y (ints (odL U V x)) := by
  by_cases hb : ckU U.length V.length x = 0
  · obtain ⟨h1, h2, h3, h4⟩ := ckU_ok hb
    obtain ⟨h, rfl, h5, h6⟩ := as_nat h3 h4
    rw [odL, if_pos hb, hb, h6]
    exact refOrder_ok u v U V h w hu hv hn h1 h5
  · refine (refOrder_bad u v U V x w hu hv hb).mono ?_
    rintro e w' ⟨rfl, rfl⟩
    rw [odL, if_neg hb]
    exact ⟨_, rfl, Below.refl _ _, Row.nil _ _⟩
theorem bk_ok {n : Nat} {x m : Int} (h : bk n x m = 0) : ck n x = 0 ∧ ¬ m < 0 := by
  unfold bk at h
  split at h
  · split at h
    · cases h
    · exact ⟨by assumption, by assumption⟩
  · contradiction
theorem broom_all2 (u : Value) (V : List Bool) (x m : Int) (w : World) (hv : BRow w u V) (hn : V.length ≤ 1000) :
    Calls Try.prog 17 #[u, .int .i64 x, .int .i64 m] w fun e w' => ∃ y, e = .returned (.tuple #[y, .int .i64 (brI V x m), .int .i64 (bk V.length x m)]) ∧ Below w.heap.size w w' ∧ Row .i64 w' y (ints (brL V x m)) := by
  by_cases hb : bk V.length x m = 0
  · obtain ⟨h1, h2⟩ := bk_ok hb
    obtain ⟨h3, h4, h5⟩ := ck_ok h1
    obtain ⟨h, rfl, h6, h7⟩ := as_nat h4 h5
    obtain ⟨m, rfl⟩ : ∃ k : Nat, m = (k : Int) := ⟨m.toNat, by omega⟩
    rw [brI, if_pos hb, brL, if_pos hb, hb, h7]
    unfold seen
    by_cases hm : (m : Int) ≤ (V.length : Int)
    · rw [if_pos hm, Int.toNat_natCast]
      exact broom_few u V h m w hv hn h6 (by omega)
    · rw [if_neg hm]
      exact broom_all u V h m w hv hn h6 (by omega)
  · refine (broom_bad u V x m w hv hn hb).mono ?_
    rintro e w' ⟨rfl, hb2⟩
    rw [brI, if_neg hb, brL, if_neg hb]
    exact ⟨_, rfl, hb2, Row.nil _ _⟩
theorem refBroom_all (u : Value) (V : List Bool) (x m : Int) (w : World) (hv : BRow w u V) (hn : V.length ≤ 1000) :
    Calls Try.prog 18 #[u, .int .i64 x, .int .i64 m] w fun e w' => ∃ y, e = .returned (.tuple #[y, .int .i64 (brI V x m), .int .i64 (bk V.length x m)]) ∧ Below w.heap.size w w' ∧ Row .i64 w' y (ints (brL V x m)) := by
  by_cases hb : bk V.length x m = 0
  · obtain ⟨h1, h2⟩ := bk_ok hb
    obtain ⟨h3, h4, h5⟩ := ck_ok h1
    obtain ⟨h, rfl, h6, h7⟩ := as_nat h4 h5
    rw [brI, if_pos hb, brL, if_pos hb, hb, h7]
    exact refBroom_ok u V h (seen V.length m) m w hv hn h6 (by unfold seen; split <;> omega) (by unfold seen; split <;> omega)
  · refine (refBroom_bad u V x m w hv hb).mono ?_
    rintro e w' ⟨rfl, rfl⟩
    rw [brI, if_neg hb, brL, if_neg hb]
    exact ⟨_, rfl, Below.refl _ _, Row.nil _ _⟩

/-- Rows that a call writes out. -/
def cTFT : Array Value := #[.bool true, .bool false, .bool true]
theorem rows2 (w : World) (W : World) (hW : W = (w.alloc (.cells #[.bool true, .bool false, .bool true] 4)).alloc (.cells #[.bool false, .bool false, .bool false] 4)) :
    BRow W (.slice (some ⟨w.heap.size, 0, none⟩) 3 3) [true, false, true] ∧ BRow W (.slice (some ⟨w.heap.size + 1, 0, none⟩) 3 3) [false, false, false] ∧ Below w.heap.size w W := by
  have hs : (w.alloc (.cells #[.bool true, .bool false, .bool true] 4)).heap.size = w.heap.size + 1 := Array.size_push _
  have a := BRow.made w [true, false, true] 4 #[.bool true, .bool false, .bool true] rfl (by decide)
  have b := BRow.made (w.alloc (.cells #[.bool true, .bool false, .bool true] 4)) [false, false, false] 4 #[.bool false, .bool false, .bool false] rfl (by decide)
  rw [hs] at b
  subst hW
  exact ⟨a.mono (below_made _ _) (Nat.le_refl _), b, (below_made w _).trans ((below_made _ _).mono (by omega))⟩

set_option maxRecDepth 100000 in
set_option maxHeartbeats 1000000 in
theorem goes_any (w : World) : Calls Try.prog 8 #[] w fun e w' => e = .returned (.bool true) ∧ Below w.heap.size w w' := by
  have z0 : (((0 : Nat)) : Int) = 0 := rfl
  have HN1 : Hid (∀ W u v, BRow W u [true, false, true] → BRow W v [false, false, false] → Calls Try.prog 9 #[u, v, .int .i64 0] W fun e w' => ∃ y, e = .returned (.tuple #[.int .i64 1, y, .int .i64 0]) ∧ Below W.heap.size W w' ∧ BRow w' y [false, false, true]) :=
    fun W u v h1 h2 => by
      have := next_all u v [true, false, true] [false, false, false] 0 W h1 h2 (by decide)
      rw [show nxI [true, false, true] [false, false, false] 0 = 1 by decide, show nxL [true, false, true] [false, false, false] 0 = [false, false, true] by decide, show ckU [true, false, true].length [false, false, false].length 0 = 0 by decide] at this
      exact this
  have HO1 : Hid (∀ W u v, BRow W u [true, false, true] → BRow W v [false, false, false] → Calls Try.prog 14 #[u, v, .int .i64 0] W fun e w' => ∃ y, e = .returned (.tuple #[y, .int .i64 0]) ∧ Below W.heap.size W w' ∧ Row .i64 w' y [1, 0, 2]) :=
    fun W u v h1 h2 => by
      have := order_all u v [true, false, true] [false, false, false] 0 W h1 h2 (by decide)
      rw [show ints (odL [true, false, true] [false, false, false] 0) = [1, 0, 2] by decide, show ckU [true, false, true].length [false, false, false].length 0 = 0 by decide] at this
      exact this
  have HN2 : Hid (∀ W, Calls Try.prog 9 #[.slice none 0 0, .slice none 0 0, .int .i64 0] W fun e w' => e = .returned (.tuple #[.int .i64 0, .slice none 0 0, .int .i64 2]) ∧ W = w') :=
    fun W => by
      have := next_bad _ _ [] [] 0 W (BRow.nil W) (BRow.nil W) (by decide) (by decide)
      rw [show ckU ([] : List Bool).length ([] : List Bool).length 0 = 2 by decide] at this
      exact this
  have HBr : Hid (∀ W u, BRow W u [true, false, true] → Calls Try.prog 17 #[u, .int .i64 1, .int .i64 2] W fun e w' => ∃ y, e = .returned (.tuple #[y, .int .i64 0, .int .i64 0]) ∧ Below W.heap.size W w' ∧ Row .i64 w' y [2]) :=
    fun W u h1 => by
      have := broom_all2 u [true, false, true] 1 2 W h1 (by decide)
      rw [show ints (brL [true, false, true] 1 2) = [2] by decide, show brI [true, false, true] 1 2 = 0 by decide, show bk [true, false, true].length 1 2 = 0 by decide] at this
      exact this
  have HS1 : Hid (∀ W u v, BRow W u [false, false, true] → BRow W v [false, false, true] → Calls Try.prog 11 #[u, v] W fun e w' => e = .returned (.bool true) ∧ Below W.heap.size W w') := fun W u v h1 h2 => sameB_any u v _ W h1 h2
  have HS2 : Hid (∀ W u v L, Row .i64 W u L → Row .i64 W v L → Calls Try.prog 16 #[u, v] W fun e w' => e = .returned (.bool true) ∧ Below W.heap.size W w') := fun W u v L h1 h2 => same64_any u v _ W h1 h2
  obtain ⟨r1, r2, r3⟩ := rows2 w _ rfl
  have R1 := Lib.hid r1
  have R2 := Lib.hid r2
  have B0 := Lib.hid r3
  clear r1 r2 r3
  go_enter Try.func8, Try.ntmps8
  go_wp2_with fail
  refine (HN1.out _ _ _ R1.out R2.out).mono ?_
  rintro e w1 ⟨y1, rfl, hb1, hr1⟩
  have B1 : Hid (Below w.heap.size w w1) := B0.out.trans (hb1.mono B0.out.size)
  have Y1 := Lib.hid hr1
  obtain ⟨r1, r2, r3⟩ := rows2 w1 _ rfl
  have R3 := Lib.hid r1
  have R4 := Lib.hid r2
  have B2 : Hid (Below w.heap.size w _) := B1.out.trans (r3.mono B1.out.size)
  have Y2 := Lib.hid (hr1.mono r3 (Nat.le_refl _))
  clear r1 r2 r3 hb1 hr1 R1 R2 B0
  go_wp2_with fail
  refine (HO1.out _ _ _ R3.out R4.out).mono ?_
  rintro e w2 ⟨y2, rfl, hb2, hr2⟩
  have B3 : Hid (Below w.heap.size w w2) := B2.out.trans (hb2.mono B2.out.size)
  have Y3 := Lib.hid (Y2.out.mono hb2 (Nat.le_refl _))
  have Z3 := Lib.hid hr2
  clear hb2 hr2 R3 R4 Y1 Y2 B1 B2
  go_wp2_with fail
  refine (HN2.out _).mono ?_
  rintro e w3 ⟨rfl, rfl⟩
  have r1 := BRow.made w2 [true, false, true] 4 #[.bool true, .bool false, .bool true] rfl (by decide)
  have r3 := below_made w2 (.cells #[.bool true, .bool false, .bool true] 4)
  have R5 := Lib.hid r1
  have B4 : Hid (Below w.heap.size w _) := B3.out.trans (r3.mono B3.out.size)
  have Y4 := Lib.hid (Y3.out.mono r3 (Nat.le_refl _))
  have Z4 := Lib.hid (Z3.out.mono r3 (Nat.le_refl _))
  clear r1 r3 Y3 Z3 B3
  go_wp2_with fail
  refine (HBr.out _ _ R5.out).mono ?_
  rintro e w4 ⟨y4, rfl, hb4, hr4⟩
  have r1 := BRow.made w4 [false, false, true] 4 #[.bool false, .bool false, .bool true] rfl (by decide)
  have r3 := below_made w4 (.cells #[.bool false, .bool false, .bool true] 4)
  have R6 := Lib.hid r1
  have hb5 := hb4.trans (r3.mono hb4.size)
  have B5 : Hid (Below w.heap.size w _) := B4.out.trans (hb5.mono B4.out.size)
  have Y5 := Lib.hid (Y4.out.mono hb5 (Nat.le_refl _))
  have Z5 := Lib.hid (Z4.out.mono hb5 (Nat.le_refl _))
  have X5 := Lib.hid (hr4.mono r3 (Nat.le_refl _))
  clear r1 r3 Y4 Z4 B4 hb4 hr4 hb5 R5
  go_wp2_with fail
  refine (HS1.out _ _ _ Y5.out R6.out).mono ?_
  rintro e w5 ⟨rfl, hb5⟩
  have r1 := Row.made w5 [1, 0, 2] 3 #[.int .i64 1, .int .i64 0, .int .i64 2] rfl (by decide) (by decide)
  have r3 := below_made w5 (.cells #[.int .i64 1, .int .i64 0, .int .i64 2] 3)
  have R7 := Lib.hid r1
  have hb6 := hb5.trans (r3.mono hb5.size)
  have B6 : Hid (Below w.heap.size w _) := B5.out.trans (hb6.mono B5.out.size)
  have Z6 := Lib.hid (Z5.out.mono hb6 (Nat.le_refl _))
  have X6 := Lib.hid (X5.out.mono hb6 (Nat.le_refl _))
  clear r1 r3 Y5 Z5 B5 hb5 hb6 R6 X5
  go_wp2_with fail
  refine (HS2.out _ _ _ _ Z6.out R7.out).mono ?_
  rintro e w6 ⟨rfl, hb6⟩
  have r1 := Row.made w6 [2] 3 #[.int .i64 2] rfl (by decide) (by decide)
  have r3 := below_made w6 (.cells #[.int .i64 2] 3)
  have R8 := Lib.hid r1
  have hb7 := hb6.trans (r3.mono hb6.size)
  have B7 : Hid (Below w.heap.size w _) := B6.out.trans (hb7.mono B6.out.size)
  have X7 := Lib.hid (X6.out.mono hb7 (Nat.le_refl _))
  clear r1 r3 Z6 B6 hb6 hb7 R7 X6
  go_wp2_with fail
  refine (HS2.out _ _ _ _ X7.out R8.out).mono ?_
  rintro e w7 ⟨rfl, hb7⟩
  have B8 : Hid (Below w.heap.size w w7) := B7.out.trans (hb7.mono B7.out.size)
  clear hb7
  go_wp2
  go_ret
  exact ⟨rfl, B8.out⟩
end Go.Proofs.Ythokagcjbaibfaa.Cha
