/- The walks of the statements NumRounds and NumLoads. -/
import Derived.Test.YtbigoonacdmkeaaNumF
import Derived.Test.YtbigoonacdmkeaaKit2
namespace Go.Proofs.Ytbigoonacdmkeaa.Num
open Go.RowKit
set_option linter.unusedVariables false

theorem numRounds_walk (n t : Int) (w : World) (hn : n ≤ 9223372036854775807) (ht : t ≤ 9223372036854775807) :
    Calls Try.prog 5 #[.int .i64 n, .int .i64 t] w fun e w' => e = .returned (.bool true) ∧ Below w.heap.size w w' := by
  go_enter Try.func5, Try.ntmps5
  go_wp2_with (first
    | (go_at_call 16; refine (round_any _ _ _).mono ?_; rintro e w' ⟨rfl, rfl⟩)
    | (go_at_call 17; refine (refRound_any _ _ _).mono ?_; rintro e w' ⟨rfl, rfl⟩)
    | (go_at_call 18; refine (halves_any _ _ (by omega)).mono ?_; rintro e w' ⟨rfl, rfl⟩)
    | (go_at_call 19; refine (refHalves_any _ _ (by omega)).mono ?_; rintro e w' ⟨rfl, rfl⟩)
    | (go_at_call 8; refine (loads_any _).mono ?_; rintro e w' ⟨rfl, hb⟩))
  go_ret
  exact ⟨rfl, hb⟩

theorem numLoads_walk (v : Value) (a x : Int) (l : List Int) (w : World) (hr : Row .u8 w v l) :
    Calls Try.prog 3 #[v, .int .i64 a, .int .i64 x] w fun e w' => e = .returned (.bool true) ∧ Below w.heap.size w w' := by
  have hr0 := hr
  obtain ⟨ad, cap, rfl, h2, h3, h4, h5⟩ := hr
  have R := Lib.hid hr0
  clear h4 h5 hr0
  by_cases hl : 2000 < l.length
  · go_enter Try.func3, Try.ntmps3
    go_wp2_with (first
      | (go_at_call 8; refine (loads_any _).mono ?_; rintro e w' ⟨rfl, hb⟩))
    go_ret
    exact ⟨rfl, hb⟩
  · go_enter Try.func3, Try.ntmps3
    go_wp2_with fail
    refine (load_any _ a x l _ R.out).mono ?_
    rintro e w1 ⟨rfl, hb1⟩
    have R1 := Lib.hid (R.out.mono hb1 (Nat.le_refl _))
    obtain ⟨p, hp⟩ : ∃ p, p = (ldv l a x).1 := ⟨_, rfl⟩
    obtain ⟨q, hq⟩ : ∃ q, q = (ldv l a x).2 := ⟨_, rfl⟩
    have Hp := Lib.hid hp
    have Hq := Lib.hid hq
    rw [← hp, ← hq]
    clear hp hq
    go_wp2_with fail
    refine (refLoad_any _ a x l _ R1.out).mono ?_
    rintro e w2 ⟨rfl, rfl⟩
    rw [← Hp.out, ← Hq.out]
    go_wp2_with (first
      | (go_at_call 8; refine (loads_any _).mono ?_; rintro e w' ⟨rfl, hb⟩))
    go_ret
    exact ⟨rfl, hb1.trans (hb.mono hb1.size)⟩
end Go.Proofs.Ytbigoonacdmkeaa.Num
