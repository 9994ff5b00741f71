/- The walk of the statement NumParts, whatever it is given. -/
import Derived.Test.YtbigoonacdmkeaaNumH
namespace Go.Proofs.Ytbigoonacdmkeaa.Num
open Go.RowKit
set_option linter.unusedVariables false

theorem plc_vals (n a x : Int) : plc n a x = 0 ∨ plc n a x = 6 ∨ plc n a x = 9 := by
  unfold plc
  split
  · exact .inr (.inl rfl)
  · split
    · exact .inl rfl
    · exact .inr (.inr rfl)

theorem numParts_walk (v : Value) (a : Int) (l : List Int) (w : World) (hr : Row .u8 w v l) :
    Calls Try.prog 7 #[v, .int .i64 a] w fun e w' => e = .returned (.bool true) ∧ Below w.heap.size w w' := by
  have hr0 := hr
  obtain ⟨ad, cap, rfl, h2, h3, h4, h5⟩ := hr
  have R := Lib.hid hr0
  clear h4 h5 hr0
  by_cases hl : 300 < l.length
  · go_enter Try.func7, Try.ntmps7
    go_wp2_with (first
      | (go_at_call 8; refine (loads_any _).mono ?_; rintro e w' ⟨rfl, hb⟩))
    go_ret
    exact ⟨rfl, hb⟩
  · by_cases hp : plc l.length a 8 = 0
    · obtain ⟨p1, p2, p3⟩ := plc_ok hp
      obtain ⟨m, rfl⟩ := Int.eq_ofNat_of_zero_le p1
      exact numParts_in l m _ w R.out (by omega) ⟨_, _, rfl⟩ (by omega) p3
    · have hv := plc_vals l.length a 8
      obtain ⟨p, hpe⟩ : ∃ p, p = plc l.length a 8 := ⟨_, rfl⟩
      have E : Hid (ldv l a 8 = (0, p)) := by
        unfold Hid
        rw [hpe]
        simp [ldv, show isW 8 = true by decide, hp]
      rw [← hpe] at hp hv
      have g1 : (p == 0) = false := by simpa using hp
      have g1' : (p != 0) = true := by simpa using hp
      have g2 : (p != 2) = true := by rw [bne_iff_ne]; omega
      clear hpe hp hv
      go_enter Try.func7, Try.ntmps7
      go_wp2_with fail
      refine (load_any _ _ 8 l _ R.out).mono ?_
      rintro e w0 ⟨rfl, hb⟩
      rw [E.out]
      go_wp2_with (first
        | (go_at_call 8; refine (loads_any _).mono ?_; rintro e w1 ⟨rfl, hb1⟩))
      go_ret
      exact ⟨rfl, hb.trans (hb1.mono hb.size)⟩
end Go.Proofs.Ytbigoonacdmkeaa.Num
