/- Contract of the document's Store, whatever it is given, and the walk of the statement NumStores. -/
import Derived.Test.YtncbfagmdldclaaNumJ
namespace Go.Proofs.Ytncbfagmdldclaa.Num
open Go.RowKit
set_option linter.unusedVariables false

theorem refStore_any (u : Value) (a x v : Int) (l : List Int) (w : World) (hr : Row .u8 w u l) (h0 : 0 ≤ v) (h1 : v < 18446744073709551616) (hlen : l.length ≤ 2000) :
    Calls Try.prog 42 #[u, .int .i64 a, .int .i64 x, .int .u64 v] w (Stored w l a x v) := by
  have hby := hr.bytes
  obtain ⟨ad, cap, rfl, h2, h3, h4, h5⟩ := hr
  by_cases hw : isW x = true
  · obtain ⟨b1, b2⟩ := isW_bd hw
    by_cases hf : fits v x = true
    · by_cases hp : plc l.length a x = 0
      · obtain ⟨p1, p2, p3⟩ := plc_ok hp
        obtain ⟨b, off, rfl, hlt, hc⟩ := h5 (by rintro rfl; simp at p2; omega)
        obtain ⟨m, rfl⟩ := Int.eq_ofNat_of_zero_le p1
        obtain ⟨n, rfl⟩ := Int.eq_ofNat_of_zero_le (show 0 ≤ x by omega)
        exact refStore_ok b off cap l m n v w h2 h3 hlen hc hby hlt h0 h1 hf (by omega) (by omega) hp (by omega)
      · have e0 : ste l a x v = plc l.length a x := by simp [ste, hf]
        have Hst : Hid (∀ e w', e = .returned (.tuple #[.slice none 0 0, .int .i64 (plc l.length a x)]) ∧ w = w' → Stored w l a x v e w') := by
          rintro e w' ⟨rfl, rfl⟩
          exact ⟨_, by rw [e0], Below.refl _ _, by rw [if_neg (by rw [e0]; exact hp)]; exact Row.nil _ _⟩
        refine Calls.mono ?_ Hst.out
        have Hf := Lib.hid hf
        have Hw := Lib.hid hw
        clear hf h5 h4 hby e0 Hst hw
        obtain ⟨p, hpp⟩ : ∃ p, p = plc l.length a x := ⟨_, rfl⟩
        rw [← hpp] at hp ⊢
        have Hp := Lib.hid hpp.symm
        have hne : (p == 0) = false := by simpa using hp
        clear hpp hp
        go_enter Try.func42, Try.ntmps42
        go_wp2_with (first
          | (go_at_call 48; refine (refWidth_any _ _).mono ?_; rintro e w' ⟨rfl, rfl⟩; rw [Hw.out])
          | (go_at_call 49; refine (refFits_any _ _ _ h0 h1).mono ?_; rintro e w' ⟨rfl, rfl⟩; rw [Hf.out])
          | (go_at_call 40; refine (refMay_yes _ _ _ _ Hw.out (by omega) (by omega)).mono ?_; rintro e w' ⟨rfl, rfl⟩; rw [Hp.out]))
        go_ret2
        exact ⟨rfl, rfl⟩
    · have hf' : fits v x = false := by simpa using hf
      have e0 : ste l a x v = 2 := by simp [ste, hf']
      have Hst : Hid (∀ e w', e = .returned (.tuple #[.slice none 0 0, .int .i64 2]) ∧ w = w' → Stored w l a x v e w') := by
        rintro e w' ⟨rfl, rfl⟩
        exact ⟨_, by rw [e0], Below.refl _ _, by rw [if_neg (by rw [e0]; decide)]; exact Row.nil _ _⟩
      refine Calls.mono ?_ Hst.out
      have Hf := Lib.hid hf'
      have Hw := Lib.hid hw
      clear hf hf' h5 h4 hby e0 Hst hw
      go_enter Try.func42, Try.ntmps42
      go_wp2_with (first
        | (go_at_call 48; refine (refWidth_any _ _).mono ?_; rintro e w' ⟨rfl, rfl⟩; rw [Hw.out])
        | (go_at_call 49; refine (refFits_any _ _ _ h0 h1).mono ?_; rintro e w' ⟨rfl, rfl⟩; rw [Hf.out]))
      go_ret2
      exact ⟨rfl, rfl⟩
  · have hw' : isW x = false := by simpa using hw
    have hf' : fits v x = false := by simp [fits, hw']
    have e0 : ste l a x v = 2 := by simp [ste, hf']
    have Hst : Hid (∀ e w', e = .returned (.tuple #[.slice none 0 0, .int .i64 2]) ∧ w = w' → Stored w l a x v e w') := by
      rintro e w' ⟨rfl, rfl⟩
      exact ⟨_, by rw [e0], Below.refl _ _, by rw [if_neg (by rw [e0]; decide)]; exact Row.nil _ _⟩
    refine Calls.mono ?_ Hst.out
    have Hw := Lib.hid hw'
    clear hf' h5 h4 hby e0 Hst hw hw'
    go_enter Try.func42, Try.ntmps42
    go_wp2_with (first
      | (go_at_call 48; refine (refWidth_any _ _).mono ?_; rintro e w' ⟨rfl, rfl⟩; rw [Hw.out])
      | (go_at_call 40; refine (refMay_no _ _ _ _ Hw.out).mono ?_; rintro e w' ⟨rfl, rfl⟩))
    go_ret2
    exact ⟨rfl, rfl⟩

end Go.Proofs.Ytncbfagmdldclaa.Num
