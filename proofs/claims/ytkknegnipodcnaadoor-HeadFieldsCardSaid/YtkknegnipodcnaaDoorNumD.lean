/- Contracts of num's Load, whatever it is given, and of the document's. -/
import Derived.Test.YtkknegnipodcnaaDoorNumC
namespace Go.Proofs.YtkknegnipodcnaaDoor.Num
open Go.RowKit
set_option linter.unusedVariables false

/-- What Load answers. -/
def ldv (l : List Int) (a x : Int) : Int × Int :=
  if isW x then (if plc l.length a x = 0 then (le ((l.drop a.toNat).take x.toNat), 0) else (0, plc l.length a x)) else (0, 2)

theorem plc_ok {n a x : Int} (h : plc n a x = 0) : 0 ≤ a ∧ a ≤ n - x ∧ a % x = 0 := by
  unfold plc at h
  split at h
  · omega
  · split at h
    · omega
    · omega

theorem load_any (v : Value) (a x : Int) (l : List Int) (w : World) (hr : Row .u8 w v l) :
    Calls Tryd.prog 59 #[v, .int .i64 a, .int .i64 x] w
      fun e w' => e = .returned (.tuple #[.int .u64 (ldv l a x).1, .int .i64 (ldv l a x).2]) ∧ Below w.heap.size w w' := by
  have hby := hr.bytes
  obtain ⟨ad, cap, rfl, h2, h3, h4, h5⟩ := hr
  by_cases hw : isW x = true
  · obtain ⟨b1, b2⟩ := isW_bd hw
    by_cases hp : plc l.length a x = 0
    · obtain ⟨p1, p2, p3⟩ := plc_ok hp
      obtain ⟨b, off, rfl, hlt, hc⟩ := h5 (by rintro rfl; simp at p2; omega)
      obtain ⟨n, rfl⟩ := Int.eq_ofNat_of_zero_le p1
      have e : ldv l n x = (le ((l.drop n).take x.toNat), 0) := by simp [ldv, hw, hp]
      rw [e]
      rcases isW_cases hw with rfl | rfl | rfl | rfl
      · exact load_ok1 b off cap l n w h2 h3 hc hby hp (by omega) hlt
      · exact load_ok2 b off cap l n w h2 h3 hc hby hp (by omega) hlt
      · exact load_ok4 b off cap l n w h2 h3 hc hby hp (by omega) hlt
      · exact load_ok8 b off cap l n w h2 h3 hc hby hp (by omega) hlt
    · have e : ldv l a x = (0, plc l.length a x) := by simp [ldv, hw, hp]
      rw [e]
      have Hw := Lib.hid hw
      clear hw h5 h4 hby e
      obtain ⟨p, hpp⟩ : ∃ p, p = plc l.length a x := ⟨_, rfl⟩
      rw [← hpp] at hp ⊢
      have Hp := Lib.hid hpp.symm
      have hne : (p == 0) = false := by simpa using hp
      clear hpp hp
      go_enter Tryd.func59, Tryd.ntmps59
      go_wp2_with (first
        | (go_at_call 77; refine (isWidth_any _ _).mono ?_; rintro e w' ⟨rfl, rfl⟩; rw [Hw.out])
        | (go_at_call 54; refine (placed_any _ _ _ _ (by omega) (by omega) (by omega) (by omega)).mono ?_; rintro e w' ⟨rfl, rfl⟩; rw [Hp.out]))
      go_ret2
      exact ⟨rfl, Below.refl _ _⟩
  · have h : isW x = false := by simpa using hw
    have e : ldv l a x = (0, 2) := by simp [ldv, h]
    rw [e]
    have Hw := Lib.hid h
    clear hw h h5 h4 hby e
    go_enter Tryd.func59, Tryd.ntmps59
    go_wp2_with (first
      | (go_at_call 77; refine (isWidth_any _ _).mono ?_; rintro e w' ⟨rfl, rfl⟩; rw [Hw.out]))
    go_ret2
    exact ⟨rfl, Below.refl _ _⟩

theorem le_cons (b : Int) (r : List Int) : le (b :: r) = b + 256 * le r := rfl
theorem le_bd : ∀ (l : List Int), (∀ i, 0 ≤ l.getD i 0 ∧ l.getD i 0 < 256) → 0 ≤ le l ∧ le l < 256 ^ l.length := by
  intro l
  induction l with
  | nil => intro _; simp [le]
  | cons b r ih =>
    intro h
    have h0 := h 0
    have hr := ih (fun i => by have := h (i + 1); simpa using this)
    simp only [List.getD_cons_zero] at h0
    rw [le_cons, List.length_cons, Int.pow_succ]
    omega

theorem drop_getD (l : List Int) (n i : Nat) : (l.drop n).getD i 0 = l.getD (n + i) 0 := by simp [List.getD]
theorem take_getD (l : List Int) (n i : Nat) (h : i < n) : (l.take n).getD i 0 = l.getD i 0 := by simp [List.getD, h]

end Go.Proofs.YtkknegnipodcnaaDoor.Num
