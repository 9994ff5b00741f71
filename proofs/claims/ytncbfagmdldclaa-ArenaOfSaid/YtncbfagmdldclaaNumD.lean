/- Contracts of num's Load, whatever it is given, and of the document's. -/
import Derived.Test.YtncbfagmdldclaaNumC
namespace Go.Proofs.Ytncbfagmdldclaa.Num
open Go.RowKit
set_option linter.unusedVariables false

/-- What Load answers. -/
def ldv (l : List Int) (a x : Int) : Int × Int :=
  if isW x then (if plc l.length a x = 0 then (le ((l.drop a.toNat).take x.toNat), 0) else (0, plc l.length a x)) else (0, 2)

theorem plc_ok {n a x : Int} (h : plc n a x = 0) : 0 ≤ a ∧ a ≤ n - x ∧ a % x = 0 := by
  unfold plc at h
  split at h
  · omega
  · split at h
    · omega
    · omega

theorem load_any (v : Value) (a x : Int) (l : List Int) (w : World) (hr : Row .u8 w v l) :
    Calls Try.prog 35 #[v, .int .i64 a, .int .i64 x] w
      fun e w' => e = .returned (.tuple #[.int .u64 (ldv l a x).1, .int .i64 (ldv l a x).2]) ∧ Below w.heap.size w w' := by
  have hby := hr.bytes
  obtain ⟨ad, cap, rfl, h2, h3, h4, h5⟩ := hr
  by_cases hw : isW x = true
  · obtain ⟨b1, b2⟩ := isW_bd hw
    by_cases hp : plc l.length a x = 0
    · obtain ⟨p1, p2, p3⟩ := plc_ok hp
      obtain ⟨b, off, rfl, hlt, hc⟩ := h5 (by rintro rfl; simp at p2; omega)
      obtain ⟨n, rfl⟩ := Int.eq_ofNat_of_zero_le p1
      have e : ldv l n x = (le ((l.drop n).take x.toNat), 0) := by simp [ldv, hw, hp]
      rw [e]
      rcases isW_cases hw with rfl | rfl | rfl | rfl
      · exact load_ok1 b off cap l n w h2 h3 hc hby hp (by omega) hlt
      · exact load_ok2 b off cap l n w h2 h3 hc hby hp (by omega) hlt
      · exact load_ok4 b off cap l n w h2 h3 hc hby hp (by omega) hlt
      · exact load_ok8 b off cap l n w h2 h3 hc hby hp (by omega) hlt
    · have e : ldv l a x = (0, plc l.length a x) := by simp [ldv, hw, hp]
      rw [e]
      have Hw := Lib.hid hw
      clear hw h5 h4 hby e
      obtain ⟨p, hpp⟩ : ∃ p, p = plc l.length a x := ⟨_, rfl⟩
      rw [← hpp] at hp ⊢
      have Hp := Lib.hid hpp.symm
      have hne : (p == 0) = false := by simpa using hp
      clear hpp hp
      go_enter Try.func35, Try.ntmps35
      go_wp2_with (first
        | (go_at_call 43; refine (isWidth_any _ _).mono ?_; rintro e w' ⟨rfl, rfl⟩; rw [Hw.out])
        | (go_at_call 44; refine (placed_any _ _ _ _ (by omega) (by omega) (by omega) (by omega)).mono ?_; rintro e w' ⟨rfl, rfl⟩; rw [Hp.out]))
      go_ret2
      exact ⟨rfl, Below.refl _ _⟩
  · have h : isW x = false := by simpa using hw
    have e : ldv l a x = (0, 2) := by simp [ldv, h]
    rw [e]
    have Hw := Lib.hid h
    clear hw h h5 h4 hby e
    go_enter Try.func35, Try.ntmps35
    go_wp2_with (first
      | (go_at_call 43; refine (isWidth_any _ _).mono ?_; rintro e w' ⟨rfl, rfl⟩; rw [Hw.out]))
    go_ret2
    exact ⟨rfl, Below.refl _ _⟩

theorem le_cons (b : Int) (r : List Int) : le (b :: r) = b + 256 * le r := rfl
theorem le_bd : ∀ (l : List Int), (∀ i, 0 ≤ l.getD i 0 ∧ l.getD i 0 < 256) → 0 ≤ le l ∧ le l < 256 ^ l.length := by
  intro l
  induction l with
  | nil => intro _; simp [le]
  | cons b r ih =>
    intro h
    have h0 := h 0
    have hr := ih (fun i => by have := h (i + 1); simpa using this)
    simp only [List.getD_cons_zero] at h0
    rw [le_cons, List.length_cons, Int.pow_succ]
    omega

theorem drop_getD (l : List Int) (n i : Nat) : (l.drop n).getD i 0 = l.getD (n + i) 0 := by simp [List.getD]
theorem take_getD (l : List Int) (n i : Nat) (h : i < n) : (l.take n).getD i 0 = l.getD i 0 := by simp [List.getD, h]

set_option maxRecDepth 100000 in
theorem refLoad_any (v : Value) (a x : Int) (l : List Int) (w : World) (hr : Row .u8 w v l) :
    Calls Try.prog 25 #[v, .int .i64 a, .int .i64 x] w
      fun e w' => e = .returned (.tuple #[.int .u64 (ldv l a x).1, .int .i64 (ldv l a x).2]) ∧ w = w' := by
  have hby := hr.bytes
  obtain ⟨ad, cap, rfl, h2, h3, h4, h5⟩ := hr
  by_cases hw : isW x = true
  · obtain ⟨b1, b2⟩ := isW_bd hw
    by_cases hp : plc l.length a x = 0
    · obtain ⟨p1, p2, p3⟩ := plc_ok hp
      obtain ⟨b, off, rfl, hlt, hc⟩ := h5 (by rintro rfl; simp at p2; omega)
      obtain ⟨m, rfl⟩ := Int.eq_ofNat_of_zero_le p1
      obtain ⟨n, rfl⟩ := Int.eq_ofNat_of_zero_le (show 0 ≤ x by omega)
      have e : ldv l m n = (le ((l.drop m).take n), 0) := by simp [ldv, hw, hp]
      rw [e]
      have Hw := Lib.hid hw
      have Hp := Lib.hid hp
      have HC := Lib.hid hc
      have HB := Lib.hid hby
      clear hw hp hc hby h5 h4 e p3
      go_enter Try.func25, Try.ntmps25
      go_wp2_with (first
        | (go_at_call 40; refine (refMay_yes _ _ _ _ Hw.out (by omega) (by omega)).mono ?_; rintro e w' ⟨rfl, rfl⟩; rw [Hp.out]))
      go_loop [9, 10] (fun acc i => ∃ k : Nat, k ≤ n ∧ i = .int .i64 ((k : Int) - 1) ∧ acc = .int .u64 (le ((l.drop (m + k)).take (n - k)))) (fun _ i => (intOf i + 1).toNat)
      case atStart => exact ⟨n, by omega, rfl, by simp [le]⟩
      case round =>
        obtain ⟨k, hk, rfl, rfl⟩ := hrel
        match k, hk with
        | 0, _ =>
          rw [show ((0 : Nat) : Int) - 1 = -1 from rfl]
          go_wp2
          go_ret2
          exact ⟨by simp, rfl⟩
        | j + 1, hk =>
          rw [show ((j + 1 : Nat) : Int) - 1 = (j : Int) from by omega]
          have hcell := HC.out (m + j) (by omega)
          have hbj := HB.out (m + j)
          obtain ⟨hb1, hb2⟩ := hbj
          have hacc := le_bd ((l.drop (m + (j + 1))).take (n - (j + 1))) (fun i => by
            by_cases hi : i < n - (j + 1)
            · rw [take_getD _ _ _ hi, drop_getD]; exact HB.out _
            · simp [List.getD, List.getElem?_take, hi])
          have hlen : (256 : Int) ^ ((l.drop (m + (j + 1))).take (n - (j + 1))).length ≤ 256 ^ 7 := by
            have := List.length_take_le (n - (j + 1)) (l.drop (m + (j + 1)))
            exact_mod_cast Nat.pow_le_pow_right (by omega) (by omega)
          have hstep : Hid (le ((l.drop (m + j)).take (n - j)) = l.getD (m + j) 0 + 256 * le ((l.drop (m + (j + 1))).take (n - (j + 1)))) := by
            unfold Hid
            rw [show n - j = (n - (j + 1)) + 1 from by omega, take_drop_cons l (m + j) _ (by omega), le_cons]
            rfl
          obtain ⟨acc, hacce⟩ : ∃ acc, acc = le ((l.drop (m + (j + 1))).take (n - (j + 1))) := ⟨_, rfl⟩
          obtain ⟨bj, hbje⟩ : ∃ bj, bj = l.getD (m + j) 0 := ⟨_, rfl⟩
          rw [← hacce] at hacc hstep ⊢
          rw [← hbje] at hstep hcell hb1 hb2
          obtain ⟨ha1, ha2⟩ := hacc
          have ha3 : acc < 72057594037927936 := by
            have : (256 : Int) ^ 7 = 72057594037927936 := by decide
            omega
          clear hacce hbje ha2 hlen
          have hmj : (m : Int) + (j : Int) < (l.length : Int) := by omega
          go_wp2
          go_round
          case rel => exact ⟨j, by omega, rfl, by rw [hstep.out]; go_num⟩
          case measure => simp [intOf]
    · have e : ldv l a x = (0, plc l.length a x) := by simp [ldv, hw, hp]
      rw [e]
      have Hw := Lib.hid hw
      clear hw h5 h4 hby e
      obtain ⟨p, hpp⟩ : ∃ p, p = plc l.length a x := ⟨_, rfl⟩
      rw [← hpp] at hp ⊢
      have Hp := Lib.hid hpp.symm
      have hne : (p == 0) = false := by simpa using hp
      clear hpp hp
      go_enter Try.func25, Try.ntmps25
      go_wp2_with (first
        | (go_at_call 40; refine (refMay_yes _ _ _ _ Hw.out (by omega) (by omega)).mono ?_; rintro e w' ⟨rfl, rfl⟩; rw [Hp.out]))
      go_ret2
      exact ⟨rfl, rfl⟩
  · have h : isW x = false := by simpa using hw
    have e : ldv l a x = (0, 2) := by simp [ldv, h]
    rw [e]
    have Hw := Lib.hid h
    clear hw h h5 h4 hby e
    go_enter Try.func25, Try.ntmps25
    go_wp2_with (first
      | (go_at_call 40; refine (refMay_no _ _ _ _ Hw.out).mono ?_; rintro e w' ⟨rfl, rfl⟩))
    go_ret2
    exact ⟨rfl, rfl⟩
end Go.Proofs.Ytncbfagmdldclaa.Num
