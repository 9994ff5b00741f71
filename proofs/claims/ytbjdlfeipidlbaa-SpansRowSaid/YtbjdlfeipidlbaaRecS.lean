/- Contracts of the landed functions of records: IsSorted, filled, readEnds. -/
import Derived.Test.YtbjdlfeipidlbaaRecR
namespace Go.Proofs.Ytbjdlfeipidlbaa.Rec
open Go.RowKit
set_option linter.unusedVariables false

def ints (E : List Nat) : List Int := E.map fun (e : Nat) => (e : Int)
theorem ints_length (E : List Nat) : (ints E).length = E.length := by simp [ints]
theorem ints_get (E : List Nat) (i : Nat) (h : i < E.length) : (ints E).getD i 0 = ((E.getD i 0 : Nat) : Int) := by simp [ints, List.getD, h]

theorem isNaN_any (x : Int) (w : World) : Calls Try.prog 47 #[.int .i64 x] w fun e w' => e = .returned (.bool false) ∧ w = w' := by
  go_enter Try.func47, Try.ntmps47
  go_wp2
  go_ret
  exact ⟨ret_bool (by simp), rfl⟩
theorem less_any (x y : Int) (w : World) : Calls Try.prog 46 #[.int .i64 x, .int .i64 y] w fun e w' => e = .returned (.bool (decide (x < y))) ∧ w' = w := by
  go_enter Try.func46, Try.ntmps46
  go_wp2_with fail
  refine (isNaN_any _ _).mono ?_
  rintro e w' ⟨rfl, rfl⟩
  by_cases h : x < y
  · go_wp2
    go_ret
    exact ⟨ret_bool (by simp [h]), rfl⟩
  · go_wp2
    go_ret
    exact ⟨ret_bool (by simp [h]), rfl⟩

theorem rises_iff (n : Nat) (E : List Nat) : rises n E = true ↔ (0 < E.length → n ≤ E.getD 0 0) ∧ ∀ j, j + 1 < E.length → E.getD j 0 ≤ E.getD (j + 1) 0 := by
  induction E generalizing n with
  | nil => simp [rises]
  | cons x r ih =>
    rw [rises, Bool.and_eq_true, decide_eq_true_eq, ih]
    constructor
    · rintro ⟨h1, h2, h3⟩
      refine ⟨fun _ => h1, fun j hj => ?_⟩
      cases j with
      | zero => simpa using h2 (by simpa using hj)
      | succ j => simpa using h3 j (by simpa using hj)
    · rintro ⟨h1, h2⟩
      refine ⟨h1 (by simp), fun h => ?_, fun j hj => ?_⟩
      · simpa using h2 0 (by simpa using h)
      · simpa using h2 (j + 1) (by simpa using hj)
theorem rises_yes {E : List Nat} (h : ∀ j, j + 1 < E.length → E.getD j 0 ≤ E.getD (j + 1) 0) : rises 0 E = true := (rises_iff 0 E).2 ⟨fun _ => Nat.zero_le _, h⟩
theorem rises_no {E : List Nat} (j : Nat) (hj : j + 1 < E.length) (h : E.getD (j + 1) 0 < E.getD j 0) : rises 0 E = false := by
  by_cases e : rises 0 E = true
  · have := ((rises_iff 0 E).1 e).2 j hj
    omega
  · simpa using e

set_option maxRecDepth 100000 in
theorem isSorted_any (v : Value) (E : List Nat) (w : World) (hr : Row .i64 w v (ints E)) (hl : E.length ≤ 1000) :
    Calls Try.prog 42 #[v] w fun e w' => e = .returned (.bool (rises 0 E)) ∧ ∃ m, w' = w.drewN m := by
  obtain ⟨ad, cap, rfl, q2, q3, q4, q5⟩ := hr
  rw [ints_length] at q2 q5
  rw [ints_length]
  have HQ := Lib.hid q5
  have HY := Lib.hid (rises_yes (E := E))
  have HN := Lib.hid (rises_no (E := E))
  clear q4 q5
  by_cases h0 : E.length = 0
  · have HR := Lib.hid (HY.out (fun j hj => by omega))
    have e0 : E.length = 0 := h0
    rw [h0] at q2 ⊢
    clear h0 e0 HQ HY HN
    go_enter Try.func42, Try.ntmps42
    go_wp2
    go_loopw [3] (fun i wr => i = .int .i64 (-1) ∧ Hid (∃ m, wr = w.drewN m)) (fun _ _ => 0)
    case atStart => exact ⟨rfl, 0, rfl⟩
    case round =>
      obtain ⟨rfl, HW⟩ := hrel
      go_wp2
      go_ret
      exact ⟨ret_bool HR.out.symm, HW.out⟩
  · obtain ⟨b, off, rfl, hlb, hc⟩ := HQ.out (by intro e; rw [ints, List.map_eq_nil_iff] at e; rw [e] at h0; simp at h0)
    have HC := Lib.hid hc
    obtain ⟨n, hn⟩ : ∃ n, n = E.length := ⟨_, rfl⟩
    have HLn := Lib.hid hn
    rw [← hn] at h0 hl q2 ⊢
    obtain ⟨t, ht⟩ : ∃ t, t = n - 1 := ⟨_, rfl⟩
    have w1 : IntKind.i64.wrap ((n : Int) - 1) = (t : Int) := (wrap_id (by omega) (by omega)).trans (by omega)
    have htn : t + 1 = n := by omega
    have HTN := Lib.hid htn
    have htb : t ≤ 1000 := by omega
    clear hc HQ hn ht htn h0
    go_enter Try.func42, Try.ntmps42
    go_wp2
    go_loopw [3] (fun i wr => ∃ k : Nat, k ≤ t ∧ i = .int .i64 k ∧ Hid (∀ j, k ≤ j → j + 1 < E.length → E.getD j 0 ≤ E.getD (j + 1) 0) ∧ Hid (∃ m, wr = w.drewN m)) (fun i _ => (intOf i).toNat)
    case atStart => exact ⟨t, Nat.le_refl _, rfl, fun j h1 h2 => by have := HLn.out; have := HTN.out; omega, 0, rfl⟩
    case round =>
      obtain ⟨k, hk, rfl, HJ, HW⟩ := hrel
      by_cases hk0 : 0 < k
      · have i0 : (0 : Int) < (k : Int) := by omega
        obtain ⟨p, hp⟩ : ∃ p, p = k - 1 := ⟨_, rfl⟩
        have w2 : IntKind.i64.wrap ((k : Int) - 1) = (p : Int) := (wrap_id (by omega) (by omega)).trans (by omega)
        have hkn : (k : Int) < (n : Int) := by have := HTN.out; omega
        have hpn : (p : Int) < (n : Int) := by have := HTN.out; omega
        have z1 : (0 : Int) ≤ (k : Int) := by omega
        have z2 : (0 : Int) ≤ (p : Int) := by omega
        have hcl : ∀ i, i < E.length → wr.cell? ⟨b, off + i, none⟩ = some (.int .i64 ((E.getD i 0 : Nat) : Int)) := by
          intro i hi
          obtain ⟨m, rfl⟩ := HW.out
          rw [← ints_get E i hi]
          exact HC.out i hi
        have c1 := hcl k (by have := HLn.out; omega)
        have c2 := hcl p (by have := HLn.out; omega)
        have HX : Hid (∀ x y : Nat, x = E.getD k 0 → y = E.getD p 0 → (x < y → rises 0 E = false) ∧ (¬ x < y → ∀ j, p ≤ j → j + 1 < E.length → E.getD j 0 ≤ E.getD (j + 1) 0)) := by
          intro x y hx hy
          subst hx hy
          have hkp : p + 1 = k := by omega
          subst hkp
          refine ⟨fun h => HN.out p (by have := HLn.out; omega) h, fun h j h1 h2 => ?_⟩
          by_cases e : j = p
          · subst e; omega
          · exact HJ.out j (by omega) h2
        obtain ⟨x, hx⟩ : ∃ x, x = E.getD k 0 := ⟨_, rfl⟩
        obtain ⟨y, hy⟩ : ∃ y, y = E.getD p 0 := ⟨_, rfl⟩
        rw [← hx] at c1
        rw [← hy] at c2
        have HX2 := Lib.hid (HX.out x y hx hy)
        have hpk : p ≤ t := by omega
        have hmeas : p < k := by omega
        clear hx hy HX HJ hcl hp
        by_cases hxy : x < y
        · have hlt : ((x : Int) < (y : Int)) := by omega
          have hd : decide ((x : Int) < (y : Int)) = true := by simpa using hlt
          have HF := Lib.hid (HX2.out.1 hxy)
          have HL := Lib.hid (less_any (x : Int) (y : Int))
          rw [hd] at HL
          clear HX2 hxy
          go_wp2_with fail
          go_quiet ((go_at_call 46; exact Calls.quiet_of_same (HL.out _)))
          go_wp2
          go_ret
          exact ⟨ret_bool HF.out.symm, drewN_more HW.out _⟩
        · have hlt : ¬ ((x : Int) < (y : Int)) := by omega
          have hd : decide ((x : Int) < (y : Int)) = false := by simpa using hlt
          have HF := Lib.hid (HX2.out.2 hxy)
          have HL := Lib.hid (less_any (x : Int) (y : Int))
          rw [hd] at HL
          clear HX2 hxy
          go_wp2_with fail
          go_quiet ((go_at_call 46; exact Calls.quiet_of_same (HL.out _)))
          go_wp2
          go_roundw
          case rel => exact ⟨p, hpk, rfl, HF, drewN_more HW.out _⟩
          case measure => simp [intOf]; omega
      · have hkk : k = 0 := by omega
        subst hkk
        have HR := Lib.hid (HY.out (fun j hj => HJ.out j (Nat.zero_le _) hj))
        go_wp2
        go_ret
        exact ⟨ret_bool HR.out.symm, HW.out⟩

/-- Why bytes of some length aren't what ends ask for. -/
def fillE (len size : Nat) : Int := if len < size then 3 else if size < len ∨ 480 < len then 4 else 0

set_option maxRecDepth 100000 in
theorem filled_any (v u : Value) (l : List Int) (E : List Nat) (n Z : Nat) (w : World) (hv : Row .u8 w v l) (hr : Row .i64 w u (ints E)) (hn : E.length = n) (h1 : 1 ≤ n) (h16 : n ≤ 16) (hZ : E.getD (n - 1) 0 = Z) (hZ2 : Z < 65536) :
    Calls Try.prog 33 #[v, u] w fun e w' => e = .returned (.int .i64 (fillE l.length (2 + 2 * n + Z))) ∧ ∃ m, w' = w.drewN m := by
  obtain ⟨ad0, cap0, rfl, k2, k3, -, -⟩ := hv
  obtain ⟨ad, cap, rfl, q2, q3, q4, q5⟩ := hr
  rw [ints_length, hn] at q2
  rw [ints_length, hn] at q5
  rw [ints_length, hn]
  obtain ⟨t, ht⟩ : ∃ t, t = n - 1 := ⟨_, rfl⟩
  rw [← ht] at hZ
  obtain ⟨b, off, rfl, hlb, hc⟩ := q5 (by intro e; rw [ints, List.map_eq_nil_iff] at e; rw [e] at hn; simp at hn; omega)
  have c1 := hc t (by omega)
  rw [ints_get E t (by omega), hZ] at c1
  have HW : Hid (∃ m, w = w.drewN m) := ⟨0, rfl⟩
  have w1 : IntKind.i64.wrap ((n : Int) - 1) = (t : Int) := (wrap_id (by omega) (by omega)).trans (by omega)
  obtain ⟨s, hs⟩ : ∃ s, s = 2 + 2 * n := ⟨_, rfl⟩
  have HA := Lib.hid (fun w0 => endAt_any n s w0 (by omega) hs.symm)
  obtain ⟨S, hS⟩ : ∃ S, S = 2 + 2 * n + Z := ⟨_, rfl⟩
  have w2 : IntKind.i64.wrap ((s : Int) + (Z : Int)) = (S : Int) := (wrap_id (by omega) (by omega)).trans (by omega)
  have hS2 : S < 100000 := by omega
  have htn : (t : Int) < (n : Int) := by omega
  have z1 : (0 : Int) ≤ (t : Int) := by omega
  rw [← hS]
  clear hc hS q4 q5 hZ ht hs hn
  by_cases g1 : l.length < S
  · have HE : Hid (fillE l.length S = 3) := by unfold Hid fillE; rw [if_pos g1]
    have i1 : (l.length : Int) < (S : Int) := by omega
    clear g1
    go_enter Try.func33, Try.ntmps33
    go_wp2_with fail
    go_quiet ((go_at_call 30; exact Calls.quiet_of_same ((HA.out _).mono (by rintro e w' ⟨rfl, rfl⟩; exact ⟨rfl, rfl⟩))))
    go_wp2
    go_ret
    exact ⟨ret_int HE.out.symm, drewN_more HW.out _⟩
  · have i1 : ¬ (l.length : Int) < (S : Int) := by omega
    by_cases g2 : S < l.length ∨ 480 < l.length
    · have HE : Hid (fillE l.length S = 4) := by unfold Hid fillE; rw [if_neg g1, if_pos g2]
      have hcase : (S : Int) < (l.length : Int) ∨ (¬ (S : Int) < (l.length : Int) ∧ (480 : Int) < (S : Int)) := by omega
      clear g1 g2
      rcases hcase with i2 | ⟨i2, i3⟩
      all_goals
        go_enter Try.func33, Try.ntmps33
        go_wp2_with fail
        go_quiet ((go_at_call 30; exact Calls.quiet_of_same ((HA.out _).mono (by rintro e w' ⟨rfl, rfl⟩; exact ⟨rfl, rfl⟩))))
        go_wp2
        go_ret
        exact ⟨ret_int HE.out.symm, drewN_more HW.out _⟩
    · have HE : Hid (fillE l.length S = 0) := by unfold Hid fillE; rw [if_neg g1, if_neg g2]
      have i2 : ¬ (S : Int) < (l.length : Int) := by omega
      have i3 : ¬ (480 : Int) < (S : Int) := by omega
      clear g1 g2
      go_enter Try.func33, Try.ntmps33
      go_wp2_with fail
      go_quiet ((go_at_call 30; exact Calls.quiet_of_same ((HA.out _).mono (by rintro e w' ⟨rfl, rfl⟩; exact ⟨rfl, rfl⟩))))
      go_wp2
      go_ret
      exact ⟨ret_int HE.out.symm, drewN_more HW.out _⟩
end Go.Proofs.Ytbjdlfeipidlbaa.Rec
