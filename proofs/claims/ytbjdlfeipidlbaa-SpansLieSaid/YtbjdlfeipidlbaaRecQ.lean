/- Contracts of the landed small functions of records, and of what they call of the library. -/
import Derived.Test.YtbjdlfeipidlbaaRecL
import Derived.Test.YtbjdlfeipidlbaaNumE
import Derived.Test.YtbjdlfeipidlbaaNumD
namespace Go.Proofs.Ytbjdlfeipidlbaa.Rec
open Go.RowKit
set_option linter.unusedVariables false

theorem isCount_any (n : Int) (w : World) :
    Calls Try.prog 35 #[.int .i64 n] w fun e w' => e = .returned (.bool (decide (1 ≤ n) && decide (n ≤ 16))) ∧ w = w' := by
  by_cases h1 : 1 ≤ n
  · by_cases h2 : n ≤ 16
    · go_enter Try.func35, Try.ntmps35
      go_wp2
      go_ret
      exact ⟨ret_bool (by simp [h1, h2]), rfl⟩
    · go_enter Try.func35, Try.ntmps35
      go_wp2
      go_ret
      exact ⟨ret_bool (by simp [h1, h2]), rfl⟩
  · go_enter Try.func35, Try.ntmps35
    go_wp2
    go_ret
    exact ⟨ret_bool (by simp; omega), rfl⟩

theorem endAt_any (i j : Nat) (w : World) (h : i ≤ 1000000000) (hj : 2 + 2 * i = j) :
    Calls Try.prog 30 #[.int .i64 i] w fun e w' => e = .returned (.int .i64 j) ∧ w = w' := by
  have w1 : IntKind.i64.wrap ((i : Int) * 2) = ((2 * i : Nat) : Int) := (wrap_id (by omega) (by omega)).trans (by omega)
  have w2 : IntKind.i64.wrap (2 + ((2 * i : Nat) : Int)) = (j : Int) := (wrap_id (by omega) (by omega)).trans (by omega)
  obtain ⟨q, hq⟩ : ∃ q, q = 2 * i := ⟨_, rfl⟩
  rw [← hq] at w1 w2
  clear hq hj
  go_enter Try.func30, Try.ntmps30
  go_wp2
  go_ret
  exact ⟨rfl, rfl⟩

theorem sizeOne_any (v : Value) (l : List Int) (w : World) (hr : Row .u8 w v l) (h : l.length ≤ 1000000000) :
    Calls Try.prog 37 #[v] w fun e w' => e = .returned (.int .i64 ((2 + l.length : Nat) : Int)) ∧ w = w' := by
  obtain ⟨a, cap, rfl, -, -, -, -⟩ := hr
  go_enter Try.func37, Try.ntmps37
  go_wp2
  go_ret
  exact ⟨ret_int (by omega), rfl⟩

set_option maxRecDepth 100000 in
theorem sum_any (v : Value) (L : List (List Int)) (w : World) (hr : QRow w v L) (hl : L.length ≤ 1000) (hd : dat L ≤ 1000000) :
    Calls Try.prog 36 #[v, .func (.func 37) #[] #[]] w fun e w' => e = .returned (.int .i64 ((2 * L.length + dat L : Nat) : Int)) ∧ w = w' := by
  obtain ⟨ad, cap, U, rfl, q2, q3, q4, q5⟩ := hr
  have HC := Lib.hid q5
  have HS := Lib.hid q4
  clear q4 q5
  go_enter Try.func36, Try.ntmps36
  go_wp2
  go_loop [5, 10] (fun n i => ∃ (k m : Nat), k ≤ L.length ∧ i = .int .i64 k ∧ n = .int .i64 m ∧ m ≤ 1002000 ∧ Hid (m = 2 * k + dat (L.take k))) (fun _ i => L.length - (intOf i).toNat)
  case atStart => exact ⟨0, 0, Nat.zero_le _, rfl, rfl, by omega, rfl⟩
  case round =>
    obtain ⟨k, m, hk, rfl, rfl, hm, HM⟩ := hrel
    by_cases hlt : k < L.length
    · have hlt1 : (k : Int) < (L.length : Int) := by omega
      obtain ⟨b, off, rfl, hlb, hc⟩ := HC.out (by rintro rfl; simp at hlt)
      have hcell := hc k hlt
      have hs := HS.out k hlt
      have h1 := dat_take_succ L k hlt
      have h2 := dat_get L k hlt
      have h3 := dat_take_le L (k + 1)
      have h4 := HM.out
      obtain ⟨x, hx⟩ : ∃ x, x = L.getD k [] := ⟨_, rfl⟩
      rw [← hx] at hs h1 h2
      obtain ⟨V, hV⟩ : ∃ V, V = U k := ⟨_, rfl⟩
      rw [← hV] at hcell hs
      have hS := Lib.hid (sizeOne_any V x w hs (by omega))
      obtain ⟨s, hs2⟩ : ∃ s, s = 2 + x.length := ⟨_, rfl⟩
      obtain ⟨D, hD⟩ : ∃ D, D = dat (L.take (k + 1)) := ⟨_, rfl⟩
      rw [← hD] at h1 h3
      have HD := Lib.hid hD
      rw [← hs2] at hS
      have hm2 : m + s ≤ 1002000 := by omega
      have HM2 : Hid (m + s = 2 * (k + 1) + D) := by unfold Hid; omega
      obtain ⟨p, hp⟩ : ∃ p, p = m + s := ⟨_, rfl⟩
      have w1 : IntKind.i64.wrap ((m : Int) + (s : Int)) = (p : Int) := (wrap_id (by omega) (by omega)).trans (by omega)
      rw [← hp] at hm2 HM2
      clear hc hx h1 h2 h3 h4 HM hV hD hs hs2 hp
      go_wp2_with fail
      refine hS.out.mono ?_
      rintro e w' ⟨rfl, rfl⟩
      go_wp2
      go_round
      case rel => exact ⟨k + 1, p, by omega, by go_num, rfl, hm2, by rw [← HD.out]; exact HM2⟩
      case measure => simp [intOf]; omega
    · obtain rfl : k = L.length := by omega
      have h4 := HM.out
      rw [List.take_length] at h4
      have H4 := Lib.hid h4
      clear h4 HM
      go_wp2
      go_ret
      exact ⟨ret_int (by rw [H4.out]; omega), rfl⟩

set_option maxRecDepth 100000 in
theorem size_any (v : Value) (L : List (List Int)) (w : World) (hr : QRow w v L) (hd : dat L ≤ 1000000) :
    Calls Try.prog 29 #[v] w fun e w' => e = .returned (.tuple #[.int .i64 (szN L), .int .i64 (szE L)]) ∧ w = w' := by
  have HR := Lib.hid hr
  obtain ⟨ad, cap, U, rfl, q2, q3, q4, q5⟩ := hr
  clear q4 q5
  by_cases hn : L.length < 1 ∨ 16 < L.length
  · have HE := Lib.hid (szE_arg hn)
    have hc : (decide ((1 : Int) ≤ (L.length : Int)) && decide ((L.length : Int) ≤ 16)) = false := by
      rw [Bool.and_eq_false_iff, decide_eq_false_iff_not, decide_eq_false_iff_not]; omega
    have HI := Lib.hid (isCount_any (L.length : Int) w)
    rw [hc] at HI
    clear hn hc
    go_enter Try.func29, Try.ntmps29
    go_wp2_with fail
    refine HI.out.mono ?_
    rintro e w' ⟨rfl, rfl⟩
    go_wp2
    go_ret2
    exact ⟨ret_ints (by rw [HE.out.2]; rfl) HE.out.1.symm, rfl⟩
  · have hc : (decide ((1 : Int) ≤ (L.length : Int)) && decide ((L.length : Int) ≤ 16)) = true := by
      rw [Bool.and_eq_true, decide_eq_true_eq, decide_eq_true_eq]; omega
    have HI := Lib.hid (isCount_any (L.length : Int) w)
    rw [hc] at HI
    have HB := Lib.hid (szE_big hn)
    have HO := Lib.hid (szE_ok hn)
    have HS := Lib.hid (sum_any _ L w HR.out (by omega) hd)
    obtain ⟨s, hs⟩ : ∃ s, s = 2 * L.length + dat L := ⟨_, rfl⟩
    rw [← hs] at HS
    have hz : szL L = 2 + s := by rw [hs]; unfold szL; omega
    have hs2 : s ≤ 1000100 := by omega
    rw [hz] at HB HO
    clear hn hc hs hz
    have HQ := Lib.hid (fun (h : 480 < 2 + s) => HB.out h)
    by_cases hb : 480 < 2 + s
    · have HE := Lib.hid (HB.out hb)
      have hb2 : (480 : Int) < 2 + (s : Int) := by omega
      clear HB HO HQ
      go_enter Try.func29, Try.ntmps29
      go_wp2_with fail
      refine HI.out.mono ?_
      rintro e w' ⟨rfl, rfl⟩
      go_wp2_with fail
      refine HS.out.mono ?_
      rintro e w' ⟨rfl, rfl⟩
      go_wp2
      go_ret2
      exact ⟨ret_ints (by rw [HE.out.2]; rfl) HE.out.1.symm, rfl⟩
    · have HE := Lib.hid (HO.out hb)
      have hb2 : ¬ (480 : Int) < 2 + (s : Int) := by omega
      clear HB HO HQ
      go_enter Try.func29, Try.ntmps29
      go_wp2_with fail
      refine HI.out.mono ?_
      rintro e w' ⟨rfl, rfl⟩
      go_wp2_with fail
      refine HS.out.mono ?_
      rintro e w' ⟨rfl, rfl⟩
      go_wp2
      go_ret2
      exact ⟨ret_ints (by rw [HE.out.2]; omega) HE.out.1.symm, rfl⟩

end Go.Proofs.Ytbjdlfeipidlbaa.Rec
