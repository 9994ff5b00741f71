/- Contracts of the landed small functions of records, and of what they call of the library. -/
import Derived.Test.YtmjklelajnadcaaRecL
import Derived.Test.YtmjklelajnadcaaNumE
import Derived.Test.YtmjklelajnadcaaNumD
namespace Go.Proofs.Ytmjklelajnadcaa.Rec
open Go.RowKit
set_option linter.unusedVariables false

theorem isCount_any (n : Int) (w : World) :
    Calls Try.prog 21 #[.int .i64 n] w fun e w' => e = .returned (.bool (decide (1 ≤ n) && decide (n ≤ 16))) ∧ w = w' := by
  by_cases h1 : 1 ≤ n
  · by_cases h2 : n ≤ 16
    · go_enter Try.func21, Try.ntmps21
      go_wp2
      go_ret
      exact ⟨ret_bool (by simp [h1, h2]), rfl⟩
    · go_enter Try.func21, Try.ntmps21
      go_wp2
      go_ret
      exact ⟨ret_bool (by simp [h1, h2]), rfl⟩
  · go_enter Try.func21, Try.ntmps21
    go_wp2
    go_ret
    exact ⟨ret_bool (by simp; omega), rfl⟩

theorem endAt_any (i j : Nat) (w : World) (h : i ≤ 1000000000) (hj : 2 + 2 * i = j) :
    Calls Try.prog 19 #[.int .i64 i] w fun e w' => e = .returned (.int .i64 j) ∧ w = w' := by
  have w1 : IntKind.i64.wrap ((i : Int) * 2) = ((2 * i : Nat) : Int) := (wrap_id (by omega) (by omega)).trans (by omega)
  have w2 : IntKind.i64.wrap (2 + ((2 * i : Nat) : Int)) = (j : Int) := (wrap_id (by omega) (by omega)).trans (by omega)
  obtain ⟨q, hq⟩ : ∃ q, q = 2 * i := ⟨_, rfl⟩
  rw [← hq] at w1 w2
  clear hq hj
  go_enter Try.func19, Try.ntmps19
  go_wp2
  go_ret
  exact ⟨rfl, rfl⟩

theorem sizeOne_any (v : Value) (l : List Int) (w : World) (hr : Row .u8 w v l) (h : l.length ≤ 1000000000) :
    Calls Try.prog 23 #[v] w fun e w' => e = .returned (.int .i64 ((2 + l.length : Nat) : Int)) ∧ w = w' := by
  obtain ⟨a, cap, rfl, -, -, -, -⟩ := hr
  go_enter Try.func23, Try.ntmps23
  go_wp2
  go_ret
  exact ⟨ret_int (by omega), rfl⟩

set_option maxRecDepth 100000 in
theorem sum_any (v : Value) (L : List (List Int)) (w : World) (hr : QRow w v L) (hl : L.length ≤ 1000) (hd : dat L ≤ 1000000) :
    Calls Try.prog 22 #[v, .func (.func 23) #[] #[]] w fun e w' => e = .returned (.int .i64 ((2 * L.length + dat L : Nat) : Int)) ∧ w = w' := by
  obtain ⟨ad, cap, U, rfl, q2, q3, q4, q5⟩ := hr
  have HC := Lib.hid q5
  have HS := Lib.hid q4
  clear q4 q5
  go_enter Try.func22, Try.ntmps22
  go_wp2
  go_loop [5, 10] (fun n i => ∃ (k m : Nat), k ≤ L.length ∧ i = .int .i64 k ∧ n = .int .i64 m ∧ m ≤ 1002000 ∧ Hid (m = 2 * k + dat (L.take k))) (fun _ i => L.length - (intOf i).toNat)
  case atStart => exact ⟨0, 0, Nat.zero_le _, rfl, rfl, by omega, rfl⟩
  case round =>
    obtain ⟨k, m, hk, rfl, rfl, hm, HM⟩ := hrel
    by_cases hlt : k < L.length
    · have hlt1 : (k : Int) < (L.length : Int) := by omega
      obtain ⟨b, off, rfl, hlb, hc⟩ := HC.out (by rintro rfl; simp at hlt)
      have hcell := hc k hlt
      have hs := HS.out k hlt
      have h1 := dat_take_succ L k hlt
      have h2 := dat_get L k hlt
      have h3 := dat_take_le L (k + 1)
      have h4 := HM.out
      obtain ⟨x, hx⟩ : ∃ x, x = L.getD k [] := ⟨_, rfl⟩
      rw [← hx] at hs h1 h2
      obtain ⟨V, hV⟩ : ∃ V, V = U k := ⟨_, rfl⟩
      rw [← hV] at hcell hs
      have hS := Lib.hid (sizeOne_any V x w hs (by omega))
      obtain ⟨s, hs2⟩ : ∃ s, s = 2 + x.length := ⟨_, rfl⟩
      obtain ⟨D, hD⟩ : ∃ D, D = dat (L.take (k + 1)) := ⟨_, rfl⟩
      rw [← hD] at h1 h3
      have HD := Lib.hid hD
      rw [← hs2] at hS
      have hm2 : m + s ≤ 1002000 := by omega
      have HM2 : Hid (m + s = 2 * (k + 1) + D) := by unfold Hid; omega
      obtain ⟨p, hp⟩ : ∃ p, p = m + s := ⟨_, rfl⟩
      have w1 : IntKind.i64.wrap ((m : Int) + (s : Int)) = (p : Int) := (wrap_id (by omega) (by omega)).trans (by omega)
      rw [← hp] at hm2 HM2
      clear hc hx h1 h2 h3 h4 HM hV hD hs hs2 hp
      go_wp2_with fail
      refine hS.out.mono ?_
      rintro e w' ⟨rfl, rfl⟩
      go_wp2
      go_round
      case rel => exact ⟨k + 1, p, by omega, by go_num, rfl, hm2, by rw [← HD.out]; exact HM2⟩
      case measure => simp [intOf]; omega
    · obtain rfl : k = L.length := by omega
      have h4 := HM.out
      rw [List.take_length] at h4
      have H4 := Lib.hid h4
      clear h4 HM
      go_wp2
      go_ret
      exact ⟨ret_int (by rw [H4.out]; omega), rfl⟩

set_option maxRecDepth 100000 in
theorem size_any (v : Value) (L : List (List Int)) (w : World) (hr : QRow w v L) (hd : dat L ≤ 1000000) :
    Calls Try.prog 12 #[v] w fun e w' => e = .returned (.tuple #[.int .i64 (szN L), .int .i64 (szE L)]) ∧ w = w' := by
  have HR := Lib.hid hr
  obtain ⟨ad, cap, U, rfl, q2, q3, q4, q5⟩ := hr
  clear q4 q5
  by_cases hn : L.length < 1 ∨ 16 < L.length
  · have HE := Lib.hid (szE_arg hn)
    have hc : (decide ((1 : Int) ≤ (L.length : Int)) && decide ((L.length : Int) ≤ 16)) = false := by
      rw [Bool.and_eq_false_iff, decide_eq_false_iff_not, decide_eq_false_iff_not]; omega
    have HI := Lib.hid (isCount_any (L.length : Int) w)
    rw [hc] at HI
    clear hn hc
    go_enter Try.func12, Try.ntmps12
    go_wp2_with fail
    refine HI.out.mono ?_
    rintro e w' ⟨rfl, rfl⟩
    go_wp2
    go_ret2
    exact ⟨ret_ints (by rw [HE.out.2]; rfl) HE.out.1.symm, rfl⟩
  · have hc : (decide ((1 : Int) ≤ (L.length : Int)) && decide ((L.length : Int) ≤ 16)) = true := by
      rw [Bool.and_eq_true, decide_eq_true_eq, decide_eq_true_eq]; omega
    have HI := Lib.hid (isCount_any (L.length : Int) w)
    rw [hc] at HI
    have HB := Lib.hid (szE_big hn)
    have HO := Lib.hid (szE_ok hn)
    have HS := Lib.hid (sum_any _ L w HR.out (by omega) hd)
    obtain ⟨s, hs⟩ : ∃ s, s = 2 * L.length + dat L := ⟨_, rfl⟩
    rw [← hs] at HS
    have hz : szL L = 2 + s := by rw [hs]; unfold szL; omega
    have hs2 : s ≤ 1000100 := by omega
    rw [hz] at HB HO
    clear hn hc hs hz
    have HQ := Lib.hid (fun (h : 480 < 2 + s) => HB.out h)
    by_cases hb : 480 < 2 + s
    · have HE := Lib.hid (HB.out hb)
      have hb2 : (480 : Int) < 2 + (s : Int) := by omega
      clear HB HO HQ
      go_enter Try.func12, Try.ntmps12
      go_wp2_with fail
      refine HI.out.mono ?_
      rintro e w' ⟨rfl, rfl⟩
      go_wp2_with fail
      refine HS.out.mono ?_
      rintro e w' ⟨rfl, rfl⟩
      go_wp2
      go_ret2
      exact ⟨ret_ints (by rw [HE.out.2]; rfl) HE.out.1.symm, rfl⟩
    · have HE := Lib.hid (HO.out hb)
      have hb2 : ¬ (480 : Int) < 2 + (s : Int) := by omega
      clear HB HO HQ
      go_enter Try.func12, Try.ntmps12
      go_wp2_with fail
      refine HI.out.mono ?_
      rintro e w' ⟨rfl, rfl⟩
      go_wp2_with fail
      refine HS.out.mono ?_
      rintro e w' ⟨rfl, rfl⟩
      go_wp2
      go_ret2
      exact ⟨ret_ints (by rw [HE.out.2]; omega) HE.out.1.symm, rfl⟩

theorem bytesEqual_any (u v : Value) (l m : List Int) (w : World) (hu : Row .u8 w u l) (hv : Row .u8 w v m) :
    Calls Try.prog 28 #[u, v] w fun e w' => e = .returned (.bool (l == m)) ∧ w = w' := by
  have h1 := hu.string (P := Try.prog) 25 9 5 Try.underlying25 Try.underlying5 Try.underlying9
  have h2 := hv.string (P := Try.prog) 25 9 5 Try.underlying25 Try.underlying5 Try.underlying9
  go_enter Try.func28, Try.ntmps28
  go_wp2
  go_ret
  exact ⟨ret_bool (strOfNums_toList_beq hu.bytes hv.bytes), rfl⟩

set_option maxRecDepth 100000 in
theorem equalFunc_any (v1 v2 : Value) (a b : List (List Int)) (w : World) (hr1 : QRow w v1 a) (hr2 : QRow w v2 b) :
    Calls Try.prog 27 #[v1, v2, .func (.func 28) #[] #[]] w fun e w' => e = .returned (.bool (decide (a = b))) ∧ w = w' := by
  obtain ⟨ad1, cap1, U1, rfl, q2, q3, q4, q5⟩ := hr1
  obtain ⟨ad2, cap2, U2, rfl, p2, p3, p4, p5⟩ := hr2
  have HC1 := Lib.hid q5
  have HS1 := Lib.hid q4
  have HC2 := Lib.hid p5
  have HS2 := Lib.hid p4
  clear q4 q5 p4 p5
  by_cases hl : a.length = b.length
  · have HL := Lib.hid hl
    rw [← hl]
    rw [← hl] at p2
    clear hl
    go_enter Try.func27, Try.ntmps27
    go_wp2
    go_loop [17] (fun i => ∃ k : Nat, k ≤ a.length ∧ i = .int .i64 k ∧ Hid (decide (a.drop k = b.drop k) = decide (a = b))) (fun i => a.length - (intOf i).toNat)
    case atStart => exact ⟨0, Nat.zero_le _, rfl, rfl⟩
    case round =>
      obtain ⟨k, hk, rfl, HD⟩ := hrel
      by_cases hlt : k < a.length
      · have hlt1 : (k : Int) < (a.length : Int) := by omega
        have hltb : k < b.length := by rw [← HL.out]; exact hlt
        obtain ⟨b1, off1, rfl, -, hc1⟩ := HC1.out (by rintro rfl; simp at hlt)
        obtain ⟨b2, off2, rfl, -, hc2⟩ := HC2.out (by rintro rfl; simp at hltb)
        have e1 := hc1 k hlt
        have e2 := hc2 k hltb
        have s1 := HS1.out k hlt
        have s2 := HS2.out k hltb
        have ea : a.drop k = a.getD k [] :: a.drop (k + 1) := by rw [List.drop_eq_getElem_cons hlt]; simp [List.getD, hlt]
        have eb : b.drop k = b.getD k [] :: b.drop (k + 1) := by rw [List.drop_eq_getElem_cons hltb]; simp [List.getD, hltb]
        have hD := HD.out
        rw [ea, eb] at hD
        obtain ⟨x, hx⟩ : ∃ x, x = a.getD k [] := ⟨_, rfl⟩
        obtain ⟨y, hy⟩ : ∃ y, y = b.getD k [] := ⟨_, rfl⟩
        rw [← hx] at s1 hD
        rw [← hy] at s2 hD
        obtain ⟨V1, hV1⟩ : ∃ V, V = U1 k := ⟨_, rfl⟩
        obtain ⟨V2, hV2⟩ : ∃ V, V = U2 k := ⟨_, rfl⟩
        rw [← hV1] at e1 s1
        rw [← hV2] at e2 s2
        have HE := Lib.hid (bytesEqual_any V1 V2 x y w s1 s2)
        clear hc1 hc2 hx hy ea eb hV1 hV2 HD s1 s2
        by_cases he : x = y
        · subst he
          have HD2 : Hid (decide (a.drop (k + 1) = b.drop (k + 1)) = decide (a = b)) := by simpa [Hid] using hD
          have hxx : (x == x) = true := by simp
          rw [hxx] at HE
          clear hD hxx
          go_wp2_with fail
          refine HE.out.mono ?_
          rintro e w' ⟨rfl, rfl⟩
          go_wp2
          go_round
          case rel => exact ⟨k + 1, by omega, by go_num, HD2⟩
          case measure => simp [intOf]; omega
        · have HD2 : Hid (decide (a = b) = false) := by rw [← hD]; simp [Hid, he]
          have hxy : (x == y) = false := by simpa using he
          rw [hxy] at HE
          clear hD he hxy
          go_wp2_with fail
          refine HE.out.mono ?_
          rintro e w' ⟨rfl, rfl⟩
          go_wp2
          go_ret
          exact ⟨ret_bool HD2.out.symm, rfl⟩
      · obtain rfl : k = a.length := by omega
        have HD2 : Hid (decide (a = b) = true) := by
          have := HD.out
          rw [List.drop_length, List.drop_eq_nil_of_le (by rw [← HL.out]; exact Nat.le_refl _)] at this
          rw [← this]
          rfl
        clear HD
        go_wp2
        go_ret
        exact ⟨ret_bool HD2.out.symm, rfl⟩
  · have hl1 : ((a.length : Int) != (b.length : Int)) = true := by simp; omega
    have HD : Hid (decide (a = b) = false) := by unfold Hid; simp; rintro rfl; exact hl rfl
    clear hl
    go_enter Try.func27, Try.ntmps27
    go_wp2
    go_ret
    exact ⟨ret_bool HD.out.symm, rfl⟩

theorem same_any (v1 v2 : Value) (a b : List (List Int)) (w : World) (hr1 : QRow w v1 a) (hr2 : QRow w v2 b) :
    Calls Try.prog 17 #[v1, v2] w fun e w' => e = .returned (.bool (decide (a = b))) ∧ w = w' := by
  have HE := Lib.hid (equalFunc_any v1 v2 a b w hr1 hr2)
  obtain ⟨ad1, cap1, U1, rfl, -, -, -, -⟩ := hr1
  obtain ⟨ad2, cap2, U2, rfl, -, -, -, -⟩ := hr2
  go_enter Try.func17, Try.ntmps17
  go_wp2_with fail
  refine HE.out.mono ?_
  rintro e w' ⟨rfl, rfl⟩
  go_wp2
  go_ret
  exact ⟨rfl, rfl⟩
end Go.Proofs.Ytmjklelajnadcaa.Rec
