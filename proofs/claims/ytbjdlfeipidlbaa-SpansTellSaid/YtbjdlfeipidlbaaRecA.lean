/- Contracts of the document's functions for records. -/
import Derived.Test.YtbjdlfeipidlbaaRows
import Derived.Test.YtbjdlfeipidlbaaRecM
import Derived.Test.YtbjdlfeipidlbaaKit4
import Derived.Maps.AppendAt
namespace Go.Proofs.Ytbjdlfeipidlbaa.Rec
open Go.RowKit
set_option linter.unusedVariables false

theorem drewN_more {w wr : World} (h : ∃ m, wr = w.drewN m) (n : Nat) : ∃ m, wr.drewN n = w.drewN m := by
  obtain ⟨m, rfl⟩ := h
  exact ⟨m + n, World.drewN_drewN _ _ _⟩
theorem below_drawn {B : Nat} {a w w' : World} (h : Below B a w) (hm : ∃ m, w' = w.drewN m) : Below B a w' := by
  obtain ⟨m, rfl⟩ := hm
  exact below_drewN h m
theorem below_drewN' {B : Nat} {a w : World} (h : Below B a w) (m : Nat) : Below B a (w.drewN m) := below_drewN h m

/-- Are there few records, and short ones? -/
def few6 (L : List (List Int)) : Bool := decide (L.length ≤ 60) && decide (dat L ≤ 3000)
theorem few6_out {L : List (List Int)} (h : few6 L = true) : L.length ≤ 60 ∧ dat L ≤ 3000 := by
  simpa [few6] using h

set_option maxRecDepth 100000 in
theorem few_any (v : Value) (L : List (List Int)) (w : World) (hr : QRow w v L) :
    Calls Try.prog 17 #[v] w fun e w' => e = .returned (.bool (few6 L)) ∧ w = w' := by
  obtain ⟨ad, cap, U, rfl, q2, q3, q4, q5⟩ := hr
  have HC := Lib.hid q5
  have HS := Lib.hid q4
  clear q4 q5
  go_enter Try.func17, Try.ntmps17
  go_wp2
  go_loop [3, 4] (fun n i => ∃ (k m : Nat), k ≤ L.length ∧ i = .int .i64 k ∧ n = .int .i64 m ∧ m ≤ 13000 ∧ Hid (m ≤ 3000 → dat (L.take k) = m) ∧ Hid (3000 < m → 3000 < dat (L.take k))) (fun _ i => L.length - (intOf i).toNat)
  case atStart => exact ⟨0, 0, Nat.zero_le _, rfl, rfl, by omega, fun _ => rfl, fun h => by omega⟩
  case round =>
    obtain ⟨k, m, hk, rfl, rfl, hm, HM, HN⟩ := hrel
    by_cases h3 : m ≤ 3000
    · have i3 : (m : Int) ≤ 3000 := by omega
      have hw := HM.out h3
      by_cases hlt : k < L.length
      · have hlt1 : (k : Int) < (L.length : Int) := by omega
        obtain ⟨b, off, rfl, hlb, hc⟩ := HC.out (by rintro rfl; simp at hlt)
        have hcell := hc k hlt
        have hs := HS.out k hlt
        have h1 := dat_take_succ L k hlt
        rw [hw] at h1
        obtain ⟨x, hx⟩ : ∃ x, x = L.getD k [] := ⟨_, rfl⟩
        rw [← hx] at hs h1
        obtain ⟨V, hV⟩ : ∃ V, V = U k := ⟨_, rfl⟩
        rw [← hV] at hcell hs
        obtain ⟨ad2, cap2, rfl, -, -, -, -⟩ := hs
        have H1 := Lib.hid h1
        clear hc hx hw h1 HM HN hV
        by_cases hx : (x.length : Int) ≤ 9999
        · go_wp2
          go_round
          case rel => exact ⟨k + 1, m + x.length, by omega, by go_num, by go_num, by omega, fun h => by rw [H1.out], fun h => by rw [H1.out]; exact h⟩
          case measure => simp [intOf]; omega
        · have hx2 : (9999 : Int) < x.length := by omega
          clear hx
          go_wp2
          go_round
          case rel => exact ⟨k + 1, m + 9999, by omega, by go_num, by go_num, by omega, fun h => by omega, fun h => by rw [H1.out]; omega⟩
          case measure => simp [intOf]; omega
      · obtain rfl : k = L.length := by omega
        rw [List.take_length] at hw
        have HW := Lib.hid hw
        clear hw HM HN hlt
        by_cases hl : (L.length : Int) ≤ 60
        · have HF : Hid (few6 L = true) := by unfold Hid few6; rw [HW.out]; simp; omega
          go_wp2
          go_ret
          exact ⟨ret_bool HF.out.symm, rfl⟩
        · have HF : Hid (few6 L = false) := by unfold Hid few6; simp; omega
          go_wp2
          go_ret
          exact ⟨ret_bool HF.out.symm, rfl⟩
    · have i3 : ¬ (m : Int) ≤ 3000 := by omega
      have hw := HN.out (by omega)
      have h2 := dat_take_le L k
      have HF : Hid (few6 L = false) := by unfold Hid few6; simp; omega
      clear hw HM HN h2
      by_cases hlt : (k : Int) < (L.length : Int)
      · by_cases hl : (L.length : Int) ≤ 60
        · go_wp2
          go_ret
          exact ⟨ret_bool HF.out.symm, rfl⟩
        · go_wp2
          go_ret
          exact ⟨ret_bool HF.out.symm, rfl⟩
      · by_cases hl : (L.length : Int) ≤ 60
        · go_wp2
          go_ret
          exact ⟨ret_bool HF.out.symm, rfl⟩
        · go_wp2
          go_ret
          exact ⟨ret_bool HF.out.symm, rfl⟩

theorem szE_arg {L : List (List Int)} (h : L.length < 1 ∨ 16 < L.length) : szE L = 2 ∧ szN L = 0 := by
  have : szE L = 2 := by rw [szE, if_pos h]
  exact ⟨this, by rw [szN, this]; rfl⟩
theorem szE_big {L : List (List Int)} (h : ¬ (L.length < 1 ∨ 16 < L.length)) (h2 : 480 < szL L) : szE L = 22 ∧ szN L = 0 := by
  have : szE L = 22 := by rw [szE, if_neg h, if_pos h2]
  exact ⟨this, by rw [szN, this]; rfl⟩
theorem szE_ok {L : List (List Int)} (h : ¬ (L.length < 1 ∨ 16 < L.length)) (h2 : ¬ 480 < szL L) : szE L = 0 ∧ szN L = szL L := by
  have : szE L = 0 := by rw [szE, if_neg h, if_neg h2]
  exact ⟨this, by rw [szN, if_pos this]⟩
theorem ret_ints {a b c d : Int} (h1 : a = c) (h2 : b = d) : Ending.returned (.tuple #[.int .i64 a, .int .i64 b]) = .returned (.tuple #[.int .i64 c, .int .i64 d]) := by rw [h1, h2]

set_option maxRecDepth 100000 in
theorem sameQ_any (v1 v2 : Value) (a b : List (List Int)) (w : World) (h1 : QRow w v1 a) (h2 : QRow w v2 b) :
    Calls Try.prog 20 #[v1, v2] w fun e w' => e = .returned (.bool (decide (a = b))) ∧ ∃ m, w' = w.drewN m := by
  obtain ⟨ad, cap, U, rfl, q2, q3, q4, q5⟩ := h1
  obtain ⟨ad2, cap2, U2, rfl, p2, p3, p4, p5⟩ := h2
  have HC := Lib.hid q5
  have HC2 := Lib.hid p5
  have HS := Lib.hid q4
  have HS2 := Lib.hid p4
  clear q4 q5 p4 p5
  by_cases hl : a.length = b.length
  · have hl1 : ((a.length : Int) != (b.length : Int)) = false := by simp; omega
    have hlen : b.length = a.length := hl.symm
    rw [hlen]
    rw [hlen] at hl1 p2
    have HL := Lib.hid hl
    clear hl hlen
    go_enter Try.func20, Try.ntmps20
    go_wp2
    go_loopw [5] (fun i wr => ∃ k : Nat, k ≤ a.length ∧ i = .int .i64 k ∧ Hid (decide (a.drop k = b.drop k) = decide (a = b)) ∧ Hid (∃ m, wr = w.drewN m)) (fun i _ => a.length - (intOf i).toNat)
    case atStart => exact ⟨0, Nat.zero_le _, rfl, rfl, 0, rfl⟩
    case round =>
      obtain ⟨k, hk, rfl, HD, HW⟩ := hrel
      by_cases hlt : k < a.length
      · have hlt1 : (k : Int) < (a.length : Int) := by omega
        have hlb : k < b.length := by rw [← HL.out]; exact hlt
        have hbel := below_drawn (Below.refl w.heap.size w) HW.out
        obtain ⟨b1, off1, rfl, hb1, hc1⟩ := HC.out (by rintro rfl; simp at hlt)
        obtain ⟨b2, off2, rfl, hb2, hc2⟩ := HC2.out (by rintro rfl; simp at hlb)
        have hcell1 := (hbel.cell (p := ⟨b1, off1 + k, none⟩) hb1).trans (hc1 k hlt)
        have hcell2 := (hbel.cell (p := ⟨b2, off2 + k, none⟩) hb2).trans (hc2 k hlb)
        have hs1 := (HS.out k hlt).mono hbel (Nat.le_refl _)
        have hs2 := (HS2.out k hlb).mono hbel (Nat.le_refl _)
        have hD := HD.out
        have ea : a.drop k = a.getD k [] :: a.drop (k + 1) := by rw [List.drop_eq_getElem_cons hlt]; simp [List.getD, hlt]
        have eb : b.drop k = b.getD k [] :: b.drop (k + 1) := by rw [List.drop_eq_getElem_cons hlb]; simp [List.getD, hlb]
        rw [ea, eb] at hD
        obtain ⟨x, hx⟩ : ∃ x, x = a.getD k [] := ⟨_, rfl⟩
        obtain ⟨y, hy⟩ : ∃ y, y = b.getD k [] := ⟨_, rfl⟩
        rw [← hx] at hs1 hD
        rw [← hy] at hs2 hD
        obtain ⟨V1, hV1⟩ : ∃ V1, V1 = U k := ⟨_, rfl⟩
        obtain ⟨V2, hV2⟩ : ∃ V2, V2 = U2 k := ⟨_, rfl⟩
        rw [← hV1] at hcell1 hs1
        rw [← hV2] at hcell2 hs2
        have hbx := hs1.bytes
        have hby := hs2.bytes
        have c1 := fun n => Row.string (P := Try.prog) (hs1.mono (below_drewN' (Below.refl _ _) n) (Nat.le_refl _)) 22 9 5 Try.underlying22 Try.underlying5 Try.underlying9
        have c2 := fun n => Row.string (P := Try.prog) (hs2.mono (below_drewN' (Below.refl _ _) n) (Nat.le_refl _)) 22 9 5 Try.underlying22 Try.underlying5 Try.underlying9
        have heq := strOfNums_toList_beq hbx hby
        obtain ⟨ax, cx, rfl, -, -, -, -⟩ := hs1
        obtain ⟨ay, cy, rfl, -, -, -, -⟩ := hs2
        clear hc1 hc2 hx hy hbel HD hV1 hV2 hbx hby ea eb
        by_cases he : x = y
        · subst he
          have HD2 : Hid (decide (a.drop (k + 1) = b.drop (k + 1)) = decide (a = b)) := by simpa [Hid] using hD
          have hxx : ((strOfNums x).toList == (strOfNums x).toList) = true := by simp
          clear hD heq
          go_wp2_with fail
          go_quiet (fail)
          go_wp2
          go_roundw
          case rel => exact ⟨k + 1, by omega, by go_num, HD2, drewN_more HW.out _⟩
          case measure => simp [intOf]; omega
        · have HD2 : Hid (decide (a = b) = false) := by rw [← hD]; simp [Hid, he]
          have hxy : ((strOfNums x).toList == (strOfNums y).toList) = false := by rw [heq]; simpa using he
          clear hD he heq
          go_wp2_with fail
          go_quiet (fail)
          go_wp2
          go_ret
          exact ⟨ret_bool HD2.out.symm, drewN_more HW.out _⟩
      · obtain rfl : k = a.length := by omega
        have HD2 : Hid (decide (a = b) = true) := by
          have := HD.out
          rw [List.drop_length, List.drop_eq_nil_of_le (by rw [← HL.out]; exact Nat.le_refl _)] at this
          rw [← this]
          rfl
        go_wp2
        go_ret
        exact ⟨ret_bool HD2.out.symm, HW.out⟩
  · have hl1 : ((a.length : Int) != (b.length : Int)) = true := by simp; omega
    have HD : Hid (decide (a = b) = false) := by unfold Hid; simp; rintro rfl; exact hl rfl
    clear hl
    go_enter Try.func20, Try.ntmps20
    go_wp2
    go_ret
    exact ⟨ret_bool HD.out.symm, 0, rfl⟩
end Go.Proofs.Ytbjdlfeipidlbaa.Rec
