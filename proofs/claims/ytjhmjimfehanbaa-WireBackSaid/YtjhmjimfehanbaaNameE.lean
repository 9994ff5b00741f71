/- Contracts of Same, Few, Shared, Below. -/
import Derived.Test.YtjhmjimfehanbaaNameC
import Derived.Test.YtjhmjimfehanbaaKit4
namespace Go.Proofs.Ytjhmjimfehanbaa.Name
open Go.RowKit Fold
set_option linter.unusedVariables false

theorem below_drawn {B : Nat} {a w w' : World} (h : Below B a w) (hm : ∃ m, w' = w.drewN m) : Below B a w' := by
  obtain ⟨m, rfl⟩ := hm
  exact below_drewN h m
theorem below_drewN' {B : Nat} {a w : World} (h : Below B a w) (m : Nat) : Below B a (w.drewN m) := below_drewN h m

/-- Are there few texts, and short ones? -/
def few (l : List ByteArray) : Bool := decide (l.length ≤ 300) && decide (wire l ≤ l.length + 3001)

theorem few_out {l : List ByteArray} (h : few l = true) : l.length ≤ 300 ∧ wire l ≤ 3301 := by
  simp only [few, Bool.and_eq_true, decide_eq_true_eq] at h
  omega

set_option maxRecDepth 100000 in
theorem few_any (v : Value) (l : List ByteArray) (w : World) (hr : SRow w v l) :
    Calls Try.prog 24 #[v, .int .i64 300, .int .i64 3000] w fun e w' => e = .returned (.bool (few l)) ∧ w = w' := by
  obtain ⟨ad, cap, rfl, q2, q3, q4, q5⟩ := hr
  have HC := Lib.hid q5
  clear q4 q5
  go_enter Try.func24, Try.ntmps24
  go_wp2
  go_loop [7, 8] (fun n i => ∃ (k m : Nat), k ≤ l.length ∧ i = .int .i64 k ∧ n = .int .i64 m ∧ m ≤ 103000 ∧ Hid (m ≤ 3000 → wire (l.take k) = m + k + 1) ∧ Hid (3000 < m → 3000 + k + 1 < wire (l.take k))) (fun _ i => l.length - (intOf i).toNat)
  case atStart => exact ⟨0, 0, Nat.zero_le _, rfl, rfl, by omega, fun _ => rfl, fun h => by omega⟩
  case round =>
    obtain ⟨k, m, hk, rfl, rfl, hm, HM, HN⟩ := hrel
    by_cases h3 : m ≤ 3000
    · have i3 : (m : Int) ≤ 3000 := by omega
      have hw := HM.out h3
      by_cases hlt : k < l.length
      · have hlt1 : (k : Int) < (l.length : Int) := by omega
        obtain ⟨b, off, rfl, hlb, hc⟩ := HC.out (by rintro rfl; simp at hlt)
        have hcell := hc k hlt
        have h1 := wire_take_succ l k hlt
        rw [hw] at h1
        obtain ⟨x, hx⟩ : ∃ x, x = l.getD k ByteArray.empty := ⟨_, rfl⟩
        rw [← hx] at hcell h1
        have H1 := Lib.hid h1
        clear hc hx hw h1 HM HN
        by_cases hx : (x.size : Int) ≤ 99999
        · go_wp2
          go_round
          case rel => exact ⟨k + 1, m + x.size, by omega, by go_num, by go_num, by omega, fun h => by rw [H1.out]; omega, fun h => by rw [H1.out]; omega⟩
          case measure => simp [intOf]; omega
        · have hx2 : (99999 : Int) < x.size := by omega
          clear hx
          go_wp2
          go_round
          case rel => exact ⟨k + 1, m + 99999, by omega, by go_num, by go_num, by omega, fun h => by omega, fun h => by rw [H1.out]; omega⟩
          case measure => simp [intOf]; omega
      · obtain rfl : k = l.length := by omega
        rw [List.take_length] at hw
        have HW := Lib.hid hw
        clear hw HM HN hlt
        by_cases hl : (l.length : Int) ≤ 300
        · have HF : Hid (few l = true) := by unfold Hid few; rw [HW.out]; simp; omega
          go_wp2
          go_ret
          exact ⟨ret_bool HF.out.symm, rfl⟩
        · have HF : Hid (few l = false) := by unfold Hid few; simp; omega
          go_wp2
          go_ret
          exact ⟨ret_bool HF.out.symm, rfl⟩
    · have i3 : ¬ (m : Int) ≤ 3000 := by omega
      have hw := HN.out (by omega)
      have h2 := wire_append (l.take k) (l.drop k)
      rw [List.take_append_drop] at h2
      have h4 := wire_len (l.drop k)
      rw [List.length_drop] at h4
      have HF : Hid (few l = false) := by unfold Hid few; simp; omega
      clear hw HM HN h2 h4
      by_cases hlt : (k : Int) < (l.length : Int)
      · by_cases hl : (l.length : Int) ≤ 300
        · go_wp2
          go_ret
          exact ⟨ret_bool HF.out.symm, rfl⟩
        · go_wp2
          go_ret
          exact ⟨ret_bool HF.out.symm, rfl⟩
      · by_cases hl : (l.length : Int) ≤ 300
        · go_wp2
          go_ret
          exact ⟨ret_bool HF.out.symm, rfl⟩
        · go_wp2
          go_ret
          exact ⟨ret_bool HF.out.symm, rfl⟩

theorem str_eqB (s t : ByteArray) : (s.toList == t.toList) = decide (s = t) := by
  rw [str_beq, Bool.eq_iff_iff, beq_iff_eq, decide_eq_true_eq]
  exact ⟨fun h => bs_inj h, fun h => by rw [h]⟩
theorem drop_get {l : List ByteArray} {k : Nat} (h : k < l.length) : l.drop k = l.getD k ByteArray.empty :: l.drop (k + 1) := by
  have e : l.getD k ByteArray.empty = l[k] := by simp [List.getD, h]
  rw [e, List.drop_eq_getElem_cons h]

set_option maxRecDepth 100000 in
theorem sameL_any (v1 v2 : Value) (a b : List ByteArray) (w : World) (h1 : SRow w v1 a) (h2 : SRow w v2 b) :
    Calls Try.prog 10 #[v1, v2] w fun e w' => e = .returned (.bool (decide (a = b))) ∧ ∃ m, w' = w.drewN m := by
  obtain ⟨ad, cap, rfl, q2, q3, q4, q5⟩ := h1
  obtain ⟨ad2, cap2, rfl, p2, p3, p4, p5⟩ := h2
  have HC := Lib.hid q5
  have HC2 := Lib.hid p5
  clear q4 q5 p4 p5
  by_cases hl : a.length = b.length
  · have hl1 : ((a.length : Int) != (b.length : Int)) = false := by simp; omega
    have hlen : b.length = a.length := hl.symm
    rw [hlen]
    rw [hlen] at hl1 p2
    have HL := Lib.hid hl
    clear hl hlen
    go_enter Try.func10, Try.ntmps10
    go_wp2
    go_loopw [5] (fun i wr => ∃ k : Nat, k ≤ a.length ∧ i = .int .i64 k ∧ Hid (decide (a.drop k = b.drop k) = decide (a = b)) ∧ Hid (∃ m, wr = w.drewN m)) (fun i _ => a.length - (intOf i).toNat)
    case atStart => exact ⟨0, Nat.zero_le _, rfl, rfl, 0, rfl⟩
    case round =>
      obtain ⟨k, hk, rfl, HD, HW⟩ := hrel
      by_cases hlt : k < a.length
      · have hlt1 : (k : Int) < (a.length : Int) := by omega
        have hlb : k < b.length := by rw [← HL.out]; exact hlt
        have hbel := below_drawn (Below.refl w.heap.size w) HW.out
        obtain ⟨b1, off1, rfl, hb1, hc1⟩ := HC.out (by rintro rfl; simp at hlt)
        obtain ⟨b2, off2, rfl, hb2, hc2⟩ := HC2.out (by rintro rfl; simp at hlb)
        have hcell1 := (hbel.cell (p := ⟨b1, off1 + k, none⟩) hb1).trans (hc1 k hlt)
        have hcell2 := (hbel.cell (p := ⟨b2, off2 + k, none⟩) hb2).trans (hc2 k hlb)
        have hD := HD.out
        rw [drop_get hlt, drop_get hlb] at hD
        obtain ⟨x, hx⟩ : ∃ x, x = a.getD k ByteArray.empty := ⟨_, rfl⟩
        obtain ⟨y, hy⟩ : ∃ y, y = b.getD k ByteArray.empty := ⟨_, rfl⟩
        rw [← hx] at hcell1 hD
        rw [← hy] at hcell2 hD
        clear hc1 hc2 hx hy hbel HD
        by_cases he : x = y
        · subst he
          have HD2 : Hid (decide (a.drop (k + 1) = b.drop (k + 1)) = decide (a = b)) := by simpa [Hid] using hD
          have hxx : (x.toList != x.toList) = false := by simp
          clear hD
          go_wp2_with fail
          go_quiet (fail)
          go_wp2
          go_roundw
          case rel => exact ⟨k + 1, by omega, by go_num, HD2, drewN_more HW.out _⟩
          case measure => simp [intOf]; omega
        · have HD2 : Hid (decide (a = b) = false) := by rw [← hD]; simp [Hid, he]
          have hxy : (x.toList == y.toList) = false := by rw [str_eqB]; simpa using he
          clear hD he
          go_wp2_with fail
          go_quiet (fail)
          go_wp2
          go_ret
          exact ⟨ret_bool HD2.out.symm, drewN_more HW.out _⟩
      · obtain rfl : k = a.length := by omega
        have HD2 : Hid (decide (a = b) = true) := by
          have := HD.out
          rw [List.drop_length, List.drop_eq_nil_of_le (by rw [← HL.out]; exact Nat.le_refl _)] at this
          rw [← this]
          rfl
        go_wp2
        go_ret
        exact ⟨ret_bool HD2.out.symm, HW.out⟩
  · have hl1 : ((a.length : Int) != (b.length : Int)) = true := by simp; omega
    have HD : Hid (decide (a = b) = false) := by unfold Hid; simp; rintro rfl; exact hl rfl
    clear hl
    go_enter Try.func10, Try.ntmps10
    go_wp2
    go_ret
    exact ⟨ret_bool HD.out.symm, 0, rfl⟩

/-- With how many labels both end. -/
def shR : List ByteArray → List ByteArray → Nat
  | x :: a, y :: b => if sameS x y then shR a b + 1 else 0
  | _, _ => 0
def shr (a b : List ByteArray) : Nat := shR a.reverse b.reverse
theorem sameS_comm (x y : ByteArray) : sameS x y = sameS y x := by
  unfold sameS sameB
  rw [Bool.eq_iff_iff, beq_iff_eq, beq_iff_eq]
  exact eq_comm
theorem shR_comm (a b : List ByteArray) : shR a b = shR b a := by
  induction a generalizing b with
  | nil => cases b <;> simp [shR]
  | cons x a ih =>
    cases b with
    | nil => simp [shR]
    | cons y b => simp only [shR, ih b, sameS_comm x y]
theorem shr_comm (a b : List ByteArray) : shr a b = shr b a := shR_comm _ _
theorem shR_le (a b : List ByteArray) : shR a b ≤ a.length ∧ shR a b ≤ b.length := by
  induction a generalizing b with
  | nil => simp [shR]
  | cons x a ih =>
    cases b with
    | nil => simp [shR]
    | cons y b =>
      have := ih b
      simp only [shR]
      split <;> simp_all
theorem shR_step {a b : List ByteArray} {k : Nat} (ha : k < a.length) (hb : k < b.length) : shR (a.reverse.drop k) (b.reverse.drop k) = if sameS (a.getD (a.length - 1 - k) ByteArray.empty) (b.getD (b.length - 1 - k) ByteArray.empty) then shR (a.reverse.drop (k + 1)) (b.reverse.drop (k + 1)) + 1 else 0 := by
  rw [drop_get (l := a.reverse) (k := k) (by rw [List.length_reverse]; exact ha), drop_get (l := b.reverse) (k := k) (by rw [List.length_reverse]; exact hb), shR]
  have ea : a.reverse.getD k ByteArray.empty = a.getD (a.length - 1 - k) ByteArray.empty := by
    rw [List.getD, List.getElem?_reverse ha]; rfl
  have eb : b.reverse.getD k ByteArray.empty = b.getD (b.length - 1 - k) ByteArray.empty := by
    rw [List.getD, List.getElem?_reverse hb]; rfl
  rw [ea, eb]
theorem shR_end {a b : List ByteArray} {k : Nat} (h : a.length ≤ k ∨ b.length ≤ k) : shR (a.reverse.drop k) (b.reverse.drop k) = 0 := by
  rcases h with h | h
  · rw [List.drop_eq_nil_of_le (by rw [List.length_reverse]; exact h)]; cases b.reverse.drop k <;> simp [shR]
  · rw [show b.reverse.drop k = [] from List.drop_eq_nil_of_le (by rw [List.length_reverse]; exact h)]; cases a.reverse.drop k <;> simp [shR]
theorem sameS_low (x y : ByteArray) : (lowS x = lowS y) ↔ sameS x y = true := by
  unfold sameS sameB
  rw [beq_iff_eq, ← bs_lowS, ← bs_lowS]
  exact ⟨fun h => by rw [h], fun h => bs_inj h⟩
theorem sh_all (l : List ByteArray) : shr (l.map lowS) l = l.length := by
  unfold shr
  rw [← List.map_reverse, ← List.length_reverse]
  generalize l.reverse = r
  induction r with
  | nil => rfl
  | cons x r ih =>
    rw [List.map_cons, shR, if_pos ((sameS_low _ _).1 (lowS_lowS x)), ih]
    rfl

theorem wrap_id {n : Int} (h1 : -9223372036854775808 ≤ n) (h2 : n ≤ 9223372036854775807) : IntKind.i64.wrap n = n := by simp [IntKind.wrap, IntKind.bits, IntKind.signed]; omega

end Go.Proofs.Ytjhmjimfehanbaa.Name
