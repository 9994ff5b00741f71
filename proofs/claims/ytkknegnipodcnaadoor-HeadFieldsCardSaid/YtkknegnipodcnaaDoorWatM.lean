/- Plain mathematics of watches: runs of one kind, and what each call answers. -/
import Derived.Test.YtkknegnipodcnaaDoorArnX
namespace Go.Proofs.YtkknegnipodcnaaDoor.Wat
open Go.RowKit Num Arn
set_option linter.unusedVariables false

/-- A run: where, how long, of which kind. -/
abbrev Rn := Nat × Nat × Int
def encW (r : Rn) : List Value := [.int .i64 (r.1 : Int), .int .i64 (r.2.1 : Int), .int .i64 r.2.2]
def aggW (r : Rn) : Value := .agg #[.int .i64 (r.1 : Int), .int .i64 (r.2.1 : Int), .int .i64 r.2.2]
def mayW (n : Int) : Bool := decide (4 ≤ n) && (decide (n ≤ 1048576) && decide (n % 4 = 0))
theorem mayW_bd {n : Int} (h : mayW n = true) : 4 ≤ n ∧ n ≤ 1048576 ∧ n % 4 = 0 := by simpa [mayW, and_assoc] using h
/-- The last run, one longer. -/
def bump (L : List Rn) : List Rn := match L.getLast? with | none => [] | some r => L.dropLast ++ [(r.1, r.2.1 + 1, r.2.2)]
theorem bump_snoc (L : List Rn) (r : Rn) : bump (L ++ [r]) = L ++ [(r.1, r.2.1 + 1, r.2.2)] := by
  unfold bump
  simp
/-- The runs of the first i bytes. -/
def rl (x : List Int) : Nat → List Rn
  | 0 => []
  | i + 1 => if 0 < i ∧ x.getD i 0 = x.getD (i - 1) 0 then bump (rl x i) else rl x i ++ [(i, 1, x.getD i 0)]
/-- Runs that lie one behind the other up to p. -/
inductive Good (x : List Int) : Nat → List Rn → Prop
  | nil : Good x 0 []
  | snoc {p n : Nat} {L : List Rn} {k : Int} : Good x p L → 1 ≤ n → (∀ j, j < n → x.getD (p + j) 0 = k) → (∀ r, L.getLast? = some r → r.2.2 ≠ k) → Good x (p + n) (L ++ [(p, n, k)])
theorem Good.last {x : List Int} {p : Nat} {L : List Rn} (h : Good x p L) {r : Rn} (hr : L.getLast? = some r) : r.1 + r.2.1 = p ∧ 1 ≤ r.2.1 ∧ ∀ j, j < r.2.1 → x.getD (r.1 + j) 0 = r.2.2 := by
  cases h with
  | nil => simp at hr
  | snoc h1 h2 h3 h4 =>
    simp at hr
    subst hr
    exact ⟨rfl, h2, h3⟩
theorem rl_good (x : List Int) (i : Nat) : Good x i (rl x i) := by
  induction i with
  | zero => exact .nil
  | succ i ih =>
    unfold rl
    split
    · rename_i h
      obtain ⟨h0, he⟩ := h
      generalize rl x i = L at ih ⊢
      cases ih with
      | nil => omega
      | snoc h1 h2 h3 h4 =>
        rename_i p n L k
        rw [bump_snoc]
        show Good x (p + n + 1) (L ++ [(p, n + 1, k)])
        rw [Nat.add_assoc]
        refine .snoc h1 (by omega) (fun j hj => ?_) h4
        by_cases e : j < n
        · exact h3 j e
        · obtain rfl : j = n := by omega
          rw [he, show p + j - 1 = p + (j - 1) by omega]
          exact h3 _ (by omega)
    · rename_i h
      refine .snoc ih (Nat.le_refl _) (fun j hj => by obtain rfl : j = 0 := by omega
                                                      rfl) (fun r hr => ?_)
      obtain ⟨e1, e2, e3⟩ := ih.last hr
      have := e3 (r.2.1 - 1) (by omega)
      rw [show r.1 + (r.2.1 - 1) = i - 1 by omega] at this
      intro hk
      exact h ⟨by omega, by rw [this, hk]⟩
theorem rl_block (x : List Int) (p m : Nat) (h0 : p = 0 ∨ x.getD (p - 1) 0 ≠ x.getD p 0) (h : ∀ j, j ≤ m → x.getD (p + j) 0 = x.getD p 0) : rl x (p + m + 1) = rl x p ++ [(p, m + 1, x.getD p 0)] := by
  induction m with
  | zero =>
    show rl x (p + 1) = _
    rw [rl, if_neg (by rintro ⟨h1, h2⟩; rcases h0 with h0 | h0; omega; exact h0 h2.symm)]
  | succ m ih =>
    have := ih (fun j hj => h j (by omega))
    show rl x (p + (m + 1) + 1) = _
    rw [rl, if_pos ⟨by omega, by rw [h (m + 1) (Nat.le_refl _), show p + (m + 1) - 1 = p + m by omega, h m (by omega)]⟩, show p + (m + 1) = p + m + 1 by omega, this, bump_snoc]
theorem rl_length (x : List Int) (i : Nat) : (rl x i).length ≤ i := by
  have : ∀ p L, Good x p L → L.length ≤ p := by
    intro p L h
    induction h with
    | nil => simp
    | snoc h1 h2 h3 h4 ih => simp; omega
  exact this _ _ (rl_good x i)

theorem rl_step (x : List Int) (i : Nat) : (rl x i).length ≤ (rl x (i + 1)).length := by
  show _ ≤ (if 0 < i ∧ x.getD i 0 = x.getD (i - 1) 0 then bump (rl x i) else rl x i ++ [(i, 1, x.getD i 0)]).length
  split
  · generalize rl x i = L
    rcases List.eq_nil_or_concat L with rfl | ⟨M, r, rfl⟩
    · simp
    · rw [List.concat_eq_append, bump_snoc]; simp
  · simp
theorem rl_mono (x : List Int) (i d : Nat) : (rl x i).length ≤ (rl x (i + d)).length := by
  induction d with
  | zero => exact Nat.le_refl _
  | succ d ih => exact Nat.le_trans ih (rl_step x (i + d))
theorem rl_less {x : List Int} {p m : Nat} {r : Rn} (hb : rl x (p + m) = rl x p ++ [r]) (h : p + m ≤ x.length) : (rl x p).length < (rl x x.length).length := by
  have h1 := rl_mono x (p + m) (x.length - (p + m))
  rw [show p + m + (x.length - (p + m)) = x.length by omega, hb, List.length_append, List.length_singleton] at h1
  omega
/-- The one kind of bytes; 0 if they have several, or there is none. -/
def kndS (y : List Int) : Int := if y ≠ [] ∧ ∀ j, j < y.length → y.getD j 0 = y.getD 0 0 then y.getD 0 0 else 0
theorem kind_yes {y : List Int} {p : Nat} {r : Rn} (hp : p ≤ y.length) (hr : (rl y p).getLast? = some r) (hn : r.2.1 = y.length) : kndS y = r.2.2 := by
  obtain ⟨h1, h2, h3⟩ := (rl_good y p).last hr
  have h0 : r.1 = 0 := by omega
  have e := h3 0 (by omega)
  simp only [h0, Nat.zero_add] at h3 e
  rw [kndS, if_pos ⟨by rintro rfl; simp at hn; omega, fun j hj => by rw [h3 j (by omega), e]⟩, e]
theorem kind_no {y : List Int} (h : ∀ r ∈ rl y y.length, r.2.1 ≠ y.length) : kndS y = 0 := by
  unfold kndS
  split
  · rename_i hs
    obtain ⟨h1, h2⟩ := hs
    obtain ⟨m, hm⟩ : ∃ m, y.length = m + 1 := ⟨y.length - 1, by have := List.length_pos_iff.2 h1; omega⟩
    have hb := rl_block y 0 m (.inl rfl) (fun j hj => by rw [Nat.zero_add]; exact h2 j (by omega))
    rw [Nat.zero_add] at hb
    rw [hm, hb] at h
    exact absurd rfl (h (0, m + 1, y.getD 0 0) (by simp))
  · rfl
def kndA (x : List Int) (a n : Int) : Int := if fitB x.length a n then kndS ((x.drop a.toNat).take n.toNat) else 0
def mrkA (x : List Int) (a n k : Int) : List Int × Int :=
  if k < 0 ∨ 8 < k then (x, 2) else if fitB x.length a n = false then (x, 6) else if a % 4 ≠ 0 ∨ n % 4 ≠ 0 then (x, 9) else (wrL x a.toNat (List.replicate n.toNat k), 0)
def lookA (x : List Int) (a n k : Int) : Bool := isW n && (fitB x.length a n && (decide (a % n = 0) && (decide (k ≠ 0) && decide (kndA x a n = k))))
def cntA (x : List Int) (k : Int) : Nat := x.count k
/-- How many bytes of a kind runs have. -/
def sumR (L : List Rn) (k : Int) : Nat := (L.map fun r => if r.2.2 = k then r.2.1 else 0).sum
theorem sumR_snoc (L : List Rn) (r : Rn) (k : Int) : sumR (L ++ [r]) k = sumR L k + (if r.2.2 = k then r.2.1 else 0) := by simp [sumR]
theorem sumR_good {x : List Int} {p : Nat} {L : List Rn} (h : Good x p L) (hp : p ≤ x.length) (k : Int) : sumR L k = (x.take p).count k := by
  induction h with
  | nil => simp [sumR]
  | snoc h1 h2 h3 h4 ih =>
    rename_i p n L q
    rw [sumR_snoc, ih (by omega), List.take_add, List.count_append]
    have e : (x.drop p).take n = List.replicate n q := by
      refine List.ext_getElem? fun j => ?_
      rw [List.getElem?_replicate, List.getElem?_take]
      split
      · rename_i hj
        have := h3 j hj
        rw [List.getElem?_drop]
        have hl : p + j < x.length := by omega
        simp [List.getD, hl] at this ⊢
        exact this
      · rfl
    rw [e, List.count_replicate]
    simp
theorem sumR_all (x : List Int) (k : Int) : sumR (rl x x.length) k = cntA x k := by
  rw [sumR_good (rl_good x x.length) (Nat.le_refl _), List.take_length]
  rfl
/-- The sum as a loop adds it up. -/
def smI (L : List Rn) (k : Int) : Int := L.foldl (fun s r => if r.2.2 = k then wrap64 (s + (r.2.1 : Int)) else s) 0
theorem smI_snoc (L : List Rn) (r : Rn) (k : Int) : smI (L ++ [r]) k = if r.2.2 = k then wrap64 (smI L k + (r.2.1 : Int)) else smI L k := by simp [smI]
theorem smI_sum (k : Int) : ∀ (n : Nat) (L : List Rn), L.length = n → sumR L k ≤ 1048576 → smI L k = (sumR L k : Int)
  | 0, L, h, _ => by
    obtain rfl : L = [] := List.length_eq_zero_iff.1 h
    rfl
  | n + 1, L, h, hs => by
    rcases List.eq_nil_or_concat L with rfl | ⟨M, r, rfl⟩
    · simp at h
    · rw [List.concat_eq_append] at h hs ⊢
      rw [sumR_snoc] at hs ⊢
      rw [smI_snoc, smI_sum k n M (by simpa using h) (by omega)]
      split
      · rename_i e
        rw [if_pos e] at hs
        rw [IntWalk.wrap64_in _ (by omega)]
        omega
      · rw [Nat.add_zero]
theorem smI_all {x : List Int} (hx : x.length ≤ 1048576) (k : Int) : smI (rl x x.length) k = (cntA x k : Int) := by
  have h := sumR_all x k
  have h2 : x.count k ≤ x.length := List.count_le_length
  rw [smI_sum k _ _ rfl (by rw [h]; unfold cntA; omega), h]
/-- Kinds are numbers from 0 to 8. -/
def IsKinds (x : List Int) : Prop := ∀ i, 0 ≤ x.getD i 0 ∧ x.getD i 0 ≤ 8
theorem IsKinds.bytes {x : List Int} (h : IsKinds x) : IsBytes x := fun i => by have := h i; omega
theorem IsKinds.mem {x : List Int} (h : IsKinds x) {y : Int} (hy : y ∈ x) : 0 ≤ y ∧ y ≤ 8 := by
  obtain ⟨i, hi, rfl⟩ := List.getElem_of_mem hy
  have := h i
  simpa [List.getD, hi] using this
theorem IsKinds.of_mem {x : List Int} (h : ∀ y ∈ x, 0 ≤ y ∧ y ≤ 8) : IsKinds x := by
  intro i
  by_cases hi : i < x.length
  · have := h _ (List.getElem_mem hi)
    simpa [List.getD, hi] using this
  · simp [List.getD, List.getElem?_eq_none (show x.length ≤ i by omega)]
theorem kinds_zeros (n : Nat) : IsKinds (List.replicate n 0) := .of_mem fun y hy => by
  have := List.eq_of_mem_replicate hy
  omega
theorem mrkA_length (x : List Int) (a n k : Int) : (mrkA x a n k).1.length = x.length := by
  unfold mrkA
  split
  · rfl
  · split
    · rfl
    · rename_i hf
      split
      · rfl
      · obtain ⟨p, q, rfl, rfl, h⟩ := fitB_nat (by simpa using hf : fitB x.length a n = true)
        exact wrL_length _ _ _ (by simp only [Int.toNat_natCast, List.length_replicate]; omega)
theorem mrkA_kinds {x : List Int} (h : IsKinds x) (a n k : Int) : IsKinds (mrkA x a n k).1 := by
  unfold mrkA
  split
  · exact h
  · rename_i hk
    split
    · exact h
    · split
      · exact h
      · refine .of_mem fun y hy => ?_
        simp only [wrL, List.mem_append] at hy
        rcases hy with hy | hy | hy
        · exact h.mem (List.mem_of_mem_take hy)
        · have := List.eq_of_mem_replicate hy
          omega
        · exact h.mem (List.mem_of_mem_drop hy)
theorem rl_kinds {x : List Int} (h : IsKinds x) {p : Nat} {L : List Rn} (hg : Good x p L) : ∀ r ∈ L, 0 ≤ r.2.2 ∧ r.2.2 ≤ 8 := by
  induction hg with
  | nil => simp
  | snoc h1 h2 h3 h4 ih =>
    intro r hr
    simp only [List.mem_append, List.mem_singleton] at hr
    rcases hr with hr | rfl
    · exact ih r hr
    · rw [← h3 0 (by omega)]
      exact h _
end Go.Proofs.YtkknegnipodcnaaDoor.Wat
