/- Plain mathematics of fold: lists of integers for texts. -/
namespace Go.Proofs.Ytjhmjimfehanbaa.Fold

/-- A byte's small letter. -/
def lw (c : Int) : Int := if 65 ≤ c ∧ c ≤ 90 then c + 32 else c
def low (l : List Int) : List Int := l.map lw
/-- With how many bytes both begin. -/
def com : List Int → List Int → Nat
  | x :: a, y :: b => if lw x = lw y then com a b + 1 else 0
  | _, _ => 0
def cmp3 (x y : Int) : Int := if x < y then -1 else if y < x then 1 else 0
def cmpL : List Int → List Int → Int
  | [], [] => 0
  | [], _ :: _ => -1
  | _ :: _, [] => 1
  | x :: a, y :: b => if lw x < lw y then -1 else if lw y < lw x then 1 else cmpL a b
def sameB (a b : List Int) : Bool := low a == low b
def good (c : Int) : Bool := decide (33 ≤ c) && (decide (c ≤ 126) && !(c == 46))
def lab (l : List Int) : Int := if 1 ≤ l.length ∧ l.length ≤ 63 ∧ l.all good = true then 0 else 20

theorem lw_bd (c : Int) (h0 : 0 ≤ c) (h1 : c < 256) : 0 ≤ lw c ∧ lw c < 256 := by unfold lw; split <;> omega
theorem lw_lw (c : Int) : lw (lw c) = lw c := by
  by_cases h : 65 ≤ c ∧ c ≤ 90
  · have e : lw c = c + 32 := by rw [lw, if_pos h]
    rw [e, lw, if_neg (by omega)]
  · have e : lw c = c := by rw [lw, if_neg h]
    rw [e, e]
theorem low_low (l : List Int) : low (low l) = low l := by simp [low, lw_lw]
theorem low_length (l : List Int) : (low l).length = l.length := by simp [low]
theorem good_lw (c : Int) : good (lw c) = good c := by
  unfold lw
  split
  · rw [Bool.eq_iff_iff]; simp [good]; omega
  · rfl
theorem lab_low (l : List Int) : lab (low l) = lab l := by
  have e : (low l).all good = l.all good := by
    unfold low
    rw [List.all_map]
    congr 1
    funext c
    exact good_lw c
  simp only [lab, low_length, e]

theorem com_le (a b : List Int) : com a b ≤ a.length ∧ com a b ≤ b.length := by
  induction a generalizing b with
  | nil => simp [com]
  | cons x a ih =>
    cases b with
    | nil => simp [com]
    | cons y b =>
      have := ih b
      simp only [com]
      split <;> simp_all
theorem com_comm (a b : List Int) : com a b = com b a := by
  induction a generalizing b with
  | nil => cases b <;> simp [com]
  | cons x a ih =>
    cases b with
    | nil => simp [com]
    | cons y b => simp only [com, ih b, eq_comm]
theorem com_same (a b : List Int) : (a.length = b.length ∧ com a b = a.length) ↔ low a = low b := by
  induction a generalizing b with
  | nil => cases b <;> simp [com, low]
  | cons x a ih =>
    cases b with
    | nil => simp [com, low]
    | cons y b =>
      have := ih b
      simp only [com, low, List.map_cons, List.length_cons, List.cons.injEq] at *
      split
      · rename_i h; rw [← this]; omega
      · rename_i h; constructor
        · rintro ⟨_, h2⟩; omega
        · rintro ⟨h2, _⟩; exact absurd h2 h
theorem sameB_com (a b : List Int) : sameB a b = (decide (a.length = b.length) && decide (com a b = a.length)) := by
  rw [Bool.eq_iff_iff]
  simp only [sameB, beq_iff_eq, Bool.and_eq_true, decide_eq_true_eq]
  exact (com_same a b).symm
theorem com_take (a b : List Int) : low (a.take (com a b)) = low (b.take (com a b)) := by
  induction a generalizing b with
  | nil => cases b <;> simp [com, low]
  | cons x a ih =>
    cases b with
    | nil => simp [com, low]
    | cons y b =>
      have := ih b
      simp only [com]
      split
      · rename_i h; simp [low, h] at *; exact this
      · simp [low]
theorem com_cons (a b : List Int) (k : Nat) (ha : k < a.length) (hb : k < b.length) :
    com (a.drop k) (b.drop k) = if lw (a.getD k 0) = lw (b.getD k 0) then com (a.drop (k + 1)) (b.drop (k + 1)) + 1 else 0 := by
  rw [List.drop_eq_getElem_cons ha, List.drop_eq_getElem_cons hb]
  simp [com, List.getD, ha, hb]
theorem com_end (a b : List Int) (k : Nat) (h : a.length ≤ k ∨ b.length ≤ k) : com (a.drop k) (b.drop k) = 0 := by
  rcases h with h | h
  · rw [List.drop_eq_nil_of_le h]; cases b.drop k <;> simp [com]
  · rw [List.drop_eq_nil_of_le h]; cases a.drop k <;> simp [com]
theorem cmp_cons (a b : List Int) (k : Nat) (ha : k < a.length) (hb : k < b.length) :
    cmpL (a.drop k) (b.drop k) = if lw (a.getD k 0) < lw (b.getD k 0) then -1 else if lw (b.getD k 0) < lw (a.getD k 0) then 1 else cmpL (a.drop (k + 1)) (b.drop (k + 1)) := by
  rw [List.drop_eq_getElem_cons ha, List.drop_eq_getElem_cons hb]
  simp [cmpL, List.getD, ha, hb]
theorem cmp_end (a b : List Int) (k : Nat) (hk : k ≤ a.length) (hk2 : k ≤ b.length) (h : a.length ≤ k ∨ b.length ≤ k) : cmpL (a.drop k) (b.drop k) = cmp3 a.length b.length := by
  rcases h with h | h
  · rw [List.drop_eq_nil_of_le h]
    by_cases e : b.length ≤ k
    · rw [List.drop_eq_nil_of_le e]; simp [cmpL, cmp3]; omega
    · rw [List.drop_eq_getElem_cons (by omega)]; simp [cmpL, cmp3]; omega
  · rw [List.drop_eq_nil_of_le h]
    by_cases e : a.length ≤ k
    · rw [List.drop_eq_nil_of_le e]; simp [cmpL, cmp3]; omega
    · rw [List.drop_eq_getElem_cons (by omega)]; simp [cmpL, cmp3]; omega
/-- Compare by Common. -/
theorem cmp_com (a b : List Int) : cmpL a b = if com a b < a.length ∧ com a b < b.length then cmp3 (lw (a.getD (com a b) 0)) (lw (b.getD (com a b) 0)) else cmp3 a.length b.length := by
  induction a generalizing b with
  | nil => cases b <;> simp [com, cmpL, cmp3]
  | cons x a ih =>
    cases b with
    | nil => simp [com, cmpL, cmp3]; omega
    | cons y b =>
      have := ih b
      by_cases h : lw x = lw y
      · simp only [com, cmpL, h, if_true, List.length_cons, Nat.add_lt_add_iff_right, this, Int.lt_irrefl, if_false]
        simp [cmp3]
      · simp only [com, h, if_false, cmpL, cmp3]
        simp
        by_cases h1 : lw x < lw y
        · simp [h1]
        · have h2 : lw y < lw x := by omega
          simp [h1, h2]

theorem cmp_neg (a b : List Int) : cmpL a b = -cmpL b a := by
  induction a generalizing b with
  | nil => cases b <;> simp [cmpL]
  | cons x a ih =>
    cases b with
    | nil => simp [cmpL]
    | cons y b =>
      have := ih b
      simp only [cmpL]
      split
      · rename_i h; rw [if_neg (by omega)]
      · split
        · simp
        · exact this
theorem cmp_bd (a b : List Int) : -1 ≤ cmpL a b ∧ cmpL a b ≤ 1 := by
  induction a generalizing b with
  | nil => cases b <;> simp [cmpL]
  | cons x a ih =>
    cases b with
    | nil => simp [cmpL]
    | cons y b =>
      have := ih b
      simp only [cmpL]
      split
      · omega
      · split <;> omega
theorem cmp_zero (a b : List Int) : cmpL a b = 0 ↔ low a = low b := by
  induction a generalizing b with
  | nil => cases b <;> simp [cmpL, low]
  | cons x a ih =>
    cases b with
    | nil => simp [cmpL, low]
    | cons y b =>
      have := ih b
      simp only [cmpL, low, List.map_cons, List.cons.injEq] at *
      split
      · constructor
        · intro h; omega
        · rintro ⟨h, _⟩; omega
      · split
        · constructor
          · intro h; omega
          · rintro ⟨h, _⟩; omega
        · rw [this]
          constructor
          · intro h; exact ⟨by omega, h⟩
          · exact fun h => h.2
theorem cmp_trans (a b c : List Int) (h1 : cmpL a b ≤ 0) (h2 : cmpL b c ≤ 0) : cmpL a c ≤ 0 ∧ (cmpL a c = 0 → cmpL a b = 0 ∧ cmpL b c = 0) := by
  induction a generalizing b c with
  | nil =>
    cases b with
    | nil => cases c <;> simp [cmpL] at *
    | cons y b =>
      cases c with
      | nil => simp [cmpL] at h2
      | cons z c => simp [cmpL]
  | cons x a ih =>
    cases b with
    | nil => simp [cmpL] at h1
    | cons y b =>
      cases c with
      | nil => simp [cmpL] at h2
      | cons z c =>
        simp only [cmpL] at *
        by_cases a1 : lw x < lw y
        · have c1 : lw x < lw z := by
            by_cases a2 : lw y < lw z
            · omega
            · by_cases a3 : lw z < lw y
              · rw [if_neg a2, if_pos a3] at h2; omega
              · omega
          rw [if_pos c1]
          exact ⟨by omega, fun h => by omega⟩
        · by_cases a2 : lw y < lw x
          · rw [if_neg a1, if_pos a2] at h1; omega
          · obtain e : lw x = lw y := by omega
            rw [if_neg a1, if_neg a2] at h1 ⊢
            rw [e]
            by_cases b1 : lw y < lw z
            · rw [if_pos b1]; exact ⟨by omega, fun h => by omega⟩
            · by_cases b2 : lw z < lw y
              · rw [if_neg b1, if_pos b2] at h2; omega
              · rw [if_neg b1, if_neg b2] at h2 ⊢
                rw [if_neg b1, if_neg b2]
                exact ih b c h1 h2
theorem low_getD (l : List Int) (k : Nat) (h : k < l.length) : (low l).getD k 0 = lw (l.getD k 0) := by simp [low, List.getD, h]
end Go.Proofs.Ytjhmjimfehanbaa.Fold
