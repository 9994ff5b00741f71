/- Plain mathematics of second chances: who goes next, and in which order all go. -/
import Derived.Test.YthokagcjbaibfaaKit23
namespace Go.Proofs.Ythokagcjbaibfaa.Cha
open Go.RowKit
set_option linter.unusedVariables false
set_option linter.unusedSimpArgs false
/-- May element i stay when the hand comes to it. -/
def st (U V : List Bool) (i : Nat) : Bool := U.getD i false && !V.getD i false
/-- The element p steps from h on, round n. -/
def el (n h p : Nat) : Nat := (h + p) % n
/-- How far element i is from h, round n. -/
def dj (n h i : Nat) : Nat := if h ≤ i then i - h else i + n - h
theorem md {x n : Nat} (h : x < 2 * n) : x % n = if x < n then x else x - n := by
  split
  · exact Nat.mod_eq_of_lt (by omega)
  · rw [Nat.mod_eq_sub_mod (by omega)]; exact Nat.mod_eq_of_lt (by omega)
theorem el_lt {n h p : Nat} (hn : 0 < n) : el n h p < n := Nat.mod_lt _ hn
theorem el_eq {n h p : Nat} (hh : h < n) (hp : p < n) : el n h p = if h + p < n then h + p else h + p - n := by unfold el; exact md (by omega)
theorem el_add {n h p : Nat} : el n h (n + p) = el n h p := by
  unfold el
  rw [show h + (n + p) = h + p + n by omega, Nat.add_mod_right]
theorem el_zero {n h : Nat} (hh : h < n) : el n h 0 = h := by rw [el_eq hh (by omega)]; simp [hh]
theorem el_succ {n h p : Nat} : el n h (p + 1) = (el n h p + 1) % n := by unfold el; rw [← Nat.add_assoc, Nat.mod_add_mod]
theorem dj_el {n h p : Nat} (hh : h < n) (hp : p < n) : dj n h (el n h p) = p := by
  rw [el_eq hh hp]; unfold dj
  split <;> split <;> omega
theorem dj_lt {n h i : Nat} (hh : h < n) (hi : i < n) : dj n h i < n := by unfold dj; split <;> omega
theorem el_dj {n h i : Nat} (hh : h < n) (hi : i < n) : el n h (dj n h i) = i := by
  rw [el_eq hh (dj_lt hh hi)]; unfold dj
  split <;> split <;> omega
theorem dj_inj {n h i p : Nat} (hh : h < n) (hi : i < n) (hp : p < n) : dj n h i = p ↔ i = el n h p :=
  ⟨fun e => by rw [← e, el_dj hh hi], fun e => by rw [e, dj_el hh hp]⟩
/-- All elements in the ring's order, from h on. -/
def rnd (n h : Nat) : List Nat := (List.range n).map (el n h)
theorem rnd_length (n h : Nat) : (rnd n h).length = n := by simp [rnd]
theorem rnd_get {n h k : Nat} (hk : k < n) : (rnd n h)[k]? = some (el n h k) := by simp [rnd, hk]
theorem rnd_lt {n h i : Nat} (hn : 0 < n) (hi : i ∈ rnd n h) : i < n := by
  simp only [rnd, List.mem_map, List.mem_range] at hi
  obtain ⟨p, _, rfl⟩ := hi
  exact el_lt hn
theorem rot_range {n h : Nat} (hh : h < n) : (List.range n).drop h ++ (List.range n).take h = rnd n h := by
  apply List.ext_getElem?
  intro k
  by_cases hk : k < n
  · rw [rnd_get hk, el_eq hh hk, List.getElem?_append]
    simp only [List.length_drop, List.length_range]
    by_cases h2 : k < n - h
    · rw [if_pos h2, if_pos (by omega), List.getElem?_drop, List.getElem?_range (by omega)]
    · rw [if_neg h2, if_neg (by omega), List.getElem?_take, if_pos (by omega), List.getElem?_range (by omega)]
      congr 1; omega
  · rw [List.getElem?_eq_none (by simp only [List.length_append, List.length_drop, List.length_take, List.length_range]; omega), List.getElem?_eq_none (by rw [rnd_length]; omega)]
theorem rot_get {α : Type} (l : List α) {h k : Nat} (hh : h < l.length) (hk : k < l.length) : (l.drop h ++ l.take h)[k]? = l[el l.length h k]? := by
  rw [el_eq hh hk, List.getElem?_append, List.length_drop]
  by_cases h2 : k < l.length - h
  · rw [if_pos h2, if_pos (by omega), List.getElem?_drop]
  · rw [if_neg h2, if_neg (by omega), List.getElem?_take, if_pos (by omega)]
    congr 1; omega
/-- How many are passed. -/
def trn (U V : List Bool) (h : Nat) : Nat := (rnd U.length h).findIdx fun i => !st U V i
/-- What is used behind t steps of the hand. -/
def aft (U : List Bool) (h t : Nat) : List Bool := (List.range U.length).map fun i => U.getD i false && !decide (dj U.length h i < t)
theorem aft_length (U : List Bool) (h t : Nat) : (aft U h t).length = U.length := by simp [aft]
theorem aft_get {U : List Bool} {h t i : Nat} (hi : i < U.length) : (aft U h t).getD i false = (U.getD i false && !decide (dj U.length h i < t)) := by simp [aft, List.getD, hi]
theorem aft_zero (U : List Bool) (h : Nat) : aft U h 0 = U := by
  apply List.ext_getElem (by simp [aft])
  intro i h1 h2
  simp [aft, List.getD, h2]
theorem aft_succ {U : List Bool} {h t : Nat} (hh : h < U.length) (ht : t < U.length) : (aft U h t).set (el U.length h t) false = aft U h (t + 1) := by
  apply List.ext_getElem (by simp [aft])
  intro i h1 h2
  have hi : i < U.length := by simpa [aft] using h2
  have hj := dj_inj hh hi ht
  rw [List.getElem_set]
  by_cases e : el U.length h t = i
  · rw [if_pos e]; simp [aft]; have := hj.2 e.symm; intro _; omega
  · rw [if_neg e]
    have : dj U.length h i ≠ t := fun x => e (hj.1 x).symm
    simp only [aft, List.getElem_map, List.getElem_range]
    congr 2
    simp only [decide_eq_decide]; omega
theorem trn_le (U V : List Bool) (h : Nat) : trn U V h ≤ U.length := by
  have := List.findIdx_le_length (p := fun i => !st U V i) (xs := rnd U.length h)
  rw [rnd_length] at this
  exact this
theorem trn_before {U V : List Bool} {h p : Nat} (hp : p < trn U V h) : st U V (el U.length h p) = true := by
  have hl := trn_le U V h
  have h1 := List.not_of_lt_findIdx (p := fun i => !st U V i) (xs := rnd U.length h) hp
  have h2 := rnd_get (n := U.length) (h := h) (k := p) (by omega)
  rw [List.getElem?_eq_getElem (by rw [rnd_length]; omega)] at h2
  injection h2 with h2
  rw [h2] at h1
  simpa using h1
theorem trn_at {U V : List Bool} {h : Nat} (hp : trn U V h < U.length) : st U V (el U.length h (trn U V h)) = false := by
  have h1 := List.findIdx_getElem (p := fun i => !st U V i) (xs := rnd U.length h) (w := by rw [rnd_length]; exact hp)
  have h2 := rnd_get (n := U.length) (h := h) hp
  rw [List.getElem?_eq_getElem (by rw [rnd_length]; omega)] at h2
  injection h2 with h2
  unfold trn at h2
  rw [h2] at h1
  simpa [trn] using h1
/-- The hand's test behind t steps. -/
theorem aft_test {U V : List Bool} {h t : Nat} (hh : h < U.length) (ht : t < U.length) : (aft U h t).getD (el U.length h t) false && !V.getD (el U.length h t) false ↔ st U V (el U.length h t) = true := by
  rw [aft_get (el_lt (by omega)), dj_el hh ht]
  simp [st]
theorem aft_last {U : List Bool} {h : Nat} (hh : h < U.length) : (aft U h U.length).getD (el U.length h U.length) false = false := by
  have e : el U.length h U.length = h := by have := el_add (n := U.length) (h := h) (p := 0); rw [Nat.add_zero] at this; rw [this, el_zero hh]
  rw [e, aft_get hh]
  have := dj_lt hh hh
  simp [this]
theorem trn_eq {U V : List Bool} {h t : Nat} (hh : h < U.length) (ht : t ≤ U.length) (hb : ∀ p, p < t → st U V (el U.length h p) = true) (hs : t < U.length → st U V (el U.length h t) = false) : t = trn U V h := by
  have hl := trn_le U V h
  rcases Nat.lt_trichotomy t (trn U V h) with h1 | h1 | h1
  · have := trn_before h1; rw [hs (by omega)] at this; cases this
  · exact h1
  · have := trn_at (show trn U V h < U.length by omega); rw [hb _ h1] at this; cases this
theorem trn_all {U V : List Bool} {h : Nat} (hh : h < U.length) : trn U V h = U.length ↔ ∀ i, i < U.length → st U V i = true := by
  constructor
  · intro e i hi
    have := trn_before (U := U) (V := V) (h := h) (p := dj U.length h i) (by rw [e]; exact dj_lt hh hi)
    rwa [el_dj hh hi] at this
  · intro hall
    exact (trn_eq hh (Nat.le_refl _) (fun p _ => hall _ (el_lt (by omega))) (fun h => absurd h (by omega))).symm
/-- What the code joins: as many that are unused, and the others as they are, cut again. -/
theorem aft_cut {U : List Bool} {h t : Nat} (hh : h < U.length) (ht : t ≤ U.length) :
    let A := List.replicate t false ++ (U.drop h ++ U.take h).drop t
    A.drop (U.length - h) ++ A.take (U.length - h) = aft U h t := by
  intro A
  have hA : A.length = U.length := by simp [A]; omega
  have hg : ∀ k, k < U.length → A[k]? = some (U.getD (el U.length h k) false && !decide (k < t)) := by
    intro k hk
    simp only [A]
    rw [List.getElem?_append, List.length_replicate]
    by_cases h1 : k < t
    · rw [if_pos h1, List.getElem?_replicate, if_pos h1]; simp [h1]
    · rw [if_neg h1, List.getElem?_drop, show t + (k - t) = k by omega, rot_get U hh hk]
      have := el_lt (n := U.length) (h := h) (p := k) (by omega)
      simp [h1, List.getD, this]
  apply List.ext_getElem?
  intro i
  by_cases hi : i < U.length
  · have hr : (aft U h t)[i]? = some (U.getD i false && !decide (dj U.length h i < t)) := by simp [aft, hi]
    rw [hr, List.getElem?_append, List.length_drop, hA]
    by_cases h1 : i < h
    · rw [if_pos (by omega), List.getElem?_drop, hg _ (by omega)]
      have e : dj U.length h i = U.length - h + i := by unfold dj; rw [if_neg (by omega)]; omega
      have := el_dj (n := U.length) hh hi
      rw [e] at this
      rw [this, e]
    · rw [if_neg (by omega), List.getElem?_take, if_pos (by omega), hg _ (by omega)]
      have e : dj U.length h i = i - (U.length - (U.length - h)) := by unfold dj; rw [if_pos (by omega)]; omega
      have := el_dj (n := U.length) hh hi
      rw [e] at this
      rw [this, e]
  · rw [List.getElem?_eq_none (by simp [hA]; omega), List.getElem?_eq_none (by simp [aft]; omega)]
/-- Does the p-th visit take its element. -/
def tk (U V : List Bool) (h p : Nat) : Bool := if p < U.length then !st U V (el U.length h p) else st U V (el U.length h p)
/-- Who went behind p visits. -/
def outP (U V : List Bool) (h p : Nat) : List Nat := ((List.range p).filter (tk U V h)).map (el U.length h)
theorem outP_zero (U V : List Bool) (h : Nat) : outP U V h 0 = [] := rfl
theorem outP_succ (U V : List Bool) (h p : Nat) : outP U V h (p + 1) = outP U V h p ++ if tk U V h p then [el U.length h p] else [] := by
  unfold outP
  rw [List.range_succ, List.filter_append, List.map_append]
  congr 1
  by_cases e : tk U V h p <;> simp [e]
/-- In which order all go. -/
def ord (U V : List Bool) (h : Nat) : List Nat := (rnd U.length h).filter (fun i => !st U V i) ++ (rnd U.length h).filter (st U V)
theorem outP_ord (U V : List Bool) (h : Nat) : outP U V h (2 * U.length) = ord U V h := by
  unfold outP ord rnd
  rw [show 2 * U.length = U.length + U.length by omega, List.range_add, List.filter_append, List.map_append]
  congr 1
  · rw [List.filter_map]
    congr 1
    apply List.filter_congr
    intro x hx
    simp only [List.mem_range] at hx
    simp [tk, hx]
  · rw [List.filter_map, List.filter_map, List.map_map]
    have e : (el U.length h ∘ fun x => U.length + x) = el U.length h := by funext x; exact el_add
    rw [e]
    congr 1
    apply List.filter_congr
    intro x hx
    have : ¬ U.length + x < U.length := by omega
    simp [tk, this, el_add]
theorem filter_parts {α : Type} (p : α → Bool) (l : List α) : (l.filter (fun i => !p i)).length + (l.filter p).length = l.length := by
  induction l with
  | nil => rfl
  | cons x l ih => by_cases e : p x <;> simp [List.filter_cons, e] <;> omega
theorem ord_length (U V : List Bool) (h : Nat) : (ord U V h).length = U.length := by
  unfold ord
  rw [List.length_append, filter_parts, rnd_length]
theorem ord_lt {U V : List Bool} {h i : Nat} (hh : h < U.length) (hi : i ∈ ord U V h) : i < U.length := by
  unfold ord at hi
  rw [List.mem_append] at hi
  rcases hi with hi | hi
  · exact rnd_lt (by omega) (List.mem_filter.1 hi).1
  · exact rnd_lt (by omega) (List.mem_filter.1 hi).1
/-- Which are gone behind p visits. -/
def gn (U V : List Bool) (h p i : Nat) : Bool := (decide (dj U.length h i < p) && !st U V i) || (decide (dj U.length h i + U.length < p) && st U V i)
/-- Which are used behind p visits. -/
def us (U V : List Bool) (h p i : Nat) : Bool := U.getD i false && !(decide (dj U.length h i < p) && st U V i)
theorem gn_zero (U V : List Bool) (h i : Nat) : gn U V h 0 i = false := by simp [gn]
theorem us_zero (U V : List Bool) (h i : Nat) : us U V h 0 i = U.getD i false := by simp [us]
/-- The p-th visited one is gone already: nothing changes. -/
theorem gone_skip {U V : List Bool} {h p : Nat} (hh : h < U.length) (hp : p < 2 * U.length) (hg : gn U V h p (el U.length h p) = true) :
    tk U V h p = false ∧ (∀ i, i < U.length → gn U V h (p + 1) i = gn U V h p i) ∧ (∀ i, i < U.length → us U V h (p + 1) i = us U V h p i) := by
  by_cases h1 : p < U.length
  · exfalso
    simp only [gn, dj_el hh h1] at hg
    simp at hg
    omega
  · obtain ⟨q, rfl⟩ : ∃ q, p = U.length + q := ⟨p - U.length, by omega⟩
    have hq : q < U.length := by omega
    rw [el_add] at hg
    simp only [gn, dj_el hh hq] at hg
    have hs : st U V (el U.length h q) = false := by
      cases e : st U V (el U.length h q)
      · rfl
      · rw [e] at hg; simp at hg; omega
    refine ⟨by simp [tk, el_add, hs], fun i hi => ?_, fun i hi => ?_⟩
    · have hj := dj_inj hh hi hq
      have hl := dj_lt hh hi
      by_cases e : i = el U.length h q
      · subst e; simp only [gn, hs]; have := hj.2 rfl; simp; omega
      · have : dj U.length h i ≠ q := fun x => e (hj.1 x)
        have a1 : decide (dj U.length h i < U.length + q + 1) = true := by simp; omega
        have a2 : decide (dj U.length h i < U.length + q) = true := by simp; omega
        have a3 : decide (dj U.length h i + U.length < U.length + q + 1) = decide (dj U.length h i + U.length < U.length + q) := by simp only [decide_eq_decide]; omega
        simp only [gn, a1, a2, a3]
    · have hl := dj_lt hh hi
      have a1 : decide (dj U.length h i < U.length + q + 1) = true := by simp; omega
      have a2 : decide (dj U.length h i < U.length + q) = true := by simp; omega
      simp only [us, a1, a2]
/-- The p-th visited one is there still: it is taken, or is not used from then on. -/
theorem gone_not {U V : List Bool} {h p : Nat} (hh : h < U.length) (hp : p < 2 * U.length) (hg : gn U V h p (el U.length h p) = false) :
    (us U V h p (el U.length h p) && !V.getD (el U.length h p) false) = !tk U V h p ∧
    (∀ i, i < U.length → gn U V h (p + 1) i = if tk U V h p && decide (i = el U.length h p) then true else gn U V h p i) ∧
    (∀ i, i < U.length → us U V h (p + 1) i = if !tk U V h p && decide (i = el U.length h p) then false else us U V h p i) := by
  by_cases h1 : p < U.length
  · have hd := dj_el hh h1
    have hk : tk U V h p = !st U V (el U.length h p) := by simp [tk, h1]
    refine ⟨by rw [hk]; simp [us, hd, st], fun i hi => ?_, fun i hi => ?_⟩
    · have hj := dj_inj hh hi h1
      have hl := dj_lt hh hi
      rw [hk]
      have a3 : decide (dj U.length h i + U.length < p + 1) = false := by simp; omega
      have a4 : decide (dj U.length h i + U.length < p) = false := by simp; omega
      by_cases e : i = el U.length h p
      · subst e; simp [gn, hd]
        cases e2 : st U V (el U.length h p) <;> simp
        · have : ¬ (p + U.length < p + 1) := by omega
          first | omega | (intro; omega) | simp_all
        all_goals first | omega | (intro; omega) | simp_all
      · have : dj U.length h i ≠ p := fun x => e (hj.1 x)
        have a1 : decide (dj U.length h i < p + 1) = decide (dj U.length h i < p) := by simp only [decide_eq_decide]; omega
        simp only [gn, a1, a3, a4, e, decide_false, Bool.and_false, Bool.false_eq_true, if_false]
    · have hj := dj_inj hh hi h1
      rw [hk]
      by_cases e : i = el U.length h p
      · subst e
        cases e2 : st U V (el U.length h p) <;> simp [us, hd, e2]
      · have : dj U.length h i ≠ p := fun x => e (hj.1 x)
        have a1 : decide (dj U.length h i < p + 1) = decide (dj U.length h i < p) := by simp only [decide_eq_decide]; omega
        simp only [us, a1, e, decide_false, Bool.and_false, Bool.false_eq_true, if_false]
  · obtain ⟨q, rfl⟩ : ∃ q, p = U.length + q := ⟨p - U.length, by omega⟩
    have hq : q < U.length := by omega
    have hd := dj_el hh hq
    rw [el_add] at hg ⊢
    have hs : st U V (el U.length h q) = true := by
      cases e : st U V (el U.length h q)
      · simp only [gn, hd, e] at hg
        rw [show decide (q < U.length + q) = true from decide_eq_true (by omega)] at hg
        simp at hg
      · rfl
    have hk : tk U V h (U.length + q) = true := by simp [tk, el_add, hs]
    refine ⟨?_, fun i hi => ?_, fun i hi => ?_⟩
    · rw [hk]; simp only [us, hd, hs]
      rw [show decide (q < U.length + q) = true from decide_eq_true (by omega)]
      simp
    · have hj := dj_inj hh hi hq
      have hl := dj_lt hh hi
      rw [hk]
      have a1 : decide (dj U.length h i < U.length + q + 1) = true := by simp; omega
      have a2 : decide (dj U.length h i < U.length + q) = true := by simp; omega
      by_cases e : i = el U.length h q
      · subst e
        have a3 : decide (dj U.length h (el U.length h q) + U.length < U.length + q + 1) = true := by rw [hd]; simp; omega
        simp [gn, a3, hs]
      · have : dj U.length h i ≠ q := fun x => e (hj.1 x)
        have a3 : decide (dj U.length h i + U.length < U.length + q + 1) = decide (dj U.length h i + U.length < U.length + q) := by simp only [decide_eq_decide]; omega
        simp only [gn, a1, a2, a3, e, decide_false, Bool.and_false, Bool.false_eq_true, if_false]
    · have hl := dj_lt hh hi
      rw [hk]
      have a1 : decide (dj U.length h i < U.length + q + 1) = true := by simp; omega
      have a2 : decide (dj U.length h i < U.length + q) = true := by simp; omega
      simp [us, a1, a2]
/-- The first one to go is the one that the hand selects. -/
theorem filter_first {α : Type} (p : α → Bool) (l : List α) (h : l.findIdx p < l.length) : (l.filter p)[0]? = l[l.findIdx p]? := by
  induction l with
  | nil => simp at h
  | cons x l ih =>
    rw [List.findIdx_cons] at h ⊢
    by_cases e : p x
    · simp [e]
    · simp only [e, cond_false] at h ⊢
      rw [List.filter_cons, if_neg e, ih (by simpa using h)]
      simp
theorem ord_first {U V : List Bool} {h : Nat} (hh : h < U.length) : (ord U V h)[0]? = some (el U.length h (trn U V h)) := by
  unfold ord
  by_cases e : trn U V h < U.length
  · have h1 := filter_first (fun i => !st U V i) (rnd U.length h) (by rw [rnd_length]; exact e)
    rw [show (rnd U.length h).findIdx (fun i => !st U V i) = trn U V h from rfl, rnd_get e] at h1
    rw [List.getElem?_append_left, h1]
    exact (List.getElem?_eq_some_iff.1 h1).1
  · have e2 : trn U V h = U.length := by have := trn_le U V h; omega
    have hall := (trn_all hh).1 e2
    have f1 : (rnd U.length h).filter (fun i => !st U V i) = [] := by
      rw [List.filter_eq_nil_iff]
      intro i hi
      rw [hall i (rnd_lt (by omega) hi)]; simp
    have f2 : (rnd U.length h).filter (st U V) = rnd U.length h := by
      rw [List.filter_eq_self]
      intro i hi
      exact hall i (rnd_lt (by omega) hi)
    have := el_add (n := U.length) (h := h) (p := 0)
    rw [f1, f2, List.nil_append, rnd_get (by omega), e2]
    rw [Nat.add_zero] at this
    rw [this]
theorem count_parts (p : Nat → Bool) (l : List Nat) (i : Nat) : (l.filter (fun i => !p i)).count i + (l.filter p).count i = l.count i := by
  induction l with
  | nil => rfl
  | cons x l ih => by_cases e : p x <;> simp [List.filter_cons, e, List.count_cons] <;> omega
theorem rnd_count {n h i : Nat} (hh : h < n) (hi : i < n) : (rnd n h).count i = 1 := by
  have hn : (rnd n h).Nodup := by
    rw [List.nodup_iff_pairwise_ne, List.pairwise_iff_getElem]
    intro a b ha hb hab e
    rw [rnd_length] at ha hb
    simp only [rnd, List.getElem_map, List.getElem_range] at e
    have e1 := dj_el hh ha
    have e2 := dj_el hh hb
    rw [e] at e1
    omega
  have hm : i ∈ rnd n h := by
    simp only [rnd, List.mem_map, List.mem_range]
    exact ⟨dj n h i, dj_lt hh hi, el_dj hh hi⟩
  rw [hn.count, if_pos hm]
theorem ord_count {U V : List Bool} {h i : Nat} (hh : h < U.length) (hi : i < U.length) : (ord U V h).count i = 1 := by
  unfold ord
  rw [List.count_append, count_parts, rnd_count hh hi]
/-- Nobody over: which of the order are used. -/
theorem ord_used {U : List Bool} {h k : Nat} (hk : k < U.length) (V : List Bool) (hV : ∀ i, V.getD i false = false) :
    U.getD ((ord U V h).getD k 0) false = decide (((rnd U.length h).filter (fun i => !st U V i)).length ≤ k) := by
  have hl := ord_length U V h
  have hst : ∀ i, st U V i = U.getD i false := fun i => by unfold st; rw [hV]; simp
  have hm : (ord U V h).getD k 0 = (ord U V h)[k]'(by omega) := by simp [List.getD, show k < (ord U V h).length by omega]
  rw [hm]
  by_cases e : k < ((rnd U.length h).filter (fun i => !st U V i)).length
  · have : (ord U V h)[k]'(by omega) = ((rnd U.length h).filter (fun i => !st U V i))[k] := by simp only [ord]; exact List.getElem_append_left e
    have h2 := (List.mem_filter.1 (List.getElem_mem e)).2
    rw [hst] at h2
    rw [this, show U.getD _ false = false by simpa using h2]
    simp; omega
  · have hk2 : k - ((rnd U.length h).filter (fun i => !st U V i)).length < ((rnd U.length h).filter (st U V)).length := by
      have := filter_parts (st U V) (rnd U.length h)
      rw [rnd_length] at this
      omega
    have : (ord U V h)[k]'(by omega) = ((rnd U.length h).filter (st U V))[k - ((rnd U.length h).filter (fun i => !st U V i)).length] := by simp only [ord]; exact List.getElem_append_right (by omega)
    have h2 := (List.mem_filter.1 (List.getElem_mem hk2)).2
    rw [hst] at h2
    rw [this, h2]; simp; omega
end Go.Proofs.Ythokagcjbaibfaa.Cha
