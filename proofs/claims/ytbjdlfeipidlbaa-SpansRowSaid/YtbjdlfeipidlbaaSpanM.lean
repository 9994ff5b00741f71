/- Plain mathematics of spans; slices of pairs of numbers. -/
import Derived.Test.YtbjdlfeipidlbaaRecM
import Derived.Test.YtbjdlfeipidlbaaRecB
namespace Go.Proofs.Ytbjdlfeipidlbaa.Span
open Go.RowKit Rec
set_option linter.unusedVariables false

/-- Where records lie, the first one from n on. -/
def spL (n : Nat) : List (List Int) → List (Nat × Nat)
  | [] => []
  | l :: L => (n, l.length) :: spL (n + l.length) L
theorem spL_length (n : Nat) (L : List (List Int)) : (spL n L).length = L.length := by
  induction L generalizing n with
  | nil => rfl
  | cons l L ih => simp [spL, ih]
theorem spL_append (n : Nat) (A B : List (List Int)) : spL n (A ++ B) = spL n A ++ spL (n + dat A) B := by
  induction A generalizing n with
  | nil => simp [spL, dat]
  | cons l A ih => simp [spL, ih, dat_cons, Nat.add_assoc]
theorem spL_get (n : Nat) (L : List (List Int)) (k : Nat) (h : k < L.length) : (spL n L).getD k (0, 0) = (n + dat (L.take k), (L.getD k []).length) := by
  induction L generalizing n k with
  | nil => simp at h
  | cons l L ih =>
    cases k with
    | zero => simp [spL, dat]
    | succ k =>
      have := ih (n + l.length) k (by simpa using h)
      simp only [spL, List.getD_cons_succ, List.take_succ_cons, dat_cons]
      rw [this]
      simp [Nat.add_assoc]
theorem spL_take (n : Nat) (L : List (List Int)) (k : Nat) : spL n (L.take k) = (spL n L).take k := by
  induction L generalizing n k with
  | nil => simp [spL]
  | cons l L ih =>
    cases k with
    | zero => simp [spL]
    | succ k => simp [spL, ih]
/-- What Of answers. -/
def ofV (l : List Int) : List (Nat × Nat) × Int := if (unpV l).2 = 0 then (spL (2 + 2 * (unpV l).1.length) (unpV l).1, 0) else ([], (unpV l).2)
theorem ofV_no {l : List Int} (h : ¬ (unpV l).2 = 0) : ofV l = ([], (unpV l).2) := by rw [ofV, if_neg h]
theorem ofV_yes {l : List Int} {L : List (List Int)} (h : unpV l = (L, 0)) : ofV l = (spL (2 + 2 * L.length) L, 0) := by rw [ofV, h, if_pos rfl]

/-- A slice of pairs of numbers reads as a list. -/
def PRow (w : World) (v : Value) (P : List (Nat × Nat)) : Prop :=
  ∃ a cap, v = .slice a P.length cap ∧ P.length ≤ cap ∧ cap ≤ 9223372036854775807 ∧
    (P ≠ [] → ∃ b off, a = some ⟨b, off, none⟩ ∧ b < w.heap.size ∧ ∀ i, i < P.length → w.cell? ⟨b, off + i * 2, none⟩ = some (.int .i64 ((P.getD i (0, 0)).1 : Int)) ∧ w.cell? ⟨b, off + i * 2 + 1, none⟩ = some (.int .i64 ((P.getD i (0, 0)).2 : Int)))
theorem PRow.mono {w w' : World} {v : Value} {P : List (Nat × Nat)} {B : Nat} (h : PRow w v P) (hb : Below B w w') (hB : w.heap.size ≤ B) : PRow w' v P := by
  obtain ⟨a, cap, h1, h2, h3, h5⟩ := h
  refine ⟨a, cap, h1, h2, h3, fun hne => ?_⟩
  obtain ⟨b, off, e, hlt, hc⟩ := h5 hne
  exact ⟨b, off, e, Nat.lt_of_lt_of_le hlt hb.size, fun i hi => ⟨(hb.cell (p := ⟨b, off + i * 2, none⟩) (show b < B by omega)).trans (hc i hi).1, (hb.cell (p := ⟨b, off + i * 2 + 1, none⟩) (show b < B by omega)).trans (hc i hi).2⟩⟩
theorem PRow.nil (w : World) : PRow w (.slice none 0 0) [] := ⟨none, 0, rfl, by simp, by omega, fun h => absurd rfl h⟩
def valsP (P : List (Nat × Nat)) : List Value := P.flatMap fun p => [.int .i64 (p.1 : Int), .int .i64 (p.2 : Int)]
theorem valsP_snoc (P : List (Nat × Nat)) (x y : Nat) : valsP (P ++ [(x, y)]) = valsP P ++ [.int .i64 (x : Int), .int .i64 (y : Int)] := by simp [valsP]
theorem valsP_length (P : List (Nat × Nat)) : (valsP P).length = P.length * 2 := by
  induction P with
  | nil => rfl
  | cons p P ih => simp [valsP] at ih ⊢; omega
theorem valsP_get (P : List (Nat × Nat)) (i : Nat) (h : i < P.length) : (valsP P)[i * 2]? = some (.int .i64 ((P.getD i (0, 0)).1 : Int)) ∧ (valsP P)[i * 2 + 1]? = some (.int .i64 ((P.getD i (0, 0)).2 : Int)) := by
  induction P generalizing i with
  | nil => simp at h
  | cons p P ih =>
    have e : valsP (p :: P) = .int .i64 (p.1 : Int) :: .int .i64 (p.2 : Int) :: valsP P := by simp [valsP]
    rw [e]
    cases i with
    | zero => exact ⟨rfl, rfl⟩
    | succ i =>
      have := ih i (by simpa using h)
      rw [show (i + 1) * 2 = i * 2 + 1 + 1 by omega]
      simpa using this
theorem prow_of_owns {w : World} {base : Nat} {t : TypeId} {v : Value} {n : Nat} {P : List (Nat × Nat)} (h : w.ownsRow base t 2 v n (valsP P)) (hn : P.length = n) : PRow w v P := by
  obtain ⟨h1, h2⟩ := h
  subst hn
  rcases h2 with ⟨rfl, h0⟩ | ⟨g, cap, cur, rfl, hg, hh, hle, hm, hsz, htk⟩
  · obtain rfl : P = [] := List.eq_nil_of_length_eq_zero h0
    exact PRow.nil _
  · refine ⟨_, cap, rfl, hle, by unfold maxLen at hm; omega, fun _ => ⟨g, 0, rfl, (Array.getElem?_eq_some_iff.1 hh).1, fun i hi => ?_⟩⟩
    obtain ⟨e1, e2⟩ := valsP_get P i hi
    rw [← htk, List.getElem?_take_of_lt (by omega)] at e1 e2
    rw [Nat.zero_add, cell_block hh, cell_block hh]
    simp at e1 e2
    exact ⟨e1, e2⟩
theorem ofV_fits {l : List Int} {L : List (List Int)} (hb : ∀ i, 0 ≤ l.getD i 0 ∧ l.getD i 0 < 256) (h : unpV l = (L, 0)) : l.length = 2 + 2 * L.length + dat L ∧ 1 ≤ L.length ∧ L.length ≤ 16 ∧ l.length ≤ 480 := by
  have h1 := pack_unp l hb (by rw [h])
  rw [h] at h1
  simp only [] at h1
  have h2 := packL_length L
  rw [h1.1] at h2
  have h3 := h1.2
  unfold szE at h3
  unfold szL at h2 h3
  split at h3
  · omega
  · split at h3
    · omega
    · omega
end Go.Proofs.Ytbjdlfeipidlbaa.Span
