/- Slices of structs: each of k cells, as enc says. -/
import Derived.Test.YtjikikiconhlaaaKit3
namespace Go.Proofs.Ytjikikiconhlaaa
open Go.RowKit

/-- A slice value reads as a list of things, each laid as k cells. -/
def ARow {α : Type} (k : Nat) (enc : α → List Value) (d : α) (w : World) (v : Value) (P : List α) : Prop :=
  ∃ a cap, v = .slice a P.length cap ∧ P.length ≤ cap ∧ cap ≤ 9223372036854775807 ∧
    (P ≠ [] → ∃ b off, a = some ⟨b, off, none⟩ ∧ b < w.heap.size ∧ ∀ i, i < P.length → ∀ j x, (enc (P.getD i d))[j]? = some x → w.cell? ⟨b, off + i * k + j, none⟩ = some x)
theorem ARow.mono {α : Type} {k : Nat} {enc : α → List Value} {d : α} {w w' : World} {v : Value} {P : List α} {B : Nat} (h : ARow k enc d w v P) (hb : Below B w w') (hB : w.heap.size ≤ B) : ARow k enc d w' v P := by
  obtain ⟨a, cap, h1, h2, h3, h5⟩ := h
  refine ⟨a, cap, h1, h2, h3, fun hne => ?_⟩
  obtain ⟨b, off, e, hlt, hc⟩ := h5 hne
  exact ⟨b, off, e, Nat.lt_of_lt_of_le hlt hb.size, fun i hi j x hx => (hb.cell (p := ⟨b, off + i * k + j, none⟩) (show b < B by omega)).trans (hc i hi j x hx)⟩
theorem ARow.nil {α : Type} (k : Nat) (enc : α → List Value) (d : α) (w : World) : ARow k enc d w (.slice none 0 0) [] := ⟨none, 0, rfl, by simp, by omega, fun h => absurd rfl h⟩
def valsA {α : Type} (enc : α → List Value) (P : List α) : List Value := P.flatMap enc
theorem valsA_snoc {α : Type} (enc : α → List Value) (P : List α) (x : α) : valsA enc (P ++ [x]) = valsA enc P ++ enc x := by simp [valsA]
theorem valsA_get {α : Type} {k : Nat} {enc : α → List Value} (hk : ∀ x, (enc x).length = k) (d : α) (P : List α) (i : Nat) (h : i < P.length) (j : Nat) (hj : j < k) : (valsA enc P)[i * k + j]? = (enc (P.getD i d))[j]? := by
  induction P generalizing i with
  | nil => simp at h
  | cons p P ih =>
    have e : valsA enc (p :: P) = enc p ++ valsA enc P := by simp [valsA]
    rw [e]
    cases i with
    | zero => rw [List.getElem?_append_left (by rw [hk]; omega)]; simp
    | succ i =>
      have := ih i (by simpa using h)
      rw [List.getElem?_append_right (by rw [hk, Nat.add_mul]; omega), hk, show (i + 1) * k + j - k = i * k + j by rw [Nat.add_mul]; omega, this]
      simp
theorem valsA_length {α : Type} {k : Nat} {enc : α → List Value} (hk : ∀ x, (enc x).length = k) (P : List α) : (valsA enc P).length = P.length * k := by
  induction P with
  | nil => simp [valsA]
  | cons p P ih =>
    have e : valsA enc (p :: P) = enc p ++ valsA enc P := by simp [valsA]
    rw [e, List.length_append, ih, hk, List.length_cons, Nat.add_mul]
    omega
theorem arow_of_owns {α : Type} {k : Nat} {enc : α → List Value} (hk : ∀ x, (enc x).length = k) (d : α) {w : World} {base : Nat} {t : TypeId} {v : Value} {n : Nat} {P : List α} (h : w.ownsRow base t k v n (valsA enc P)) (hn : P.length = n) : ARow k enc d w v P := by
  obtain ⟨h1, h2⟩ := h
  subst hn
  rcases h2 with ⟨rfl, h0⟩ | ⟨g, cap, cur, rfl, hg, hh, hle, hm, hsz, htk⟩
  · obtain rfl : P = [] := List.eq_nil_of_length_eq_zero h0
    exact ARow.nil _ _ _ _
  · refine ⟨_, cap, rfl, hle, by unfold maxLen at hm; omega, fun _ => ⟨g, 0, rfl, (Array.getElem?_eq_some_iff.1 hh).1, fun i hi j x hx => ?_⟩⟩
    obtain ⟨hj, -⟩ := List.getElem?_eq_some_iff.1 hx
    rw [hk] at hj
    have e := valsA_get hk d P i hi j hj
    have hlt : i * k + j < P.length * k := by
      have : (i + 1) * k ≤ P.length * k := Nat.mul_le_mul_right _ (by omega)
      rw [Nat.add_mul] at this
      omega
    rw [hx, ← htk, List.getElem?_take_of_lt hlt] at e
    rw [Nat.zero_add, cell_block hh]
    simpa using e
/-- A row of structs that the call just made. -/
theorem ARow.made {α : Type} {k : Nat} {enc : α → List Value} (hk : ∀ x, (enc x).length = k) (d : α) (w : World) (P : List α) (e : TypeId) (c : Array Value) (hc : c = (valsA enc P).toArray) (hn : P.length ≤ 9223372036854775807) : ARow k enc d (w.alloc (.cells c e)) (.slice (some ⟨w.heap.size, 0, none⟩) P.length P.length) P := by
  refine ⟨_, _, rfl, Nat.le_refl _, hn, fun _ => ⟨w.heap.size, 0, rfl, ?_, fun i hi j x hx => ?_⟩⟩
  · have : (w.alloc (.cells c e)).heap.size = w.heap.size + 1 := Array.size_push _
    omega
  · obtain ⟨hj, -⟩ := List.getElem?_eq_some_iff.1 hx
    rw [hk] at hj
    rw [Nat.zero_add, cell_block (heap_alloc_new w _), hc]
    have := valsA_get hk d P i hi j hj
    rw [hx] at this
    simpa using this
end Go.Proofs.Ytjikikiconhlaaa
