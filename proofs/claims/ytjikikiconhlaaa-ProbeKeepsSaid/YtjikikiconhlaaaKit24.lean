/- Rows that a call writes cell by cell; lists of naturals as rows. -/
import Derived.Test.YtjikikiconhlaaaKit23
namespace Go.Proofs.Ytjikikiconhlaaa
open Go.RowKit
set_option linter.unusedVariables false

/-- The cells at a block's head. -/
def CA (w : World) (h n : Nat) (V : Nat → Value) : Prop := h < w.heap.size ∧ ∀ i, i < n → w.cell? ⟨h, i, none⟩ = some (V i) ∧ w.frozen? ⟨h, i, none⟩ = false
theorem CA.mono {w w' : World} {h n : Nat} {V : Nat → Value} {B : Nat} (k : CA w h n V) (hb : Below B w w') (hB : w.heap.size ≤ B) : CA w' h n V :=
  ⟨Nat.lt_of_lt_of_le k.1 hb.size, fun i hi => ⟨(hb.cell (p := ⟨h, i, none⟩) (Nat.lt_of_lt_of_le k.1 hB)).trans (k.2 i hi).1, (hb.frozen (p := ⟨h, i, none⟩) (Nat.lt_of_lt_of_le k.1 hB)).trans (k.2 i hi).2⟩⟩
theorem CA.set {w : World} {h n : Nat} {V : Nat → Value} (k : CA w h n V) (j : Nat) (hj : j < n) (u : Value) : CA (w.setCell ⟨h, j, none⟩ u) h n (fun i => if i = j then u else V i) := by
  refine ⟨by rw [show (w.setCell ⟨h, j, none⟩ u).heap.size = w.heap.size from by simp [World.setCell]]; exact k.1, fun i hi => ⟨?_, by rw [World.frozen?_setCell]; exact (k.2 i hi).2⟩⟩
  by_cases e : i = j
  · subst e
    show _ = some (if i = i then u else V i)
    rw [if_pos rfl]
    exact World.cell?_setCell_same _ _ _ (by rw [(k.2 i hi).1])
  · show _ = some (if i = j then u else V i)
    rw [if_neg e, World.cell?_setCell_other _ _ _ _ (by intro h2; injection h2 with _ h3 _; exact e h3.symm)]
    exact (k.2 i hi).1
theorem frozen_own {w : World} {g : Nat} {c : Array Value} {e : TypeId} (h : w.heap[g]? = some (.cells c e (0, 0))) (i : Nat) : w.frozen? ⟨g, i, none⟩ = false := by simp [World.frozen?, h]
theorem CA.made (w : World) (z : Value) (n : Nat) (t : TypeId) : CA (w.alloc (.cells (madeCells #[z] n) t)) w.heap.size n (fun _ => z) := by
  refine ⟨by rw [show (w.alloc (.cells (madeCells #[z] n) t)).heap.size = w.heap.size + 1 from Array.size_push _]; omega, fun i hi => ⟨?_, frozen_own (heap_alloc_new w _) i⟩⟩
  rw [cell_block (heap_alloc_new w _)]
  simp [madeCells, hi, Nat.mod_one]
theorem CA.ext {w : World} {h n : Nat} {V V' : Nat → Value} (k : CA w h n V) (e : ∀ i, i < n → V i = V' i) : CA w h n V' := ⟨k.1, fun i hi => by rw [← e i hi]; exact k.2 i hi⟩
theorem CA.other {w : World} {h n g j : Nat} {V : Nat → Value} (k : CA w h n V) (u : Value) (hg : g ≠ h) : CA (w.setCell ⟨g, j, none⟩ u) h n V := by
  refine ⟨by rw [show (w.setCell ⟨g, j, none⟩ u).heap.size = w.heap.size from by simp [World.setCell]]; exact k.1, fun i hi => ⟨?_, by rw [World.frozen?_setCell]; exact (k.2 i hi).2⟩⟩
  rw [World.cell?_setCell_other _ _ _ _ (by intro h2; injection h2 with h3 _ _; exact hg h3)]
  exact (k.2 i hi).1
theorem CA.own {w : World} {base : Nat} {t : TypeId} {v : Value} {l : List Value} (h : w.ownsRow base t 1 v l.length l) (hne : v ≠ .slice none 0 0) :
    ∃ g cap, v = .slice (some ⟨g, 0, none⟩) l.length cap ∧ l.length ≤ cap ∧ cap ≤ 9223372036854775807 ∧ base ≤ g ∧ CA w g l.length (fun i => l.getD i undef) := by
  obtain ⟨h1, ⟨rfl, h0⟩ | ⟨g, cap, cur, rfl, hg, hh, hc1, hc2, hc3, hc4⟩⟩ := h
  · exact absurd rfl hne
  · refine ⟨g, cap, rfl, hc1, by unfold maxLen at hc2; omega, hg, (Array.getElem?_eq_some_iff.1 hh).1, fun i hi => ⟨?_, frozen_own hh i⟩⟩
    rw [cell_block hh, ← Array.getElem?_toList]
    have h2 : l[i]? = some (l.getD i undef) := by simp [List.getD, hi]
    rw [← hc4, List.getElem?_take] at h2
    split at h2
    · rw [h2, hc4]
    · cases h2
theorem CA.brow {w : World} {h n cap : Nat} {V : Nat → Value} {l : List Bool} (k : CA w h n V) (e : ∀ i, i < n → V i = .bool (l.getD i false)) (hn : l.length = n) (h1 : n ≤ cap) (h2 : cap ≤ 9223372036854775807) : BRow w (.slice (some ⟨h, 0, none⟩) n cap) l := by
  subst hn
  exact ⟨_, _, rfl, h1, h2, fun _ => ⟨h, 0, rfl, k.1, fun i hi => by rw [Nat.zero_add, (k.2 i hi).1, e i hi]⟩⟩
theorem CA.row {w : World} {h n cap : Nat} {V : Nat → Value} {l : List Int} (k : CA w h n V) (e : ∀ i, i < n → V i = .int .i64 (l.getD i 0)) (hn : l.length = n) (h1 : n ≤ cap) (h2 : cap ≤ 9223372036854775807) (hw : ∀ i, i < l.length → (Lit.int .i64 (l.getD i 0)).wf = true) : Row .i64 w (.slice (some ⟨h, 0, none⟩) n cap) l := by
  subst hn
  exact ⟨_, _, rfl, h1, h2, hw, fun _ => ⟨h, 0, rfl, k.1, fun i hi => by rw [Nat.zero_add, (k.2 i hi).1, e i hi]⟩⟩

def ints (L : List Nat) : List Int := L.map fun x : Nat => (x : Int)
theorem ints_length (L : List Nat) : (ints L).length = L.length := by simp [ints]
theorem ints_getD (L : List Nat) (i : Nat) : (ints L).getD i 0 = ((L.getD i 0 : Nat) : Int) := by
  by_cases h : i < L.length
  · simp [ints, List.getD, h]
  · simp [ints, List.getD, List.getElem?_eq_none (show L.length ≤ i by omega)]
theorem ints_wf {L : List Nat} (h : ∀ x ∈ L, x ≤ 1000000) : ∀ i, i < (ints L).length → (Lit.int .i64 ((ints L).getD i 0)).wf = true := by
  intro i hi
  rw [ints_length] at hi
  rw [ints_getD]
  have := h (L.getD i 0) (by simp [List.getD, hi])
  exact WalkArith.wf_i64 (by omega)
theorem ints_app (L M : List Nat) : ints (L ++ M) = ints L ++ ints M := by simp [ints]
theorem ints_drop (L : List Nat) (k : Nat) : (ints L).drop k = ints (L.drop k) := by simp [ints, List.map_drop]
theorem ints_take (L : List Nat) (k : Nat) : (ints L).take k = ints (L.take k) := by simp [ints, List.map_take]
theorem row_slice {k : IntKind} {w : World} {v : Value} {l : List Int} (h : Row k w v l) : ∃ a c, v = .slice a l.length c ∧ l.length ≤ c ∧ c ≤ 9223372036854775807 := by
  obtain ⟨a, c, h1, h2, h3, -, -⟩ := h
  exact ⟨a, c, h1, h2, h3⟩
/-- A row of naturals that is not empty. -/
theorem nrow_open {w : World} {v : Value} {L : List Nat} (h : Row .i64 w v (ints L)) (hne : 0 < L.length) : ∃ b off c, v = .slice (some ⟨b, off, none⟩) L.length c ∧ L.length ≤ c ∧ c ≤ 9223372036854775807 ∧ b < w.heap.size ∧
    ∀ i, i < L.length → w.cell? ⟨b, off + i, none⟩ = some (.int .i64 ((L.getD i 0 : Nat) : Int)) := by
  obtain ⟨a, c, rfl, h2, h3, h4, h5⟩ := h
  obtain ⟨b, off, rfl, hlt, hc⟩ := h5 (by intro e; have := congrArg List.length e; rw [ints_length] at this; simp at this; subst this; simp at hne)
  rw [ints_length] at h2 hc
  exact ⟨b, off, c, by rw [ints_length], h2, h3, hlt, fun i hi => by rw [hc i hi, ints_getD]⟩
theorem brow_open {w : World} {v : Value} {L : List Bool} (h : BRow w v L) (hne : 0 < L.length) : ∃ b off c, v = .slice (some ⟨b, off, none⟩) L.length c ∧ L.length ≤ c ∧ c ≤ 9223372036854775807 ∧ b < w.heap.size ∧
    ∀ i, i < L.length → w.cell? ⟨b, off + i, none⟩ = some (.bool (L.getD i false)) := by
  obtain ⟨a, c, rfl, h2, h3, h5⟩ := h
  obtain ⟨b, off, rfl, hlt, hc⟩ := h5 (by rintro rfl; simp at hne)
  exact ⟨b, off, c, rfl, h2, h3, hlt, hc⟩
end Go.Proofs.Ytjikikiconhlaaa
