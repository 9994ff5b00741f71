/- Slices of structs of k cells, each read by R. -/
import Derived.Test.YtjikikiconhlaaaKit8
import Derived.Deep.Slices
namespace Go.Proofs.Ytjikikiconhlaaa
open Go.RowKit

/-- A slice value reads as a list of things, each of k cells, as R says. -/
def GRow {α : Type} (k : Nat) (R : World → List Value → α → Prop) (d : α) (w : World) (v : Value) (L : List α) : Prop :=
  ∃ a cap, ∃ U : Nat → List Value, v = .slice a L.length cap ∧ L.length ≤ cap ∧ cap ≤ 9223372036854775807 ∧ (∀ i, i < L.length → (U i).length = k ∧ R w (U i) (L.getD i d)) ∧
    (L ≠ [] → ∃ b off, a = some ⟨b, off, none⟩ ∧ b < w.heap.size ∧ ∀ i, i < L.length → ∀ j u, (U i)[j]? = some u → w.cell? ⟨b, off + i * k + j, none⟩ = some u)
/-- What R says stays, whatever is made since. -/
def GStays {α : Type} (R : World → List Value → α → Prop) : Prop := ∀ (w w' : World) (cs : List Value) (x : α) (B : Nat), R w cs x → Below B w w' → w.heap.size ≤ B → R w' cs x
theorem GRow.mono {α : Type} {k : Nat} {R : World → List Value → α → Prop} {d : α} (hR : GStays R) {w w' : World} {v : Value} {L : List α} {B : Nat} (h : GRow k R d w v L) (hb : Below B w w') (hB : w.heap.size ≤ B) : GRow k R d w' v L := by
  obtain ⟨a, cap, U, h1, h2, h3, h4, h5⟩ := h
  refine ⟨a, cap, U, h1, h2, h3, fun i hi => ⟨(h4 i hi).1, hR _ _ _ _ _ (h4 i hi).2 hb hB⟩, fun hne => ?_⟩
  obtain ⟨b, off, e, hlt, hc⟩ := h5 hne
  exact ⟨b, off, e, Nat.lt_of_lt_of_le hlt hb.size, fun i hi j u hu => (hb.cell (p := ⟨b, off + i * k + j, none⟩) (show b < B by omega)).trans (hc i hi j u hu)⟩
theorem GRow.nil {α : Type} (k : Nat) (R : World → List Value → α → Prop) (d : α) (w : World) : GRow k R d w (.slice none 0 0) [] := ⟨none, 0, fun _ => [], rfl, by simp, by omega, fun i hi => by simp at hi, fun h => absurd rfl h⟩
theorem GRow.one {α : Type} {k : Nat} {R : World → List Value → α → Prop} {d : α} {w : World} {v : Value} {L : List α} (h : GRow k R d w v L) (i : Nat) (hi : i < L.length) :
    ∃ b off, ∃ us : List Value, us.length = k ∧ R w us (L.getD i d) ∧ ∀ j u, us[j]? = some u → w.cell? ⟨b, off + i * k + j, none⟩ = some u := by
  obtain ⟨a, cap, U, h1, h2, h3, h4, h5⟩ := h
  obtain ⟨b, off, e, hlt, hc⟩ := h5 (by rintro rfl; simp at hi)
  exact ⟨b, off, U i, (h4 i hi).1, (h4 i hi).2, hc i hi⟩

theorem add_add (a : Addr) (m n : Nat) : (a.add m).add n = a.add (m + n) := by
  unfold Addr.add
  by_cases hm : m = 0
  · subst hm; simp
  · by_cases hn : n = 0
    · subst hn; simp
    · simp [hm, hn, Nat.add_assoc]

theorem open_grow {H : Type} {enc : TypeId × Value → H} {P : Program} {w : World} {base : Nat} {spare : Nat → Bool} {held : Bool} {α : Type} {k : Nat} {R : World → List Value → α → Prop} (d : α) {t e : TypeId} {fuel : Nat} {a : Option Addr} {len cap : Nat} {x : DataW H × List MemPlace}
    (ht : P.underlying t = some (.slice e)) (hk : P.cellsOf e = k) (hk0 : 0 < k) (hR : ∀ n cs y, DataW.trod enc P w base spare held n e cs = some y → ∃ x : α, R w cs x)
    (h : DataW.trod enc P w base spare held fuel t [.slice a len cap] = some x) : ∃ L : List α, L.length = len ∧ GRow k R d w (.slice a len cap) L := by
  rcases Deep.open_slice ht h with ⟨h0, _⟩ | ⟨ad, len', cap', m, n, D, Pl, h1, hb, hl, hm, hmm, _, hel⟩
  · simp at h0
    obtain ⟨rfl, rfl, rfl⟩ := h0
    exact ⟨[], rfl, GRow.nil _ _ _ _⟩
  · simp at h1
    obtain ⟨rfl, rfl, rfl⟩ := h1
    have hlm : len ≤ m := by rw [hmm]; split <;> omega
    have each : ∀ i, i < len → ∃ (us : List Value) (y : α), us.length = k ∧ R w us y ∧ ∀ j u, us[j]? = some u → w.cell? (ad.add (i * k + j)) = some u := by
      intro i hi
      obtain ⟨cs, hcs, hy⟩ := hel i (by omega)
      obtain ⟨y, hy⟩ := hR _ _ _ hy
      rw [hk] at hcs
      obtain ⟨c1, c2, c3⟩ := World.cells?_some hcs
      refine ⟨cs, y, c2, hy, fun j u hu => ?_⟩
      obtain ⟨hj, -⟩ := List.getElem?_eq_some_iff.1 hu
      have := c3 j (by omega)
      rw [hu] at this
      rw [← this, add_add]
    have hex : ∃ (U : Nat → List Value) (l : Nat → α), ∀ i, i < len → (U i).length = k ∧ R w (U i) (l i) ∧ ∀ j u, (U i)[j]? = some u → w.cell? (ad.add (i * k + j)) = some u := by
      refine ⟨fun i => if h : i < len then (each i h).choose else [], fun i => if h : i < len then (each i h).choose_spec.choose else d, fun i hi => ?_⟩
      simp only [hi, dif_pos]
      exact (each i hi).choose_spec.choose_spec
    obtain ⟨U, l, hU⟩ := hex
    refine ⟨(List.range len).map l, by simp, some ad, cap, U, by simp, by simp; exact hl, by unfold maxLen at hm; omega, fun i hi => ?_, fun hne => ?_⟩
    · simp at hi
      refine ⟨(hU i hi).1, ?_⟩
      simpa [List.getD, hi] using (hU i hi).2.1
    · have hpos : 0 < len := by
        have := List.length_pos_iff.2 hne
        simpa using this
      have h0 := (hU 0 hpos).1
      have hc := (hU 0 hpos).2.2 0 ((U 0).getD 0 (.slice none 0 0)) (by simp [List.getD, show 0 < (U 0).length by omega])
      obtain ⟨b, off, spot⟩ := ad
      have hspot : spot = none := by simpa [Addr.add] using World.cell?_spot hc
      subst hspot
      refine ⟨b, off, rfl, by have := World.block_lt_of_cell? w _ hc; simpa [Addr.add] using this, fun i hi j u hu => ?_⟩
      simp at hi
      rw [← (hU i hi).2.2 j u hu, Addr_add, Nat.add_assoc]
end Go.Proofs.Ytjikikiconhlaaa
