/- Slices of things that are read, whatever they are; slices of rows of bytes. -/
import Derived.Test.YtjikikiconhlaaaKit7
namespace Go.Proofs.Ytjikikiconhlaaa
open Go.RowKit

/-- A slice value reads as a list of things, each by R. -/
def LRow {α : Type} (R : World → Value → α → Prop) (d : α) (w : World) (v : Value) (L : List α) : Prop :=
  ∃ a cap, ∃ U : Nat → Value, v = .slice a L.length cap ∧ L.length ≤ cap ∧ cap ≤ 9223372036854775807 ∧ (∀ i, i < L.length → R w (U i) (L.getD i d)) ∧
    (L ≠ [] → ∃ b off, a = some ⟨b, off, none⟩ ∧ b < w.heap.size ∧ ∀ i, i < L.length → w.cell? ⟨b, off + i, none⟩ = some (U i))
/-- What R says stays, whatever is made since. -/
def Stays {α : Type} (R : World → Value → α → Prop) : Prop := ∀ (w w' : World) (v : Value) (x : α) (B : Nat), R w v x → Below B w w' → w.heap.size ≤ B → R w' v x
theorem LRow.mono {α : Type} {R : World → Value → α → Prop} {d : α} (hR : Stays R) {w w' : World} {v : Value} {L : List α} {B : Nat} (h : LRow R d w v L) (hb : Below B w w') (hB : w.heap.size ≤ B) : LRow R d w' v L := by
  obtain ⟨a, cap, U, h1, h2, h3, h4, h5⟩ := h
  refine ⟨a, cap, U, h1, h2, h3, fun i hi => hR _ _ _ _ _ (h4 i hi) hb hB, fun hne => ?_⟩
  obtain ⟨b, off, e, hlt, hc⟩ := h5 hne
  exact ⟨b, off, e, Nat.lt_of_lt_of_le hlt hb.size, fun i hi => (hb.cell (p := ⟨b, off + i, none⟩) (show b < B by omega)).trans (hc i hi)⟩
theorem LRow.nil {α : Type} (R : World → Value → α → Prop) (d : α) (w : World) : LRow R d w (.slice none 0 0) [] := ⟨none, 0, fun _ => .slice none 0 0, rfl, by simp, by omega, fun i hi => by simp at hi, fun h => absurd rfl h⟩
/-- Values that read as things. -/
def LVals {α : Type} (R : World → Value → α → Prop) (d : α) (w : World) (us : List Value) (L : List α) : Prop := us.length = L.length ∧ ∀ i, i < L.length → R w (us.getD i (.slice none 0 0)) (L.getD i d)
theorem LVals.nil {α : Type} (R : World → Value → α → Prop) (d : α) (w : World) : LVals R d w [] [] := ⟨rfl, fun i hi => by simp at hi⟩
theorem LVals.mono {α : Type} {R : World → Value → α → Prop} {d : α} (hR : Stays R) {w w' : World} {us : List Value} {L : List α} {B : Nat} (h : LVals R d w us L) (hb : Below B w w') (hB : w.heap.size ≤ B) : LVals R d w' us L := ⟨h.1, fun i hi => hR _ _ _ _ _ (h.2 i hi) hb hB⟩
theorem LVals.snoc {α : Type} {R : World → Value → α → Prop} {d : α} {w : World} {us : List Value} {L : List α} {u : Value} {l : α} (h : LVals R d w us L) (hu : R w u l) : LVals R d w (us ++ [u]) (L ++ [l]) := by
  refine ⟨by simp [h.1], fun i hi => ?_⟩
  rw [List.length_append, List.length_singleton] at hi
  by_cases e : i < L.length
  · have := h.2 i e
    simpa [List.getD, List.getElem?_append_left e, List.getElem?_append_left (show i < us.length by rw [h.1]; exact e)] using this
  · obtain rfl : i = L.length := by omega
    have e1 : (us ++ [u])[L.length]? = some u := by rw [← h.1]; simp
    have e2 : (L ++ [l])[L.length]? = some l := by simp
    simpa [List.getD, e1, e2] using hu
theorem lrow_of_owns {α : Type} {R : World → Value → α → Prop} {d : α} {w : World} {base : Nat} {t : TypeId} {v : Value} {n : Nat} {us : List Value} {L : List α} (h : w.ownsRow base t 1 v n us) (hn : L.length = n) (hu : LVals R d w us L) : LRow R d w v L := by
  obtain ⟨h1, h2⟩ := h
  subst hn
  rcases h2 with ⟨rfl, h0⟩ | ⟨g, cap, cur, rfl, hg, hh, hle, hm, hsz, htk⟩
  · obtain rfl : L = [] := List.eq_nil_of_length_eq_zero h0
    exact LRow.nil _ _ _
  · refine ⟨_, cap, fun i => us.getD i (.slice none 0 0), rfl, hle, by unfold maxLen at hm; omega, hu.2, fun _ => ⟨g, 0, rfl, (Array.getElem?_eq_some_iff.1 hh).1, fun i hi => ?_⟩⟩
    rw [Nat.zero_add, cell_block hh]
    have hi2 : i < us.length := by rw [hu.1]; exact hi
    have e : us[i]? = some (us.getD i (.slice none 0 0)) := by simp [List.getD, hi2]
    rw [← htk, List.getElem?_take_of_lt (by omega)] at e
    rw [htk] at e
    simpa using e
theorem LRow.made {α : Type} {R : World → Value → α → Prop} {d : α} (hR : Stays R) (w : World) (us : List Value) (L : List α) (e : TypeId) (c : Array Value) (hc : c = us.toArray) (hu : LVals R d w us L) (hn : L.length ≤ 9223372036854775807) : LRow R d (w.alloc (.cells c e)) (.slice (some ⟨w.heap.size, 0, none⟩) L.length L.length) L := by
  refine ⟨_, _, fun i => us.getD i (.slice none 0 0), rfl, Nat.le_refl _, hn, fun i hi => hR _ _ _ _ _ (hu.2 i hi) (below_made w _) (Nat.le_refl _), fun _ => ⟨w.heap.size, 0, rfl, ?_, fun i hi => ?_⟩⟩
  · have : (w.alloc (.cells c e)).heap.size = w.heap.size + 1 := Array.size_push _
    omega
  · have hi2 : i < us.length := by rw [hu.1]; exact hi
    rw [Nat.zero_add, cell_block (heap_alloc_new w _), hc]
    simp [List.getD, hi2]

/-- A slice of rows of bytes. -/
def QRow (w : World) (v : Value) (L : List (List Int)) : Prop := LRow (Row .u8) [] w v L
theorem row_stays (k : IntKind) : Stays (Row k) := fun _ _ _ _ _ h hb hB => h.mono hb hB
theorem QRow.mono {w w' : World} {v : Value} {L : List (List Int)} {B : Nat} (h : QRow w v L) (hb : Below B w w') (hB : w.heap.size ≤ B) : QRow w' v L := LRow.mono (row_stays .u8) h hb hB
theorem QRow.nil (w : World) : QRow w (.slice none 0 0) [] := LRow.nil _ _ _

/-- A row stays, whatever is appended to another one. -/
theorem Row.grown {k : IntKind} {w w' : World} {v : Value} {l : List Int} {row : Option Nat} (h : Row k w v l) (hg : w.grownBy w' row) (hne : l ≠ [] → v.ownBlock ≠ row) : Row k w' v l := by
  obtain ⟨a, cap, h1, h2, h3, h4, h5⟩ := h
  refine ⟨a, cap, h1, h2, h3, h4, fun hn => ?_⟩
  obtain ⟨b, off, e, hlt, hc⟩ := h5 hn
  have hb : some b ≠ row := by
    have := hne hn
    rw [h1, e] at this
    exact this
  refine ⟨b, off, e, Nat.lt_of_lt_of_le hlt hg.size, fun i hi => ?_⟩
  rw [World.cell?_of_block (w := w) (hg.block b hlt hb)]
  exact hc i hi
theorem Row.block {k : IntKind} {w : World} {v : Value} {l : List Int} (h : Row k w v l) (hn : l ≠ []) : ∃ k, v.ownBlock = some k ∧ k < w.heap.size := by
  obtain ⟨a, cap, rfl, h2, h3, h4, h5⟩ := h
  obtain ⟨b, off, rfl, hlt, hc⟩ := h5 hn
  exact ⟨b, rfl, hlt⟩

/-- Rows of bytes that came in. -/
theorem open_rows {H : Type} {enc : TypeId × Value → H} {P : Program} {w : World} {base : Nat} {spare : Nat → Bool} {held : Bool} {t e s : TypeId} {fuel : Nat} {a : Option Addr} {len cap : Nat} {x : DataW H × List MemPlace}
    (ht : P.underlying t = some (.slice e)) (he : P.underlying e = some (.slice s)) (hs : P.underlying s = some (.int .u8)) (hce : P.cellsOf e = 1) (hcs : P.cellsOf s = 1)
    (h : DataW.trod enc P w base spare held fuel t [.slice a len cap] = some x) : ∃ L : List (List Int), L.length = len ∧ QRow w (.slice a len cap) L := by
  rcases DataW.trod_slice ht h with ⟨h0, _⟩ | ⟨ad, len', cap', elems, rest, n, _, h1, rfl, hb, hl, hm, hlen, hel, _, _⟩
  · simp at h0
    obtain ⟨rfl, rfl, rfl⟩ := h0
    exact ⟨[], rfl, QRow.nil _⟩
  · simp at h1
    obtain ⟨rfl, rfl, rfl⟩ := h1
    have each : ∀ i, i < len → ∃ (v : Value) (l : List Int), w.cell? (ad.add i) = some v ∧ Row .u8 w v l := by
      intro i hi
      have hy := hel i hi
      rw [hce, Nat.mul_one, List.getElem?_eq_getElem (by omega), Option.bind_eq_some_iff] at hy
      obtain ⟨cs', hcs', hy'⟩ := hy
      rcases ChangeShapes.open_ints he hs hcs hy' with ⟨rfl, _⟩ | ⟨x, len2, cap2, zs, rfl, _, hl2, hm2, hz2, _, hcell2, hwf2⟩
      · exact ⟨.slice none 0 0, [], ChangeShapes.cell_of_cells?_one hcs', Row.nil _ _⟩
      · refine ⟨.slice (some x) len2 cap2, zs.take len2, ChangeShapes.cell_of_cells?_one hcs', ?_⟩
        have hln : len2 ≤ zs.length := by rw [hz2]; split <;> omega
        have hL : (zs.take len2).length = len2 := by rw [List.length_take]; omega
        have hget : ∀ i, i < len2 → (zs.take len2).getD i 0 = zs.getD i 0 := fun i hi => by simp [List.getD, hi]
        refine ⟨some x, cap2, by rw [hL], by rw [hL]; exact hl2, by unfold maxLen at hm2; omega, fun i hi => ?_, fun hne => ?_⟩
        · rw [hL] at hi
          rw [hget i hi]
          have hi' : i < zs.length := by omega
          have e : zs.getD i 0 = zs[i] := by simp [List.getD, hi']
          rw [e]
          exact hwf2 _ (List.getElem_mem hi')
        · have hpos : 0 < len2 := by
            have := List.length_pos_iff.2 hne
            omega
          obtain ⟨b, off, spot⟩ := x
          have hc := hcell2 0 (by omega)
          have hspot : spot = none := by simpa [Addr.add] using World.cell?_spot hc
          subst hspot
          refine ⟨b, off, rfl, by have := World.block_lt_of_cell? w _ hc; simpa [Addr.add] using this, fun i hi => ?_⟩
          rw [hL] at hi
          rw [hget i hi, ← hcell2 i (by omega), Addr_add]
    have hex : ∃ (U : Nat → Value) (l : Nat → List Int), ∀ i, i < len → w.cell? (ad.add i) = some (U i) ∧ Row .u8 w (U i) (l i) := by
      refine ⟨fun i => if h : i < len then (each i h).choose else .slice none 0 0, fun i => if h : i < len then (each i h).choose_spec.choose else [], fun i hi => ?_⟩
      simp only [hi, dif_pos]
      exact (each i hi).choose_spec.choose_spec
    obtain ⟨U, l, hU⟩ := hex
    refine ⟨(List.range len).map l, by simp, some ad, cap, U, by simp, by simp; exact hl, by unfold maxLen at hm; omega, fun i hi => ?_, fun hne => ?_⟩
    · simp at hi
      simpa [List.getD, hi] using (hU i hi).2
    · have hpos : 0 < len := by
        have := List.length_pos_iff.2 hne
        simpa using this
      obtain ⟨b, off, spot⟩ := ad
      have hc := (hU 0 hpos).1
      have hspot : spot = none := by simpa [Addr.add] using World.cell?_spot hc
      subst hspot
      refine ⟨b, off, rfl, by have := World.block_lt_of_cell? w _ hc; simpa [Addr.add] using this, fun i hi => ?_⟩
      simp at hi
      rw [← (hU i hi).1, Addr_add]
end Go.Proofs.Ytjikikiconhlaaa
