/- Slices of slices of texts. -/
import Derived.Test.YtjikikiconhlaaaKit5
namespace Go.Proofs.Ytjikikiconhlaaa
open Go.RowKit

/-- A slice value of slices of texts reads as a list of lists. -/
def NRow (w : World) (v : Value) (L : List (List ByteArray)) : Prop :=
  ∃ a cap, ∃ U : Nat → Value, v = .slice a L.length cap ∧ L.length ≤ cap ∧ cap ≤ 9223372036854775807 ∧ (∀ i, i < L.length → SRow w (U i) (L.getD i [])) ∧
    (L ≠ [] → ∃ b off, a = some ⟨b, off, none⟩ ∧ b < w.heap.size ∧ ∀ i, i < L.length → w.cell? ⟨b, off + i, none⟩ = some (U i))

theorem NRow.mono {w w' : World} {v : Value} {L : List (List ByteArray)} {B : Nat} (h : NRow w v L) (hb : Below B w w') (hB : w.heap.size ≤ B) : NRow w' v L := by
  obtain ⟨a, cap, U, h1, h2, h3, h4, h5⟩ := h
  refine ⟨a, cap, U, h1, h2, h3, fun i hi => (h4 i hi).mono hb hB, fun hne => ?_⟩
  obtain ⟨b, off, e, hlt, hc⟩ := h5 hne
  exact ⟨b, off, e, Nat.lt_of_lt_of_le hlt hb.size, fun i hi => (hb.cell (p := ⟨b, off + i, none⟩) (show b < B by omega)).trans (hc i hi)⟩
theorem NRow.nil (w : World) : NRow w (.slice none 0 0) [] := ⟨none, 0, fun _ => .slice none 0 0, rfl, by simp, by omega, fun i hi => by simp at hi, fun h => absurd rfl h⟩

/-- Values that read as lists of texts. -/
def NVals (w : World) (us : List Value) (L : List (List ByteArray)) : Prop := us.length = L.length ∧ ∀ i, i < L.length → SRow w (us.getD i (.slice none 0 0)) (L.getD i [])
theorem NVals.nil (w : World) : NVals w [] [] := ⟨rfl, fun i hi => by simp at hi⟩
theorem NVals.mono {w w' : World} {us : List Value} {L : List (List ByteArray)} {B : Nat} (h : NVals w us L) (hb : Below B w w') (hB : w.heap.size ≤ B) : NVals w' us L := ⟨h.1, fun i hi => (h.2 i hi).mono hb hB⟩
theorem NVals.snoc {w : World} {us : List Value} {L : List (List ByteArray)} {u : Value} {l : List ByteArray} (h : NVals w us L) (hu : SRow w u l) : NVals w (us ++ [u]) (L ++ [l]) := by
  refine ⟨by simp [h.1], fun i hi => ?_⟩
  rw [List.length_append, List.length_singleton] at hi
  by_cases e : i < L.length
  · have := h.2 i e
    simpa [List.getD, List.getElem?_append_left e, List.getElem?_append_left (show i < us.length by rw [h.1]; exact e)] using this
  · obtain rfl : i = L.length := by omega
    have e1 : (us ++ [u])[L.length]? = some u := by rw [← h.1]; simp
    have e2 : (L ++ [l])[L.length]? = some l := by simp
    simpa [List.getD, e1, e2] using hu
theorem nrow_of_owns {w : World} {base : Nat} {t : TypeId} {v : Value} {n : Nat} {us : List Value} {L : List (List ByteArray)} (h : w.ownsRow base t 1 v n us) (hn : L.length = n) (hu : NVals w us L) : NRow w v L := by
  obtain ⟨h1, h2⟩ := h
  subst hn
  rcases h2 with ⟨rfl, h0⟩ | ⟨g, cap, cur, rfl, hg, hh, hle, hm, hsz, htk⟩
  · obtain rfl : L = [] := List.eq_nil_of_length_eq_zero h0
    exact NRow.nil _
  · refine ⟨_, cap, fun i => us.getD i (.slice none 0 0), rfl, hle, by unfold maxLen at hm; omega, hu.2, fun _ => ⟨g, 0, rfl, (Array.getElem?_eq_some_iff.1 hh).1, fun i hi => ?_⟩⟩
    rw [Nat.zero_add, cell_block hh]
    have hi2 : i < us.length := by rw [hu.1]; exact hi
    have e : us[i]? = some (us.getD i (.slice none 0 0)) := by simp [List.getD, hi2]
    rw [← htk, List.getElem?_take_of_lt (by omega)] at e
    rw [htk] at e
    simpa using e
theorem news_oneV (w : World) (x : Value) (e : TypeId) : ∀ j u, [x][j]? = some u → (w.alloc (.cells #[x] e)).cell? ((⟨w.heap.size, 0, none⟩ : Addr).add j) = some u := by
  intro j u hj
  match j, hj with
  | 0, hj =>
    rw [Addr_add, Nat.zero_add, cell_block (heap_alloc_new w _)]
    simpa using hj
  | j + 1, hj => simp at hj
theorem oneCell_oneL (a : Option Addr) (n c : Nat) : ∀ u ∈ [Value.slice a n c], u.oneCell' = true := by
  intro u hu
  simp at hu
  subst hu
  rfl

/-- A slice of texts that lies at block B or behind. -/
def FRow (B : Nat) (w : World) (v : Value) (l : List ByteArray) : Prop := SRow w v l ∧ (l ≠ [] → ∀ k, v.ownBlock = some k → B ≤ k)
theorem FRow.nil (B : Nat) (w : World) : FRow B w (.slice none 0 0) [] := ⟨SRow.nil w, fun h => absurd rfl h⟩
theorem FRow.mono {B B' : Nat} {w w' : World} {v : Value} {l : List ByteArray} (h : FRow B w v l) (hb : Below B' w w') (hB : w.heap.size ≤ B') : FRow B w' v l := ⟨h.1.mono hb hB, h.2⟩
theorem frow_of_owns {w : World} {base : Nat} {t : TypeId} {v : Value} {n : Nat} {l : List ByteArray} (h : w.ownsRow base t 1 v n (valsS l)) (hn : l.length = n) (hb : ∀ i, i < l.length → (l.getD i ByteArray.empty).size ≤ 9223372036854775807) : FRow base w v l :=
  ⟨srow_of_owns h hn hb, fun _ k hk => (h.lt k hk).1⟩
/-- A slice of texts stays, whatever is appended to another row. -/
theorem SRow.grown {w w' : World} {v : Value} {l : List ByteArray} {row : Option Nat} (h : SRow w v l) (hg : w.grownBy w' row) (hne : l ≠ [] → v.ownBlock ≠ row) : SRow w' v l := by
  obtain ⟨a, cap, h1, h2, h3, h4, h5⟩ := h
  refine ⟨a, cap, h1, h2, h3, h4, fun hn => ?_⟩
  obtain ⟨b, off, e, hlt, hc⟩ := h5 hn
  have hb : some b ≠ row := by
    have := hne hn
    rw [h1, e] at this
    exact this
  refine ⟨b, off, e, Nat.lt_of_lt_of_le hlt hg.size, fun i hi => ?_⟩
  rw [World.cell?_of_block (w := w) (hg.block b hlt hb)]
  exact hc i hi
theorem SRow.block {w : World} {v : Value} {l : List ByteArray} (h : SRow w v l) (hn : l ≠ []) : ∃ k, v.ownBlock = some k ∧ k < w.heap.size := by
  obtain ⟨a, cap, rfl, h2, h3, h4, h5⟩ := h
  obtain ⟨b, off, rfl, hlt, hc⟩ := h5 hn
  exact ⟨b, rfl, hlt⟩
/-- Values that read as lists of texts, none of which lies in the row to which they are appended. -/
def NApart (row : Option Nat) (us : List Value) (L : List (List ByteArray)) : Prop := ∀ i, i < L.length → L.getD i [] ≠ [] → (us.getD i (.slice none 0 0)).ownBlock ≠ row
theorem NApart.nil (row : Option Nat) : NApart row [] [] := fun i hi => by simp at hi
theorem NVals.grown {w w' : World} {us : List Value} {L : List (List ByteArray)} {row : Option Nat} (h : NVals w us L) (ha : NApart row us L) (hg : w.grownBy w' row) : NVals w' us L :=
  ⟨h.1, fun i hi => (h.2 i hi).grown hg (ha i hi)⟩
theorem NApart.snoc {row : Option Nat} {us : List Value} {L : List (List ByteArray)} {u : Value} {l : List ByteArray} (hl : us.length = L.length) (h : NApart row us L) (hu : l ≠ [] → u.ownBlock ≠ row) : NApart row (us ++ [u]) (L ++ [l]) := by
  intro i hi hne
  rw [List.length_append, List.length_singleton] at hi
  by_cases e : i < L.length
  · have h1 : (L ++ [l]).getD i [] = L.getD i [] := by simp [List.getD, List.getElem?_append_left e]
    have h2 : (us ++ [u]).getD i (.slice none 0 0) = us.getD i (.slice none 0 0) := by simp [List.getD, List.getElem?_append_left (show i < us.length by omega)]
    rw [h1] at hne
    rw [h2]
    exact h i e hne
  · obtain rfl : i = L.length := by omega
    have e1 : (us ++ [u])[L.length]? = some u := by rw [← hl]; simp
    have e2 : (L ++ [l])[L.length]? = some l := by simp
    simp only [List.getD, e1, e2, Option.getD_some] at hne ⊢
    exact hu hne
/-- A new block is none of theirs. -/
theorem NApart.fresh {w : World} {us : List Value} {L : List (List ByteArray)} (h : NVals w us L) {g : Nat} (hg : w.heap.size ≤ g) : NApart (some g) us L := by
  intro i hi hne e
  obtain ⟨k, hk, hlt⟩ := (h.2 i hi).block hne
  rw [e] at hk
  injection hk with hk
  omega

/-- Names that came in. -/
theorem open_names {H : Type} {enc : TypeId × Value → H} {P : Program} {w : World} {base : Nat} {spare : Nat → Bool} {held : Bool} {t e s : TypeId} {fuel : Nat} {a : Option Addr} {len cap : Nat} {x : DataW H × List MemPlace}
    (ht : P.underlying t = some (.slice e)) (he : P.underlying e = some (.slice s)) (hs : P.underlying s = some .string) (hce : P.cellsOf e = 1) (hcs : P.cellsOf s = 1)
    (h : DataW.trod enc P w base spare held fuel t [.slice a len cap] = some x) : ∃ L : List (List ByteArray), L.length = len ∧ NRow w (.slice a len cap) L := by
  rcases DataW.trod_slice ht h with ⟨h0, _⟩ | ⟨ad, len', cap', elems, rest, n, _, h1, rfl, hb, hl, hm, hlen, hel, _, _⟩
  · simp at h0
    obtain ⟨rfl, rfl, rfl⟩ := h0
    exact ⟨[], rfl, NRow.nil _⟩
  · simp at h1
    obtain ⟨rfl, rfl, rfl⟩ := h1
    have each : ∀ i, i < len → ∃ (v : Value) (l : List ByteArray), w.cell? (ad.add i) = some v ∧ SRow w v l := by
      intro i hi
      have hy := hel i hi
      rw [hce, Nat.mul_one, List.getElem?_eq_getElem (by omega), Option.bind_eq_some_iff] at hy
      obtain ⟨cs', hcs', hy'⟩ := hy
      rcases ChangeShapes.open_strings he hs hcs hy' with ⟨rfl, _⟩ | ⟨x, len2, cap2, ss, rfl, _, hl2, hm2, hz2, _, hcell2, hsz2⟩
      · exact ⟨.slice none 0 0, [], ChangeShapes.cell_of_cells?_one hcs', SRow.nil _⟩
      · refine ⟨.slice (some x) len2 cap2, ss.take len2, ChangeShapes.cell_of_cells?_one hcs', ?_⟩
        have hln : len2 ≤ ss.length := by rw [hz2]; split <;> omega
        have hL : (ss.take len2).length = len2 := by rw [List.length_take]; omega
        have hget : ∀ i, i < len2 → (ss.take len2).getD i ByteArray.empty = ss.getD i ByteArray.empty := fun i hi => by simp [List.getD, hi]
        refine ⟨some x, cap2, by rw [hL], by rw [hL]; exact hl2, by unfold maxLen at hm2; omega, fun i hi => ?_, fun hne => ?_⟩
        · rw [hL] at hi
          rw [hget i hi]
          have hi' : i < ss.length := by omega
          have e : ss.getD i ByteArray.empty = ss[i] := by simp [List.getD, hi']
          rw [e]
          have := hsz2 _ (List.getElem_mem hi')
          unfold maxLen at this
          exact this
        · have hpos : 0 < len2 := by
            have := List.length_pos_iff.2 hne
            omega
          obtain ⟨b, off, spot⟩ := x
          have hc := hcell2 0 (by omega)
          have hspot : spot = none := by simpa [Addr.add] using World.cell?_spot hc
          subst hspot
          refine ⟨b, off, rfl, by have := World.block_lt_of_cell? w _ hc; simpa [Addr.add] using this, fun i hi => ?_⟩
          rw [hL] at hi
          rw [hget i hi, ← hcell2 i (by omega), Addr_add]
    have hex : ∃ (U : Nat → Value) (l : Nat → List ByteArray), ∀ i, i < len → w.cell? (ad.add i) = some (U i) ∧ SRow w (U i) (l i) := by
      refine ⟨fun i => if h : i < len then (each i h).choose else .slice none 0 0, fun i => if h : i < len then (each i h).choose_spec.choose else [], fun i hi => ?_⟩
      simp only [hi, dif_pos]
      exact (each i hi).choose_spec.choose_spec
    obtain ⟨U, l, hU⟩ := hex
    refine ⟨(List.range len).map l, by simp, some ad, cap, U, by simp, by simp; exact hl, by unfold maxLen at hm; omega, fun i hi => ?_, fun hne => ?_⟩
    · simp at hi
      simpa [List.getD, hi] using (hU i hi).2
    · have hpos : 0 < len := by
        have := List.length_pos_iff.2 hne
        simpa using this
      obtain ⟨b, off, spot⟩ := ad
      have hc := (hU 0 hpos).1
      have hspot : spot = none := by simpa [Addr.add] using World.cell?_spot hc
      subst hspot
      refine ⟨b, off, rfl, by have := World.block_lt_of_cell? w _ hc; simpa [Addr.add] using this, fun i hi => ?_⟩
      simp at hi
      rw [← (hU i hi).1, Addr_add]
end Go.Proofs.Ytjikikiconhlaaa
