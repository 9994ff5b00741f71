/- Slices of texts that are read; rows just made. -/
import Derived.Test.YtojicajdhlahfaaKit3
import Derived.SliceStrings
import Derived.Lib.SlBytesConst
namespace Go.Proofs.Ytojicajdhlahfaa
open Go.RowKit

/-- A slice value of texts reads as a list. -/
def SRow (w : World) (v : Value) (l : List ByteArray) : Prop :=
  ∃ a cap, v = .slice a l.length cap ∧ l.length ≤ cap ∧ cap ≤ 9223372036854775807 ∧ (∀ i, i < l.length → (l.getD i ByteArray.empty).size ≤ 9223372036854775807) ∧
    (l ≠ [] → ∃ b off, a = some ⟨b, off, none⟩ ∧ b < w.heap.size ∧ ∀ i, i < l.length → w.cell? ⟨b, off + i, none⟩ = some (.string (l.getD i ByteArray.empty)))

theorem SRow.mono {w w' : World} {v : Value} {l : List ByteArray} {B : Nat} (h : SRow w v l) (hb : Below B w w') (hB : w.heap.size ≤ B) : SRow w' v l := by
  obtain ⟨a, cap, h1, h2, h3, h4, h5⟩ := h
  refine ⟨a, cap, h1, h2, h3, h4, fun hne => ?_⟩
  obtain ⟨b, off, e, hlt, hc⟩ := h5 hne
  exact ⟨b, off, e, Nat.lt_of_lt_of_le hlt hb.size, fun i hi => (hb.cell (p := ⟨b, off + i, none⟩) (show b < B by omega)).trans (hc i hi)⟩
theorem SRow.nil (w : World) : SRow w (.slice none 0 0) [] := ⟨none, 0, rfl, by simp, by omega, fun i hi => by simp at hi, fun h => absurd rfl h⟩

/-- A row that the call just made. -/
theorem Row.made {k : IntKind} (w : World) (L : List Int) (e : TypeId) (c : Array Value) (hc : c = (L.map (Value.int k)).toArray) (hw : ∀ i, i < L.length → (Lit.int k (L.getD i 0)).wf = true) (hn : L.length ≤ 9223372036854775807) :
    Row k (w.alloc (.cells c e)) (.slice (some ⟨w.heap.size, 0, none⟩) L.length L.length) L := by
  refine ⟨_, _, rfl, Nat.le_refl _, hn, hw, fun _ => ⟨w.heap.size, 0, rfl, ?_, fun i hi => ?_⟩⟩
  · have : (w.alloc (.cells c e)).heap.size = w.heap.size + 1 := Array.size_push _
    omega
  · rw [Nat.zero_add, cell_block (heap_alloc_new w _), hc]
    simp [hi, List.getD]
theorem Row.made_mark {k : IntKind} (w : World) (L : List Int) (e : TypeId) (c : Array Value) (f : Nat × Nat) (hc : c = (L.map (Value.int k)).toArray) (hw : ∀ i, i < L.length → (Lit.int k (L.getD i 0)).wf = true) (hn : L.length ≤ 9223372036854775807) :
    Row k (w.alloc (.cells c e f)) (.slice (some ⟨w.heap.size, 0, none⟩) L.length L.length) L := by
  refine ⟨_, _, rfl, Nat.le_refl _, hn, hw, fun _ => ⟨w.heap.size, 0, rfl, ?_, fun i hi => ?_⟩⟩
  · have : (w.alloc (.cells c e f)).heap.size = w.heap.size + 1 := Array.size_push _
    omega
  · rw [Nat.zero_add, cell_block (heap_alloc_new w _), hc]
    simp [hi, List.getD]
theorem SRow.made (w : World) (L : List ByteArray) (e : TypeId) (c : Array Value) (hc : c = (L.map Value.string).toArray) (hw : ∀ i, i < L.length → (L.getD i ByteArray.empty).size ≤ 9223372036854775807) (hn : L.length ≤ 9223372036854775807) :
    SRow (w.alloc (.cells c e)) (.slice (some ⟨w.heap.size, 0, none⟩) L.length L.length) L := by
  refine ⟨_, _, rfl, Nat.le_refl _, hn, hw, fun _ => ⟨w.heap.size, 0, rfl, ?_, fun i hi => ?_⟩⟩
  · have : (w.alloc (.cells c e)).heap.size = w.heap.size + 1 := Array.size_push _
    omega
  · rw [Nat.zero_add, cell_block (heap_alloc_new w _), hc]
    simp [hi, List.getD]
theorem below_made (w : World) (o : Obj) : Below w.heap.size w (w.alloc o) := (Below.refl _ _).alloc (Nat.le_refl _) _

/-- The rows of a slice's parts. -/
theorem Row.tail {k : IntKind} {w : World} {b off cap n : Nat} {l : List Int} (h : Row k w (.slice (some ⟨b, off, none⟩) l.length cap) l) (hn : n ≤ l.length) : Row k w (.slice (some ⟨b, off + n, none⟩) (l.length - n) (cap - n)) (l.drop n) := by
  obtain ⟨a, cap', h1, h2, h3, h4, h5⟩ := h
  injection h1 with e1 e2 e3
  subst e1 e3
  refine ⟨_, _, by rw [List.length_drop], by rw [List.length_drop]; omega, by omega, fun i hi => ?_, fun hne => ⟨b, off + n, rfl, ?_, fun i hi => ?_⟩⟩
  · rw [List.length_drop] at hi
    have := h4 (n + i) (by omega)
    simpa [List.getD] using this
  · obtain ⟨b', off', e, hlt, hc⟩ := h5 (by rintro rfl; simp at hne)
    injection e with e
    injection e with e _ _
    subst e
    exact hlt
  · rw [List.length_drop] at hi
    obtain ⟨b', off', e, hlt, hc⟩ := h5 (by rintro rfl; simp at hne)
    injection e with e
    injection e with e e' _
    subst e e'
    have := hc (n + i) (by omega)
    rw [Nat.add_assoc, this]
    simp [List.getD]

theorem Row.take {k : IntKind} {w : World} {a : Option Addr} {cap n : Nat} {l : List Int} (h : Row k w (.slice a l.length cap) l) (hn : n ≤ l.length) : Row k w (.slice a n cap) (l.take n) := by
  obtain ⟨a', cap', h1, h2, h3, h4, h5⟩ := h
  injection h1 with e1 e2 e3
  subst e1 e3
  have hL : (l.take n).length = n := by rw [List.length_take]; omega
  refine ⟨_, _, by rw [hL], by omega, by omega, fun i hi => ?_, fun hne => ?_⟩
  · rw [hL] at hi
    have := h4 i (by omega)
    simpa [List.getD, hi] using this
  · obtain ⟨b, off, e, hlt, hc⟩ := h5 (by rintro rfl; simp at hne)
    refine ⟨b, off, e, hlt, fun i hi => ?_⟩
    rw [hL] at hi
    rw [hc i (by omega)]
    simp [List.getD, hi]
theorem SRow.tail {w : World} {b off cap n : Nat} {l : List ByteArray} (h : SRow w (.slice (some ⟨b, off, none⟩) l.length cap) l) (hn : n ≤ l.length) : SRow w (.slice (some ⟨b, off + n, none⟩) (l.length - n) (cap - n)) (l.drop n) := by
  obtain ⟨a, cap', h1, h2, h3, h4, h5⟩ := h
  injection h1 with e1 e2 e3
  subst e1 e3
  refine ⟨_, _, by rw [List.length_drop], by rw [List.length_drop]; omega, by omega, fun i hi => ?_, fun hne => ⟨b, off + n, rfl, ?_, fun i hi => ?_⟩⟩
  · rw [List.length_drop] at hi
    have := h4 (n + i) (by omega)
    simpa [List.getD] using this
  · obtain ⟨b', off', e, hlt, hc⟩ := h5 (by rintro rfl; simp at hne)
    injection e with e
    injection e with e _ _
    subst e
    exact hlt
  · rw [List.length_drop] at hi
    obtain ⟨b', off', e, hlt, hc⟩ := h5 (by rintro rfl; simp at hne)
    injection e with e
    injection e with e e' _
    subst e e'
    have := hc (n + i) (by omega)
    rw [Nat.add_assoc, this]
    simp [List.getD]

theorem Row.from_ {k : IntKind} {w : World} {a : Option Addr} {cap n : Nat} {l : List Int} (h : Row k w (.slice a l.length cap) l) (hn : n ≤ l.length) : Row k w (.slice (if cap = n then a else a.map (·.add n)) (l.length - n) (cap - n)) (l.drop n) := by
  obtain ⟨a', cap', h1, h2, h3, h4, h5⟩ := h
  injection h1 with e1 e2 e3
  subst e1 e3
  refine ⟨_, _, by rw [List.length_drop], by rw [List.length_drop]; omega, by omega, fun i hi => ?_, fun hne => ?_⟩
  · rw [List.length_drop] at hi
    have := h4 (n + i) (by omega)
    simpa [List.getD] using this
  · have hlt : n < l.length := by
      have := List.length_pos_iff.2 hne
      rw [List.length_drop] at this
      omega
    obtain ⟨b, off, e, hb, hc⟩ := h5 (by rintro rfl; simp at hne)
    subst e
    rw [if_neg (by omega)]
    refine ⟨b, off + n, by simp [Addr_add], hb, fun i hi => ?_⟩
    rw [List.length_drop] at hi
    have := hc (n + i) (by omega)
    rw [Nat.add_assoc, this]
    simp [List.getD]

/-- []byte(s): a new row of the text's bytes. -/
theorem bytes_row {P : Program} (w : World) (src dst e : TypeId) (s : ByteArray) (hs : P.underlying src = some .string) (hd : P.underlying dst = some (.slice e)) (he : P.underlying e = some (.int .u8)) (hn : s.size ≤ 9223372036854775807) :
    ∃ v W, (convert src dst (.string s)).run P w = .ok v W ∧ Below w.heap.size w W ∧ W.heap.size = w.heap.size + 1 ∧ Row .u8 W v (bs s) ∧ ∃ a cap, v = .slice a s.size cap := by
  refine ⟨_, _, Lib.run_convert_string_bytes w src dst e s hs hd he, ?_, Lib.bytesWorld_size w e s, ?_, _, _, rfl⟩
  · exact ⟨by simp [Lib.bytesWorld, World.freeze, World.alloc, World.drew, -World.alloc_eq, -World.drew_eq], by simp [Lib.bytesWorld, World.freeze, World.alloc, World.drew, -World.alloc_eq, -World.drew_eq], by simp [Lib.bytesWorld, World.freeze, World.alloc, World.drew, -World.alloc_eq, -World.drew_eq], by rw [Lib.bytesWorld_size]; omega, fun k hk => Lib.bytesWorld_at_old w e s k hk⟩
  · refine ⟨_, _, by rw [bs_length], by rw [bs_length]; exact grownCap_ge _ _ _ _, ?_, fun i hi => ?_, fun _ => ⟨w.heap.size, 0, rfl, by rw [Lib.bytesWorld_size]; omega, fun i hi => ?_⟩⟩
    · have := grownCap_le_maxLen w s.size 0 e (maxLen_of hn)
      unfold maxLen at this
      omega
    · have := bs_bd s i
      exact WalkArith.wf_u8 (by omega)
    · rw [bs_length] at hi
      rw [Nat.zero_add, Lib.bytesWorld_cell w e s i hi, bs_getD s i hi, List.getD, data_get s i hi]
      rfl
end Go.Proofs.Ytojicajdhlahfaa
