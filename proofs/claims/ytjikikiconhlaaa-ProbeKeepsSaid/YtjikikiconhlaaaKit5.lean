/- Slices of texts that are read; rows just made. -/
import Derived.Test.YtjikikiconhlaaaKit3
import Derived.SliceStrings
import Derived.Lib.SlBytesConst
namespace Go.Proofs.Ytjikikiconhlaaa
open Go.RowKit

/-- A slice value of texts reads as a list. -/
def SRow (w : World) (v : Value) (l : List ByteArray) : Prop :=
  ∃ a cap, v = .slice a l.length cap ∧ l.length ≤ cap ∧ cap ≤ 9223372036854775807 ∧ (∀ i, i < l.length → (l.getD i ByteArray.empty).size ≤ 9223372036854775807) ∧
    (l ≠ [] → ∃ b off, a = some ⟨b, off, none⟩ ∧ b < w.heap.size ∧ ∀ i, i < l.length → w.cell? ⟨b, off + i, none⟩ = some (.string (l.getD i ByteArray.empty)))

theorem SRow.mono {w w' : World} {v : Value} {l : List ByteArray} {B : Nat} (h : SRow w v l) (hb : Below B w w') (hB : w.heap.size ≤ B) : SRow w' v l := by
  obtain ⟨a, cap, h1, h2, h3, h4, h5⟩ := h
  refine ⟨a, cap, h1, h2, h3, h4, fun hne => ?_⟩
  obtain ⟨b, off, e, hlt, hc⟩ := h5 hne
  exact ⟨b, off, e, Nat.lt_of_lt_of_le hlt hb.size, fun i hi => (hb.cell (p := ⟨b, off + i, none⟩) (show b < B by omega)).trans (hc i hi)⟩
theorem SRow.nil (w : World) : SRow w (.slice none 0 0) [] := ⟨none, 0, rfl, by simp, by omega, fun i hi => by simp at hi, fun h => absurd rfl h⟩

theorem SRow.ofArg {w : World} {a : Option Addr} {len cap : Nat} {zs : List ByteArray}
    (h : (a = none ∧ len = 0 ∧ cap = 0 ∧ zs = []) ∨ ∃ x, a = some x ∧ len ≤ cap ∧ cap ≤ maxLen ∧ zs.length = cap ∧ (∀ i, i < zs.length → w.cell? (x.add i) = some (.string (zs.getD i ByteArray.empty))) ∧ ∀ s ∈ zs, s.size ≤ maxLen) :
    SRow w (.slice a len cap) (zs.take len) ∧ (zs.take len).length = len := by
  rcases h with ⟨rfl, rfl, rfl, rfl⟩ | ⟨x, rfl, hl, hm, hz, hcell, hwf⟩
  · exact ⟨SRow.nil _, rfl⟩
  · have hL : (zs.take len).length = len := by simp; omega
    have hget : ∀ i, i < len → (zs.take len).getD i ByteArray.empty = zs.getD i ByteArray.empty := fun i hi => by simp [List.getD, hi]
    refine ⟨⟨some x, cap, by rw [hL], by rw [hL]; exact hl, by unfold maxLen at hm; omega, fun i hi => ?_, fun hne => ?_⟩, hL⟩
    · rw [hL] at hi
      rw [hget i hi]
      have hi' : i < zs.length := by omega
      have e : zs.getD i ByteArray.empty = zs[i] := by simp [List.getD, hi']
      rw [e]
      have := hwf _ (List.getElem_mem hi')
      unfold maxLen at this
      exact this
    · have hpos : 0 < len := by
        have := List.length_pos_iff.2 hne
        omega
      obtain ⟨b, off, spot⟩ := x
      have hc := hcell 0 (by omega)
      have hspot : spot = none := by simpa [Addr.add] using World.cell?_spot hc
      subst hspot
      refine ⟨b, off, rfl, by have := World.block_lt_of_cell? w _ hc; simpa [Addr.add] using this, fun i hi => ?_⟩
      rw [hL] at hi
      rw [hget i hi, ← hcell i (by omega), Addr_add]

/-- A row that the call just made. -/
theorem Row.made {k : IntKind} (w : World) (L : List Int) (e : TypeId) (c : Array Value) (hc : c = (L.map (Value.int k)).toArray) (hw : ∀ i, i < L.length → (Lit.int k (L.getD i 0)).wf = true) (hn : L.length ≤ 9223372036854775807) :
    Row k (w.alloc (.cells c e)) (.slice (some ⟨w.heap.size, 0, none⟩) L.length L.length) L := by
  refine ⟨_, _, rfl, Nat.le_refl _, hn, hw, fun _ => ⟨w.heap.size, 0, rfl, ?_, fun i hi => ?_⟩⟩
  · have : (w.alloc (.cells c e)).heap.size = w.heap.size + 1 := Array.size_push _
    omega
  · rw [Nat.zero_add, cell_block (heap_alloc_new w _), hc]
    simp [hi, List.getD]
theorem Row.made_mark {k : IntKind} (w : World) (L : List Int) (e : TypeId) (c : Array Value) (f : Nat × Nat) (hc : c = (L.map (Value.int k)).toArray) (hw : ∀ i, i < L.length → (Lit.int k (L.getD i 0)).wf = true) (hn : L.length ≤ 9223372036854775807) :
    Row k (w.alloc (.cells c e f)) (.slice (some ⟨w.heap.size, 0, none⟩) L.length L.length) L := by
  refine ⟨_, _, rfl, Nat.le_refl _, hn, hw, fun _ => ⟨w.heap.size, 0, rfl, ?_, fun i hi => ?_⟩⟩
  · have : (w.alloc (.cells c e f)).heap.size = w.heap.size + 1 := Array.size_push _
    omega
  · rw [Nat.zero_add, cell_block (heap_alloc_new w _), hc]
    simp [hi, List.getD]
theorem SRow.made (w : World) (L : List ByteArray) (e : TypeId) (c : Array Value) (hc : c = (L.map Value.string).toArray) (hw : ∀ i, i < L.length → (L.getD i ByteArray.empty).size ≤ 9223372036854775807) (hn : L.length ≤ 9223372036854775807) :
    SRow (w.alloc (.cells c e)) (.slice (some ⟨w.heap.size, 0, none⟩) L.length L.length) L := by
  refine ⟨_, _, rfl, Nat.le_refl _, hn, hw, fun _ => ⟨w.heap.size, 0, rfl, ?_, fun i hi => ?_⟩⟩
  · have : (w.alloc (.cells c e)).heap.size = w.heap.size + 1 := Array.size_push _
    omega
  · rw [Nat.zero_add, cell_block (heap_alloc_new w _), hc]
    simp [hi, List.getD]
theorem below_made (w : World) (o : Obj) : Below w.heap.size w (w.alloc o) := (Below.refl _ _).alloc (Nat.le_refl _) _

/-- The rows of a slice's parts. -/
theorem Row.tail {k : IntKind} {w : World} {b off cap n : Nat} {l : List Int} (h : Row k w (.slice (some ⟨b, off, none⟩) l.length cap) l) (hn : n ≤ l.length) : Row k w (.slice (some ⟨b, off + n, none⟩) (l.length - n) (cap - n)) (l.drop n) := by
  obtain ⟨a, cap', h1, h2, h3, h4, h5⟩ := h
  injection h1 with e1 e2 e3
  subst e1 e3
  refine ⟨_, _, by rw [List.length_drop], by rw [List.length_drop]; omega, by omega, fun i hi => ?_, fun hne => ⟨b, off + n, rfl, ?_, fun i hi => ?_⟩⟩
  · rw [List.length_drop] at hi
    have := h4 (n + i) (by omega)
    simpa [List.getD] using this
  · obtain ⟨b', off', e, hlt, hc⟩ := h5 (by rintro rfl; simp at hne)
    injection e with e
    injection e with e _ _
    subst e
    exact hlt
  · rw [List.length_drop] at hi
    obtain ⟨b', off', e, hlt, hc⟩ := h5 (by rintro rfl; simp at hne)
    injection e with e
    injection e with e e' _
    subst e e'
    have := hc (n + i) (by omega)
    rw [Nat.add_assoc, this]
    simp [List.getD]

theorem Row.take {k : IntKind} {w : World} {a : Option Addr} {cap n : Nat} {l : List Int} (h : Row k w (.slice a l.length cap) l) (hn : n ≤ l.length) : Row k w (.slice a n cap) (l.take n) := by
  obtain ⟨a', cap', h1, h2, h3, h4, h5⟩ := h
  injection h1 with e1 e2 e3
  subst e1 e3
  have hL : (l.take n).length = n := by rw [List.length_take]; omega
  refine ⟨_, _, by rw [hL], by omega, by omega, fun i hi => ?_, fun hne => ?_⟩
  · rw [hL] at hi
    have := h4 i (by omega)
    simpa [List.getD, hi] using this
  · obtain ⟨b, off, e, hlt, hc⟩ := h5 (by rintro rfl; simp at hne)
    refine ⟨b, off, e, hlt, fun i hi => ?_⟩
    rw [hL] at hi
    rw [hc i (by omega)]
    simp [List.getD, hi]
theorem SRow.tail {w : World} {b off cap n : Nat} {l : List ByteArray} (h : SRow w (.slice (some ⟨b, off, none⟩) l.length cap) l) (hn : n ≤ l.length) : SRow w (.slice (some ⟨b, off + n, none⟩) (l.length - n) (cap - n)) (l.drop n) := by
  obtain ⟨a, cap', h1, h2, h3, h4, h5⟩ := h
  injection h1 with e1 e2 e3
  subst e1 e3
  refine ⟨_, _, by rw [List.length_drop], by rw [List.length_drop]; omega, by omega, fun i hi => ?_, fun hne => ⟨b, off + n, rfl, ?_, fun i hi => ?_⟩⟩
  · rw [List.length_drop] at hi
    have := h4 (n + i) (by omega)
    simpa [List.getD] using this
  · obtain ⟨b', off', e, hlt, hc⟩ := h5 (by rintro rfl; simp at hne)
    injection e with e
    injection e with e _ _
    subst e
    exact hlt
  · rw [List.length_drop] at hi
    obtain ⟨b', off', e, hlt, hc⟩ := h5 (by rintro rfl; simp at hne)
    injection e with e
    injection e with e e' _
    subst e e'
    have := hc (n + i) (by omega)
    rw [Nat.add_assoc, this]
    simp [List.getD]

theorem Row.from_ {k : IntKind} {w : World} {a : Option Addr} {cap n : Nat} {l : List Int} (h : Row k w (.slice a l.length cap) l) (hn : n ≤ l.length) : Row k w (.slice (if cap = n then a else a.map (·.add n)) (l.length - n) (cap - n)) (l.drop n) := by
  obtain ⟨a', cap', h1, h2, h3, h4, h5⟩ := h
  injection h1 with e1 e2 e3
  subst e1 e3
  refine ⟨_, _, by rw [List.length_drop], by rw [List.length_drop]; omega, by omega, fun i hi => ?_, fun hne => ?_⟩
  · rw [List.length_drop] at hi
    have := h4 (n + i) (by omega)
    simpa [List.getD] using this
  · have hlt : n < l.length := by
      have := List.length_pos_iff.2 hne
      rw [List.length_drop] at this
      omega
    obtain ⟨b, off, e, hb, hc⟩ := h5 (by rintro rfl; simp at hne)
    subst e
    rw [if_neg (by omega)]
    refine ⟨b, off + n, by simp [Addr_add], hb, fun i hi => ?_⟩
    rw [List.length_drop] at hi
    have := hc (n + i) (by omega)
    rw [Nat.add_assoc, this]
    simp [List.getD]

/-- []byte(s): a new row of the text's bytes. -/
theorem bytes_row {P : Program} (w : World) (src dst e : TypeId) (s : ByteArray) (hs : P.underlying src = some .string) (hd : P.underlying dst = some (.slice e)) (he : P.underlying e = some (.int .u8)) (hn : s.size ≤ 9223372036854775807) :
    ∃ v W, (convert src dst (.string s)).run P w = .ok v W ∧ Below w.heap.size w W ∧ W.heap.size = w.heap.size + 1 ∧ Row .u8 W v (bs s) ∧ ∃ a cap, v = .slice a s.size cap := by
  refine ⟨_, _, Lib.run_convert_string_bytes w src dst e s hs hd he, ?_, Lib.bytesWorld_size w e s, ?_, _, _, rfl⟩
  · exact ⟨by simp [Lib.bytesWorld, World.freeze, World.alloc, World.drew, -World.alloc_eq, -World.drew_eq], by simp [Lib.bytesWorld, World.freeze, World.alloc, World.drew, -World.alloc_eq, -World.drew_eq], by simp [Lib.bytesWorld, World.freeze, World.alloc, World.drew, -World.alloc_eq, -World.drew_eq], by rw [Lib.bytesWorld_size]; omega, fun k hk => Lib.bytesWorld_at_old w e s k hk⟩
  · refine ⟨_, _, by rw [bs_length], by rw [bs_length]; exact grownCap_ge _ _ _ _, ?_, fun i hi => ?_, fun _ => ⟨w.heap.size, 0, rfl, by rw [Lib.bytesWorld_size]; omega, fun i hi => ?_⟩⟩
    · have := grownCap_le_maxLen w s.size 0 e (maxLen_of hn)
      unfold maxLen at this
      omega
    · have := bs_bd s i
      exact WalkArith.wf_u8 (by omega)
    · rw [bs_length] at hi
      rw [Nat.zero_add, Lib.bytesWorld_cell w e s i hi, bs_getD s i hi, List.getD, data_get s i hi]
      rfl

/-- A row that the call owns stays, whatever was made since. -/
theorem ownsRow_stays {B : Nat} {e : TypeId} {k : Nat} {v : Value} {n : Nat} {xs : List Value} {w w' : World} (h : w.ownsRow B e k v n xs) (hb : Below w.heap.size w w') : w'.ownsRow B e k v n xs :=
  h.kept (row := none) ⟨hb.os, hb.tape, hb.output, hb.size, fun j hj _ => hb.block j hj⟩ (by cases hv : v.ownBlock <;> simp)
def valsS (l : List ByteArray) : List Value := l.map .string
theorem valsS_length (l : List ByteArray) : (valsS l).length = l.length := by simp [valsS]
theorem valsS_get (l : List ByteArray) (j : Nat) (h : j < l.length) : (valsS l)[j]? = some (.string (l.getD j ByteArray.empty)) := by simp [valsS, h, List.getD]
theorem valsS_snoc (l : List ByteArray) (x : ByteArray) : valsS (l ++ [x]) = valsS l ++ [.string x] := by simp [valsS]
theorem srow_of_owns {w : World} {base : Nat} {t : TypeId} {v : Value} {n : Nat} {l : List ByteArray} (h : w.ownsRow base t 1 v n (valsS l)) (hn : l.length = n) (hb : ∀ i, i < l.length → (l.getD i ByteArray.empty).size ≤ 9223372036854775807) : SRow w v l := by
  obtain ⟨h1, h2⟩ := h
  subst hn
  rcases h2 with ⟨rfl, h0⟩ | ⟨g, cap, cur, rfl, hg, hh, hle, hm, hsz, htk⟩
  · obtain rfl : l = [] := List.eq_nil_of_length_eq_zero h0
    exact SRow.nil _
  · refine ⟨_, cap, rfl, hle, by unfold maxLen at hm; omega, hb, fun _ => ⟨g, 0, rfl, (Array.getElem?_eq_some_iff.1 hh).1, fun i hi => ?_⟩⟩
    rw [Nat.zero_add, cell_block hh]
    have e := valsS_get l i hi
    rw [← htk, List.getElem?_take_of_lt (by omega)] at e
    rw [← e]
    simp
theorem news_oneS (w : World) (x : ByteArray) (e : TypeId) : ∀ j u, [Value.string x][j]? = some u → (w.alloc (.cells #[.string x] e)).cell? ((⟨w.heap.size, 0, none⟩ : Addr).add j) = some u := by
  intro j u hj
  match j, hj with
  | 0, hj =>
    rw [Addr_add, Nat.zero_add, cell_block (heap_alloc_new w _)]
    simpa using hj
  | j + 1, hj => simp at hj
theorem oneCell_oneS (x : ByteArray) : ∀ u ∈ [Value.string x], u.oneCell' = true := by
  intro u hu
  simp at hu
  subst hu
  rfl
end Go.Proofs.Ytjikikiconhlaaa
