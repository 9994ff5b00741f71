/- Strings as lists of integers; []byte(s); rows that a call owns. -/
import Derived.Test.YtjikikiconhlaaaKit2
import Derived.Lib.ConvBytes
import Derived.WalkSmall
namespace Go.Proofs.Ytjikikiconhlaaa
open Go.RowKit

def vals (l : List Int) : List Value := l.map (.int .u8)
theorem vals_length (l : List Int) : (vals l).length = l.length := by simp [vals]
theorem vals_get (l : List Int) (j : Nat) (h : j < l.length) : (vals l)[j]? = some (.int .u8 (l.getD j 0)) := by simp [vals, h, List.getD]
theorem vals_snoc (L : List Int) (k : Nat) (h : k < L.length) : vals (L.take (k + 1)) = vals (L.take k) ++ [.int .u8 (L.getD k 0)] := by
  have e : L.getD k 0 = L[k] := by simp [List.getD, h]
  show (L.take (k + 1)).map _ = (L.take k).map _ ++ [_]
  rw [List.take_succ_eq_append_getElem h, List.map_append, e]
  rfl
theorem row_of_owns {w : World} {base : Nat} {t : TypeId} {v : Value} {n : Nat} {l : List Int} (h : w.ownsRow base t 1 v n (vals l)) (hn : l.length = n) (hb : ∀ i, 0 ≤ l.getD i 0 ∧ l.getD i 0 < 256) : Row .u8 w v l := by
  obtain ⟨h1, h2⟩ := h
  subst hn
  rcases h2 with ⟨rfl, h0⟩ | ⟨g, cap, cur, rfl, hg, hh, hle, hm, hsz, htk⟩
  · obtain rfl : l = [] := List.eq_nil_of_length_eq_zero h0
    exact Row.nil _ _
  · refine ⟨_, cap, rfl, hle, by unfold maxLen at hm; omega, fun i hi => ?_, fun _ => ⟨g, 0, rfl, (Array.getElem?_eq_some_iff.1 hh).1, fun i hi => ?_⟩⟩
    · have := hb i; exact WalkArith.wf_u8 (by omega)
    · rw [Nat.zero_add, cell_block hh]
      have e := vals_get l i hi
      rw [← htk, List.getElem?_take_of_lt (by omega)] at e
      rw [← e]
      simp

/-- A text's bytes, as integers. -/
def bs (s : ByteArray) : List Int := s.data.toList.map fun c => (c.toNat : Int)
theorem bs_length (s : ByteArray) : (bs s).length = s.size := by simp [bs]
theorem data_get (s : ByteArray) (k : Nat) (h : k < s.size) : s.data.toList[k]? = some (s[k]'h) := by
  have h' : k < s.data.toList.length := by simpa using h
  rw [List.getElem?_eq_getElem h']
  rfl
theorem bs_getD (s : ByteArray) (k : Nat) (h : k < s.size) : (bs s).getD k 0 = ((s[k]'h).toNat : Int) := by
  unfold bs
  rw [List.getD, List.getElem?_map, data_get s k h]
  rfl
theorem bs_bd (s : ByteArray) (i : Nat) : 0 ≤ (bs s).getD i 0 ∧ (bs s).getD i 0 < 256 := by
  by_cases h : i < s.size
  · rw [bs_getD s i h]
    have := (s[i]'h).toNat_lt
    omega
  · simp [List.getD, List.getElem?_eq_none (show (bs s).length ≤ i by rw [bs_length]; omega)]
theorem strOfNums_bs (s : ByteArray) : strOfNums (bs s) = s := by
  unfold bs strOfNums
  rw [List.map_map]
  have e : ((fun n : Int => UInt8.ofNat n.toNat) ∘ fun c : UInt8 => (c.toNat : Int)) = id := by
    funext c
    simp
  rw [e, List.map_id]
theorem bs_strOfNums (l : List Int) (h : ∀ i, 0 ≤ l.getD i 0 ∧ l.getD i 0 < 256) : bs (strOfNums l) = l := by
  apply List.ext_getElem
  · rw [bs_length, strOfNums_size]
  · intro i h1 h2
    have := h i
    simp [List.getD, h2] at this
    simp [bs, strOfNums_data]
    omega
theorem bs_inj {s t : ByteArray} (h : bs s = bs t) : s = t := by rw [← strOfNums_bs s, ← strOfNums_bs t, h]
theorem str_beq (s t : ByteArray) : (s.toList == t.toList) = (bs s == bs t) := by
  rw [ByteArray.toList_eq, ByteArray.toList_eq, Bool.eq_iff_iff, beq_iff_eq, beq_iff_eq]
  exact ⟨fun h => by unfold bs; rw [h], fun h => by rw [bs_inj h]⟩

/-- []byte(s): a new block with the text's bytes. -/
theorem bytes_made {P : Program} (w : World) (src dst e : TypeId) (s : ByteArray) (hs : P.underlying src = some .string) (hd : P.underlying dst = some (.slice e)) (he : P.underlying e = some (.int .u8)) :
    ∃ cap W, (convert src dst (.string s)).run P w = .ok (.slice (some ⟨w.heap.size, 0, none⟩) s.size cap) W ∧ s.size ≤ cap ∧ Below w.heap.size w W ∧ W.heap.size = w.heap.size + 1 ∧
      (∀ j, j < s.size → W.cell? ⟨w.heap.size, j, none⟩ = some (.int .u8 ((bs s).getD j 0))) ∧ (∀ j, j < s.size → W.frozen? ⟨w.heap.size, j, none⟩ = false) := by
  refine ⟨_, _, Lib.run_convert_string_bytes w src dst e s hs hd he, grownCap_ge _ _ _ _, ?_, Lib.bytesWorld_size w e s, ?_, ?_⟩
  · exact ⟨by simp [Lib.bytesWorld, World.freeze, World.alloc, World.drew, -World.alloc_eq, -World.drew_eq], by simp [Lib.bytesWorld, World.freeze, World.alloc, World.drew, -World.alloc_eq, -World.drew_eq], by simp [Lib.bytesWorld, World.freeze, World.alloc, World.drew, -World.alloc_eq, -World.drew_eq], by rw [Lib.bytesWorld_size]; omega, fun k hk => Lib.bytesWorld_at_old w e s k hk⟩
  · intro j hj
    rw [Lib.bytesWorld_cell w e s j hj, bs_getD s j hj, List.getD, data_get s j hj]
    rfl
  · intro j hj
    have hge := grownCap_ge w s.size 0 e
    have hsz : j < (Lib.bytesCells w e s).size := by simp [Lib.bytesCells]; omega
    simp [World.frozen?, Lib.bytesWorld_at_new]
    omega

theorem setCell_cells {w : World} {g k n : Nat} {L : List Int} {x : Int} (h : ∀ j, j < n → w.cell? ⟨g, j, none⟩ = some (.int .u8 (L.getD j 0))) (hk : k < n) (hL : L.length = n) :
    ∀ j, j < n → (w.setCell ⟨g, k, none⟩ (.int .u8 x)).cell? ⟨g, j, none⟩ = some (.int .u8 ((L.set k x).getD j 0)) := by
  intro j hj
  by_cases e : j = k
  · subst e
    rw [World.cell?_setCell_same _ _ _ (h j hj)]
    simp [List.getD, hL, hj]
  · rw [World.cell?_setCell_other _ _ _ _ (by intro h; injection h with _ h2 _; exact e h2.symm), h j hj]
    simp [List.getD, List.getElem?_set_ne (fun h => e h.symm)]
end Go.Proofs.Ytjikikiconhlaaa
