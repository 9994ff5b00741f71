/- Plain mathematics of packed names: what is packed, and that all of it is read again. -/
import Derived.Test.YtjhmjimfehanbaaWireB
namespace Go.Proofs.Ytjhmjimfehanbaa.Wire
open Go.RowKit Fold Name

/-- A name's bytes by itself. -/
def putL : List ByteArray → List Int
  | [] => [0]
  | s :: l => (s.size : Int) :: bs (lowS s) ++ putL l
theorem putL_length (l : List ByteArray) : (putL l).length = wire l := by
  induction l with
  | nil => rfl
  | cons s l ih => simp only [putL, wire, List.length_append, List.length_cons, ih, bs_length, lowS_size]
def putB (l : List ByteArray) : List Int := if chk l = 0 then putL l else []

/-- Names packed: behind b, with the suffixes t laid; ps: the places so far. -/
def packF (t : List (List ByteArray × Nat)) (b : List Int) (ps : List Int) : List (List ByteArray) → List Int × List Int × Int
  | [] => (b, ps, 0)
  | l :: r => if chk l = 0 then packF (encN t b l).2 (encN t b l).1 (ps ++ [(b.length : Int)]) r else ([], [], chk l)
def packW (L : List (List ByteArray)) : List Int × List Int × Int := if 64 < L.length then ([], [], 2) else packF [] [] [] L

/-- Where name i ends. -/
def nxt (b ps : List Int) (i : Nat) : Nat := ((ps ++ [(b.length : Int)]).getD (i + 1) 0).toNat

/-- All that is packed stands there: name i at its place. -/
def Packed (b ps : List Int) (L : List (List ByteArray)) : Prop :=
  ps.length = L.length ∧ ps.getD 0 (b.length : Int) = 0 ∧
  ∀ i, i < L.length → ∃ p e : Nat, ps.getD i 0 = p ∧ (ps ++ [(b.length : Int)]).getD (i + 1) 0 = e ∧ chk (L.getD i []) = 0 ∧ Enc b p p ((L.getD i []).map lowS) e ∧ e ≤ p + wire (L.getD i [])

theorem getD_snoc_lt {α : Type} (l : List α) (x d : α) (i : Nat) (h : i < l.length) : (l ++ [x]).getD i d = l.getD i d := by simp [List.getD, List.getElem?_append_left h]
theorem getD_snoc_eq {α : Type} (l : List α) (x d : α) : (l ++ [x]).getD l.length d = x := by simp [List.getD]

theorem Packed.snoc {b c ps : List Int} {L : List (List ByteArray)} {l : List ByteArray} (h : Packed b ps L) (hc : chk l = 0) (hE : Enc (b ++ c) b.length b.length (l.map lowS) (b ++ c).length) (hw : (b ++ c).length ≤ b.length + wire l) : Packed (b ++ c) (ps ++ [(b.length : Int)]) (L ++ [l]) := by
  obtain ⟨h1, h2, h3⟩ := h
  refine ⟨by simp [h1], ?_, fun i hi => ?_⟩
  · cases ps with
    | nil => simpa [List.getD] using h2
    | cons p r => simpa [List.getD] using h2
  · rw [List.length_append, List.length_singleton] at hi
    by_cases hlt : i < L.length
    · obtain ⟨p, e, g1, g2, g3, g4, g5⟩ := h3 i hlt
      refine ⟨p, e, by rw [getD_snoc_lt _ _ _ _ (by omega)]; exact g1, ?_, by rw [getD_snoc_lt _ _ _ _ hlt]; exact g3, by rw [getD_snoc_lt _ _ _ _ hlt]; exact g4.append c, by rw [getD_snoc_lt _ _ _ _ hlt]; exact g5⟩
      rw [getD_snoc_lt _ _ _ _ (by simp; omega)]
      exact g2
    · obtain rfl : i = L.length := by omega
      refine ⟨b.length, (b ++ c).length, by rw [← h1]; exact getD_snoc_eq _ _ _, ?_, by rw [getD_snoc_eq]; exact hc, by rw [getD_snoc_eq]; exact hE, by rw [getD_snoc_eq]; exact hw⟩
      have := getD_snoc_eq (ps ++ [(b.length : Int)]) (((b ++ c).length : Nat) : Int) 0
      have hlen : (ps ++ [(b.length : Int)]).length = L.length + 1 := by rw [List.length_append, List.length_singleton, h1]
      rw [hlen] at this
      exact this

theorem chk_wire {l : List ByteArray} (h : chk l = 0) : allLab l = true ∧ wire l ≤ 255 := chk_zero h

theorem packF_packed (t : List (List ByteArray × Nat)) (b ps : List Int) (L r : List (List ByteArray)) (hP : Packed b ps L) (hG : Good b t) (hn : L.length + r.length ≤ 64) (hb : b.length ≤ 255 * L.length) (hz : (packF t b ps r).2.2 = 0) :
    Packed (packF t b ps r).1 (packF t b ps r).2.1 (L ++ r) ∧ (packF t b ps r).1.length ≤ 255 * (L.length + r.length) := by
  induction r generalizing t b ps L with
  | nil => simpa [packF] using ⟨hP, hb⟩
  | cons l r ih =>
    by_cases hc : chk l = 0
    · rw [packF, if_pos hc] at hz ⊢
      obtain ⟨ha, hw⟩ := chk_zero hc
      rw [List.length_cons] at hn
      obtain ⟨c, hcc⟩ := encN_pre t b l
      obtain ⟨n1, n2⟩ := encN_len t b l ha
      have hE := encN_enc t [] b.length b l ha (Nat.le_refl _) (by omega) (fun x q hx => by
        obtain ⟨g1, g2, e, he, hE⟩ := hG x q hx
        exact ⟨g1, g2, e, he, hE⟩) (fun x q hx => by simp at hx)
      rw [List.append_nil] at hE
      obtain ⟨e1, e2⟩ := hE
      obtain ⟨R, hR⟩ : ∃ R, R = encN t b l := ⟨_, rfl⟩
      rw [← hR] at hz hcc n1 n2 e1 e2 ⊢
      have hP2 : Packed R.1 (ps ++ [(b.length : Int)]) (L ++ [l]) := by
        rw [hcc] at e1 n2 ⊢
        exact hP.snoc hc e1 n2
      have hG2 : Good R.1 R.2 := by
        intro x q hx
        rcases e2 x q hx with h | ⟨h1, h2, h3⟩
        · obtain ⟨g1, g2, e, he, hE⟩ := hG x q h
          refine ⟨g1, by omega, e, by omega, ?_⟩
          rw [hcc]
          exact hE.append c
        · have hend := h3.end_gt
          exact ⟨h2, by omega, R.1.length, Nat.le_refl _, h3.mono h1⟩
      have := ih R.2 R.1 (ps ++ [(b.length : Int)]) (L ++ [l]) hP2 hG2 (by simp; omega) (by simp; omega) hz
      rw [List.length_append, List.length_singleton] at this
      rw [List.length_cons, show L ++ l :: r = L ++ [l] ++ r by simp, show L.length + (r.length + 1) = L.length + 1 + r.length by omega]
      exact this
    · rw [packF, if_neg hc] at hz
      exact absurd hz hc
theorem packW_packed {L : List (List ByteArray)} (hz : (packW L).2.2 = 0) : Packed (packW L).1 (packW L).2.1 L ∧ (packW L).1.length ≤ 16320 ∧ L.length ≤ 64 := by
  unfold packW at hz ⊢
  by_cases h : 64 < L.length
  · rw [if_pos h] at hz; simp at hz
  · rw [if_neg h] at hz ⊢
    have := packF_packed [] [] [] [] L ⟨rfl, rfl, fun i hi => by simp at hi⟩ (fun l p hm => by simp at hm) (by simp; omega) (by simp) hz
    simp at this
    exact ⟨this.1, by omega, by omega⟩
theorem packF_fail (t : List (List ByteArray × Nat)) (b ps : List Int) (r : List (List ByteArray)) (h : ¬ (packF t b ps r).2.2 = 0) : (packF t b ps r).1 = [] ∧ (packF t b ps r).2.1 = [] := by
  induction r generalizing t b ps with
  | nil => exact absurd rfl h
  | cons l r ih =>
    by_cases hc : chk l = 0
    · rw [packF, if_pos hc] at h ⊢; exact ih _ _ _ h
    · rw [packF, if_neg hc]; exact ⟨rfl, rfl⟩
theorem packW_fail {L : List (List ByteArray)} (h : ¬ (packW L).2.2 = 0) : (packW L).1 = [] ∧ (packW L).2.1 = [] := by
  unfold packW at h ⊢
  split
  · exact ⟨rfl, rfl⟩
  · rename_i g
    rw [if_neg g] at h
    exact packF_fail _ _ _ _ h

theorem Packed.name {b ps : List Int} {L : List (List ByteArray)} (h : Packed b ps L) {i : Nat} (hi : i < L.length) :
    ∃ p e : Nat, ps.getD i 0 = p ∧ (ps ++ [(b.length : Int)]).getD (i + 1) 0 = e ∧ p < e ∧ e ≤ b.length ∧ e ≤ p + wire (L.getD i []) ∧ chk (L.getD i []) = 0 ∧ Enc b p p ((L.getD i []).map lowS) e ∧ wire ((L.getD i []).map lowS) ≤ 255 := by
  obtain ⟨p, e, g1, g2, g3, g4, g5⟩ := h.2.2 i hi
  have := g4.end_gt
  exact ⟨p, e, g1, g2, this.1, this.2, g5, g3, g4, by rw [wire_low]; exact (chk_zero g3).2⟩
/-- Name i is got. -/
theorem Packed.got {b ps : List Int} {L : List (List ByteArray)} (h : Packed b ps L) {i p e : Nat} (hi : i < L.length) (hp : ps.getD i 0 = p) (he : (ps ++ [(b.length : Int)]).getD (i + 1) 0 = e) : getV b (p : Int) = ((L.getD i []).map lowS, e, 0) := by
  obtain ⟨p', e', g1, g2, g3, g4, g5, g6, g7, g8⟩ := h.name hi
  obtain rfl : p' = p := by omega
  obtain rfl : e' = e := by omega
  rw [getV_in (by omega), getW_enc g7 0 [] (by simpa using g8)]
  simp
theorem Packed.all_from {b ps : List Int} {L : List (List ByteArray)} (h : Packed b ps L) (n : Nat) : ∀ i, i + n = L.length → ∀ k : Nat, (ps ++ [(b.length : Int)]).getD i 0 = k → allW b k ((L.take i).map (·.map lowS)) = (L.map (·.map lowS), 0) := by
  induction n with
  | zero =>
    intro i hi k hk
    obtain rfl : i = L.length := by omega
    have : (ps ++ [(b.length : Int)]).getD L.length 0 = b.length := by rw [← h.1]; exact getD_snoc_eq _ _ _
    rw [allW, if_neg (by omega), List.take_length]
  | succ n ih =>
    intro i hi k hk
    obtain ⟨p, e, g1, g2, g3, g4, g5, g6, g7, g8⟩ := h.name (show i < L.length by omega)
    rw [getD_snoc_lt _ _ _ _ (by rw [h.1]; omega)] at hk
    obtain rfl : p = k := by omega
    have hg := getW_enc g7 0 [] (by simpa using g8)
    rw [allW, if_pos (by omega), hg, if_pos rfl]
    simp only [if_pos, List.nil_append]
    rw [if_pos g3]
    have := ih (i + 1) (by omega) e g2
    have et : L.take (i + 1) = L.take i ++ [L.getD i []] := by
      have hlt : i < L.length := by omega
      have e : L.getD i [] = L[i] := by simp [List.getD, hlt]
      rw [e, List.take_succ_eq_append_getElem hlt]
    rw [et, List.map_append] at this
    exact this
theorem Packed.all {b ps : List Int} {L : List (List ByteArray)} (h : Packed b ps L) : allW b 0 [] = (L.map (·.map lowS), 0) := by
  have := h.all_from L.length 0 (by omega) 0 (by
    have := h.2.1
    cases ps with
    | nil => simpa [List.getD] using this
    | cons p r => simpa [List.getD] using this)
  simpa using this
/-- Of bytes cut short. -/
theorem Packed.whole {b ps : List Int} {L : List (List ByteArray)} (h : Packed b ps L) {i p e k : Nat} (hi : i < L.length) (hp : ps.getD i 0 = p) (he : (ps ++ [(b.length : Int)]).getD (i + 1) 0 = e) (hk : k ≤ b.length) (hek : e ≤ k) : getV (b.take k) (p : Int) = ((L.getD i []).map lowS, e, 0) := by
  obtain ⟨p', e', g1, g2, g3, g4, g5, g6, g7, g8⟩ := h.name hi
  obtain rfl : p' = p := by omega
  obtain rfl : e' = e := by omega
  rw [getV_in (by rw [List.length_take]; omega), getW_enc (g7.take k hek (Nat.le_refl _)) 0 [] (by simpa using g8)]
  simp
theorem Packed.cut {b ps : List Int} {L : List (List ByteArray)} (h : Packed b ps L) {i p e k : Nat} (hi : i < L.length) (hp : ps.getD i 0 = p) (he : (ps ++ [(b.length : Int)]).getD (i + 1) 0 = e) (hk : k ≤ b.length) (hpk : p < k) (hke : k < e) : getV (b.take k) (p : Int) = ([], 0, 3) := by
  obtain ⟨p', e', g1, g2, g3, g4, g5, g6, g7, g8⟩ := h.name hi
  obtain rfl : p' = p := by omega
  obtain rfl : e' = e := by omega
  rw [getV_in (by rw [List.length_take]; omega), getW_cut g7 0 k [] (by simpa using g8) (by omega) hke]
theorem getV_behind {b : List Int} {p k : Nat} (hk : k ≤ b.length) (h : k ≤ p) : getV (b.take k) (p : Int) = ([], 0, 2) := by
  rw [getV, if_pos (by rw [List.length_take]; omega)]
end Go.Proofs.Ytjhmjimfehanbaa.Wire
