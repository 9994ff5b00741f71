/- RecordsApart: rows that are written, one byte after another. -/
import Derived.Test.YtbjdlfeipidlbaaRecL
import Derived.Deep.RegionHeld3
import Derived.BigRegion
namespace Go.Proofs.Ytbjdlfeipidlbaa.Rec
open Go.RowKit
set_option linter.unusedVariables false

/-- A header at hb, ho of n rows U i, each of which may be written: its bytes lie at block B or behind, ahead of block C. -/
def WSh (B C n hb ho : Nat) (U : Nat → Value) (w : World) : Prop :=
  ∀ i, i < n → w.cell? ⟨hb, ho + i, none⟩ = some (U i) ∧ ∃ a len cap, U i = .slice a len cap ∧ len ≤ cap ∧ cap ≤ 9223372036854775807 ∧
    (0 < len → ∃ b off, a = some ⟨b, off, none⟩ ∧ B ≤ b ∧ b < C ∧ ∀ j, j < len → (∃ x : Int, w.cell? ⟨b, off + j, none⟩ = some (.int .u8 x) ∧ 0 ≤ x ∧ x < 256) ∧ w.frozen? ⟨b, off + j, none⟩ = false)
theorem WSh.ofRow {B : Nat} {w : World} {v : Value} {L : List (List Int)} (h : WLRow B w v L) : ∃ a cap hb ho U, v = .slice a L.length cap ∧ L.length ≤ cap ∧ cap ≤ 9223372036854775807 ∧ (0 < L.length → a = some ⟨hb, ho, none⟩ ∧ hb < w.heap.size) ∧ WSh B w.heap.size L.length hb ho U w := by
  obtain ⟨a, cap, U, h1, h2, h3, h4, h5⟩ := h
  by_cases hpos : 0 < L.length
  · obtain ⟨hb, ho, rfl, hlt, hc⟩ := h5 (by rintro rfl; simp at hpos)
    refine ⟨_, cap, hb, ho, U, h1, h2, h3, fun _ => ⟨rfl, hlt⟩, fun i hi => ⟨hc i hi, ?_⟩⟩
    obtain ⟨⟨ad, c, e, g2, g3, g4, g5⟩, hw⟩ := h4 i hi
    refine ⟨ad, _, c, e, g2, g3, fun hp => ?_⟩
    have hne : L.getD i [] ≠ [] := by intro e0; rw [e0] at hp; simp at hp
    obtain ⟨b, off, rfl, hb2, hcc⟩ := g5 hne
    obtain ⟨k1, k2⟩ := hw b off _ _ e hne
    refine ⟨b, off, rfl, k1, hb2, fun j hj => ⟨⟨_, hcc j hj, ?_⟩, k2 j hj⟩⟩
    have := bounds_u8 (g4 j hj)
    omega
  · exact ⟨a, cap, 0, 0, U, h1, h2, h3, fun h => absurd h hpos, fun i hi => by omega⟩
theorem WSh.set {B C n hb ho : Nat} {U : Nat → Value} {w : World} {p : Addr} {x y : Int} (h : WSh B C n hb ho U w) (hp : w.cell? p = some (.int .u8 y)) (hx : 0 ≤ x ∧ x < 256) : WSh B C n hb ho U (w.setCell p (.int .u8 x)) := by
  intro i hi
  obtain ⟨h1, a, len, cap, e, h2, h3, h4⟩ := h i hi
  refine ⟨?_, a, len, cap, e, h2, h3, fun hl => ?_⟩
  · by_cases hq : p = ⟨hb, ho + i, none⟩
    · rw [hq, h1, e] at hp; cases hp
    · rw [World.cell?_setCell_other _ _ _ _ hq]; exact h1
  · obtain ⟨b, off, ha, hB, hlt, hc⟩ := h4 hl
    refine ⟨b, off, ha, hB, hlt, fun j hj => ⟨?_, by rw [World.frozen?_setCell]; exact (hc j hj).2⟩⟩
    by_cases hq : p = ⟨b, off + j, none⟩
    · subst hq
      exact ⟨x, World.cell?_setCell_same _ _ _ hp, hx⟩
    · rw [World.cell?_setCell_other _ _ _ _ hq]; exact (hc j hj).1
theorem WSh.drew {B C n hb ho : Nat} {U : Nat → Value} {w : World} (h : WSh B C n hb ho U w) (m : Nat) : WSh B C n hb ho U (w.drewN m) := h
theorem WSh.mono {B C D n hb ho : Nat} {U : Nat → Value} {w w' : World} (h : WSh B C n hb ho U w) (hC : C ≤ w.heap.size) (hh : 0 < n → hb < w.heap.size) (hbel : Below D w w') (hD : w.heap.size ≤ D) : WSh B C n hb ho U w' := by
  intro i hi
  obtain ⟨h1, a, len, cap, e, h2, h3, h4⟩ := h i hi
  refine ⟨(hbel.cell (p := ⟨hb, ho + i, none⟩) (show hb < D by have := hh (by omega); omega)).trans h1, a, len, cap, e, h2, h3, fun hl => ?_⟩
  obtain ⟨b, off, ha, hB, hlt, hc⟩ := h4 hl
  have hblk := hbel.block b (by omega)
  refine ⟨b, off, ha, hB, hlt, fun j hj => ⟨?_, ?_⟩⟩
  · rw [World.cell?_of_block (w := w) hblk]; exact (hc j hj).1
  · rw [World.frozen?_of_block (w := w) hblk]; exact (hc j hj).2
theorem Row.set_far {w : World} {v : Value} {l : List Int} {p : Addr} {u : Value} (h : Row .u8 w v l) (hf : l ≠ [] → v.ownBlock ≠ some p.block) : Row .u8 (w.setCell p u) v l := by
  obtain ⟨a, cap, rfl, h2, h3, h4, h5⟩ := h
  refine ⟨a, cap, rfl, h2, h3, h4, fun hne => ?_⟩
  obtain ⟨b, off, rfl, hlt, hc⟩ := h5 hne
  have hb : b ≠ p.block := fun e => hf hne (by simp [Value.ownBlock, e])
  refine ⟨b, off, rfl, by simpa using hlt, fun i hi => ?_⟩
  rw [World.cell?_setCell_far _ _ _ _ (Ne.symm hb)]
  exact hc i hi
theorem pck_short (L : List (List Int)) : (pckB L).length ≤ 3000 := by
  unfold pckB
  split
  · rename_i h
    rw [packL_length]
    have := (few6_sz h).2
    omega
  · simp
theorem unp_pck (L : List (List Int)) : (szE L = 0 ∧ unpV (pckB L) = (L, 0)) ∨ ((szE L == 0) = false ∧ unpV (pckB L) = ([], 3)) := by
  by_cases h : szE L = 0
  · exact .inl ⟨h, by rw [pckB, if_pos h]; exact unp_pack L h⟩
  · refine .inr ⟨by simpa using h, ?_⟩
    rw [pckB, if_neg h, unpV, if_pos (by decide)]
/-- A byte of a row that may be written, where it lies. -/
theorem WSh.at_ {B C n hb ho : Nat} {U : Nat → Value} {w : World} (h : WSh B C n hb ho U w) {i : Nat} (hi : i < n) : w.cell? ⟨hb, ho + i, none⟩ = some (U i) := (h i hi).1

end Go.Proofs.Ytbjdlfeipidlbaa.Rec
