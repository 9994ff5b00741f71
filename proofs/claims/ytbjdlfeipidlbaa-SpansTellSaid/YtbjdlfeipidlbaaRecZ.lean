/- records' functions do what the walks of the statements ask. -/
import Derived.Test.YtbjdlfeipidlbaaRecV
namespace Go.Proofs.Ytbjdlfeipidlbaa.Rec
open Go.RowKit
set_option linter.unusedVariables false

theorem few6_bd {L : List (List Int)} (h : few6 L = true) : L.length ≤ 60 ∧ dat L ≤ 3000 := few6_out h
theorem qrow_bytes {w : World} {v : Value} {L : List (List Int)} (h : QRow w v L) : ∀ i j, 0 ≤ (L.getD i []).getD j 0 ∧ (L.getD i []).getD j 0 < 256 := by
  obtain ⟨a, cap, U, h1, h2, h3, h4, h5⟩ := h
  intro i j
  by_cases hi : i < L.length
  · exact (h4 i hi).bytes j
  · simp [List.getD, List.getElem?_eq_none (show L.length ≤ i by omega)]
/-- Bytes that are packed, in words of rows that may be written. -/
theorem POwn.wrow {w : World} {L : List (List Int)} {e : Ending} {w' : World} (h : POwn w L e w') (hL : ∀ i j, 0 ≤ (L.getD i []).getD j 0 ∧ (L.getD i []).getD j 0 < 256) (hd : dat L ≤ 3000) :
    ∃ u, e = .returned (.tuple #[u, .int .i64 (szE L)]) ∧ Below w.heap.size w w' ∧ WRow w.heap.size w' u (pckB L) := by
  obtain ⟨u, he, hb, h⟩ := h
  refine ⟨u, he, hb, ?_⟩
  rcases h with ⟨h0, g, hg, rfl, hh⟩ | ⟨h0, rfl⟩
  · obtain ⟨n1, n2, n3⟩ := szE_zero h0
    have hp : pckB L = packL L := by rw [pckB, if_pos h0]
    have hl := packL_length L
    rw [hp, ← hl]
    refine ⟨?_, ?_⟩
    · have hbb := packL_bytes L hL (by omega) (by omega)
      refine ⟨_, _, rfl, Nat.le_refl _, by omega, fun i _ => wf_bytes hbb i, fun _ => ⟨g, 0, rfl, (Array.getElem?_eq_some_iff.1 hh).1, fun i hi => ?_⟩⟩
      rw [Nat.zero_add, cell_block hh, List.getElem?_toArray, vals_get _ _ hi]
    · intro b off n cap e hne
      injection e with e _ _
      injection e with e
      injection e with e1 e2 _
      subst e1 e2
      exact ⟨hg, fun i hi => by simp [World.frozen?, hh]⟩
  · rw [pckB, if_neg h0]
    exact ⟨Row.nil _ _, fun b off n cap e hne => absurd rfl hne⟩

end Go.Proofs.Ytbjdlfeipidlbaa.Rec
