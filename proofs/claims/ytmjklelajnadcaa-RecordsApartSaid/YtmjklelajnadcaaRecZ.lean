/- records' functions do what the walks of the statements ask. -/
import Derived.Test.YtmjklelajnadcaaRecV
namespace Go.Proofs.Ytmjklelajnadcaa.Rec
open Go.RowKit
set_option linter.unusedVariables false

theorem few6_bd {L : List (List Int)} (h : few6 L = true) : L.length ≤ 60 ∧ dat L ≤ 3000 := few6_out h
theorem qrow_bytes {w : World} {v : Value} {L : List (List Int)} (h : QRow w v L) : ∀ i j, 0 ≤ (L.getD i []).getD j 0 ∧ (L.getD i []).getD j 0 < 256 := by
  obtain ⟨a, cap, U, h1, h2, h3, h4, h5⟩ := h
  intro i j
  by_cases hi : i < L.length
  · exact (h4 i hi).bytes j
  · simp [List.getD, List.getElem?_eq_none (show L.length ≤ i by omega)]
/-- Bytes that are packed, in words of rows that may be written. -/
theorem POwn.wrow {w : World} {L : List (List Int)} {e : Ending} {w' : World} (h : POwn w L e w') (hL : ∀ i j, 0 ≤ (L.getD i []).getD j 0 ∧ (L.getD i []).getD j 0 < 256) (hd : dat L ≤ 3000) :
    ∃ u, e = .returned (.tuple #[u, .int .i64 (szE L)]) ∧ Below w.heap.size w w' ∧ WRow w.heap.size w' u (pckB L) := by
  obtain ⟨u, he, hb, h⟩ := h
  refine ⟨u, he, hb, ?_⟩
  rcases h with ⟨h0, g, hg, rfl, hh⟩ | ⟨h0, rfl⟩
  · obtain ⟨n1, n2, n3⟩ := szE_zero h0
    have hp : pckB L = packL L := by rw [pckB, if_pos h0]
    have hl := packL_length L
    rw [hp, ← hl]
    refine ⟨?_, ?_⟩
    · have hbb := packL_bytes L hL (by omega) (by omega)
      refine ⟨_, _, rfl, Nat.le_refl _, by omega, fun i _ => wf_bytes hbb i, fun _ => ⟨g, 0, rfl, (Array.getElem?_eq_some_iff.1 hh).1, fun i hi => ?_⟩⟩
      rw [Nat.zero_add, cell_block hh, List.getElem?_toArray, vals_get _ _ hi]
    · intro b off n cap e hne
      injection e with e _ _
      injection e with e
      injection e with e1 e2 _
      subst e1 e2
      exact ⟨hg, fun i hi => by simp [World.frozen?, hh]⟩
  · rw [pckB, if_neg h0]
    exact ⟨Row.nil _ _, fun b off n cap e hne => absurd rfl hne⟩

theorem does : Does where
  size := fun v L w hr h => by
    refine (size_any v L w hr (by have := few6_out h; omega)).mono ?_
    rintro e w' ⟨rfl, rfl⟩
    exact ⟨rfl, Below.refl _ _⟩
  pack := fun v L w hr h => by
    refine (pack_own v L w hr (by have := few6_out h; omega)).mono ?_
    intro e w' hp
    obtain ⟨u, he, hb, hw⟩ := hp.wrow (qrow_bytes hr) (few6_out h).2
    refine ⟨u, he, hb, hw.1, fun hne k hk => ?_⟩
    obtain ⟨a, cap, rfl, -, -, -, h5⟩ := hw.1
    obtain ⟨b, off, rfl, -, -⟩ := h5 hne
    have := (hw.2 b off _ _ rfl hne).1
    simp only [Value.ownBlock, Option.some.injEq] at hk
    omega
  unpack := fun v l w hr hl => unpack_any v l w hr (by omega)
  same := fun v1 v2 a b w h1 h2 => by
    refine (same_any v1 v2 a b w h1 h2).mono ?_
    rintro e w' ⟨rfl, rfl⟩
    exact ⟨rfl, Below.refl _ _⟩
  clone := fun v L w hr h => clone_any v L w hr (by have := few6_out h; omega) (by have := few6_out h; omega)
end Go.Proofs.Ytmjklelajnadcaa.Rec
