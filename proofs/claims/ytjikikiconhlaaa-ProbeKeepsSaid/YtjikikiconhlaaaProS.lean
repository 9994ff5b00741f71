/- A map of IDs to true: which IDs are in it. -/
import Derived.Test.YtjikikiconhlaaaProA
import Derived.Maps.OwnSet
namespace Go.Proofs.Ytjikikiconhlaaa.Pro
open Go.RowKit
set_option linter.unusedVariables false

theorem keyU : Maps.Keyed Try.prog 23 := Maps.int_keyed (q := .u32) (by kernel_rfl)
theorem undU : Try.prog.underlying 23 = some (.int .u32) := by kernel_rfl
theorem undBool : Try.prog.underlying 4 = some .bool := by kernel_rfl
theorem undMap : Try.prog.underlying 68 = some (.map 23 4) := by kernel_rfl
theorem zeroBool (w : World) : (zeroValue 4).run Try.prog w = .ok (.bool false) w := by
  go_simp
def wu (x : Int) : Prop := (Lit.int .u32 x).wf = true
theorem key_of {x : Int} (h : wu x) : keyOf Try.prog 23 (.int .u32 x) = some (.int .u32 x) := Maps.keyOf_int_mk undU h
/-- The block's map has just these numbers, each with true. -/
structure SetU (w : World) (b : Nat) (L : List Int) : Prop where
  nd : L.Nodup
  bd : ∀ x ∈ L, wu x
  ex : ∃ (n : Nat) (D : DataW Unit), n ≤ 100000 + L.length ∧ w.ownsMap Try.prog 23 (plainElem Try.prog 4) b n D ∧ Maps.size D = L.length ∧
    ∀ x : Int, wu x → Maps.has D (.int .u32 x) = decide (x ∈ L) ∧ D.atKey (.int .u32 x) (.lit (.bool false)) = .lit (.bool (decide (x ∈ L)))
theorem SetU.lt {w : World} {b : Nat} {L : List Int} (h : SetU w b L) : b < w.heap.size := by
  obtain ⟨n, D, h1, h2, -⟩ := h.ex
  exact h2.lt
theorem SetU.grown {w w' : World} {b : Nat} {L : List Int} {r : Option Nat} (h : SetU w b L) (hg : w.grownBy w' r) (hne : some b ≠ r) : SetU w' b L := by
  obtain ⟨n, D, h1, h2, h3⟩ := h.ex
  exact ⟨h.nd, h.bd, n, D, h1, h2.kept hg hne, h3⟩
theorem SetU.below {w w' : World} {b : Nat} {L : List Int} (h : SetU w b L) (hb : Below w.heap.size w w') : SetU w' b L :=
  h.grown (r := none) ⟨hb.os, hb.tape, hb.output, hb.size, fun k hk _ => hb.block k hk⟩ (by simp)
theorem SetU.made (w : World) : SetU (w.alloc (.map #[] 0)) w.heap.size [] :=
  ⟨List.nodup_nil, fun x hx => (by cases hx), 0, _, by omega, World.ownsMap_made w _ _ _, rfl, fun x _ => ⟨rfl, rfl⟩⟩
theorem SetU.look {w : World} {b : Nat} {L : List Int} (h : SetU w b L) {x : Int} (hx : wu x) : (Instr.lookup 68 (.map (some b)) (.int .u32 x) false).run Try.prog w = .ok (.bool (decide (x ∈ L))) w := by
  obtain ⟨n, D, h1, h2, h3, h4⟩ := h.ex
  obtain ⟨v, ps, hr, hv⟩ := h2.lookup keyU undMap (zeroBool w) (plainElem_bool undBool false) (key_of hx)
  rw [(h4 x hx).2] at hv
  rw [hr]
  have : v = .bool (decide (x ∈ L)) := by
    unfold plainElem at hv
    rw [undBool] at hv
    cases v <;> simp at hv
    simp [hv]
  rw [this]
theorem SetU.put {w : World} {b : Nat} {L : List Int} (h : SetU w b L) {x : Int} (hx : wu x) (hn : x ∉ L) (hl : L.length ≤ 10000) : ∃ w', (Instr.mapUpdate 68 (.map (some b)) (.int .u32 x) (.bool true)).run Try.prog w = .ok () w' ∧ SetU w' b (L ++ [x]) ∧ w.grownBy w' (some b) := by
  obtain ⟨n, D, h1, h2, h3, h4⟩ := h.ex
  obtain ⟨w', hr, h5, h6⟩ := h2.update keyU undMap (by unfold maxLen; omega) (key_of hx) (plainElem_bool undBool true)
  have ht := h2.tidy keyU
  have hk : WideAt.IsKeyLit (.int .u32 x) := trivial
  refine ⟨w', hr, ⟨?_, ?_, n + 1, _, by rw [List.length_append, List.length_singleton]; omega, h5, ?_, fun y hy => ?_⟩, h6⟩
  · rw [List.nodup_append]
    exact ⟨h.nd, by simp, fun a ha c hc => by simp at hc; rintro rfl; exact hn (hc ▸ ha)⟩
  · intro y hy
    rcases List.mem_append.1 hy with q | q
    · exact h.bd y q
    · simp at q; rw [q]; exact hx
  · rw [Maps.size_put ht, (h4 x hx).1]
    simp [hn, h3]
  · by_cases e : y = x
    · subst e
      rw [Maps.has_put_same ht.isMap hk, Maps.atKey_put_same ht.isMap hk]
      simp
    · have hne : Lit.int .u32 y ≠ Lit.int .u32 x := by intro q; injection q with _ q; exact e q
      rw [Maps.has_put_other hne, Maps.atKey_put_other hne, (h4 y hy).1, (h4 y hy).2]
      simp [e]
end Go.Proofs.Ytjikikiconhlaaa.Pro
