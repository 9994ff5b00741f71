/- Acts that come in as arguments. -/
import Derived.Test.YtnpnigeghhcncaaArnL
namespace Go.Proofs.Ytnpnigeghhcncaa.Arn
open Go.RowKit Num
set_option linter.unusedVariables false

/-- A slice of bytes that comes in, as a field. -/
theorem open_bytes {H : Type} {enc : TypeId × Value → H} {P : Program} {w : World} {base : Nat} {spare : Nat → Bool} {held : Bool} {e s : TypeId} {fuel : Nat} {cs : List Value} {y : DataW H × List MemPlace}
    (he : P.underlying e = some (.slice s)) (hs : P.underlying s = some (.int .u8)) (hcs : P.cellsOf s = 1) (h : DataW.trod enc P w base spare held fuel e cs = some y) : ∃ v l, cs = [v] ∧ Row .u8 w v l := by
  rcases ChangeShapes.open_ints he hs hcs h with ⟨rfl, _⟩ | ⟨x, len2, cap2, zs, rfl, _, hl2, hm2, hz2, _, hcell2, hwf2⟩
  · exact ⟨.slice none 0 0, [], rfl, Row.nil _ _⟩
  · refine ⟨.slice (some x) len2 cap2, zs.take len2, rfl, ?_⟩
    have hln : len2 ≤ zs.length := by rw [hz2]; split <;> omega
    have hL : (zs.take len2).length = len2 := by rw [List.length_take]; omega
    have hget : ∀ i, i < len2 → (zs.take len2).getD i 0 = zs.getD i 0 := fun i hi => by simp [List.getD, hi]
    refine ⟨some x, cap2, by rw [hL], by rw [hL]; exact hl2, by unfold maxLen at hm2; omega, fun i hi => ?_, fun hne => ?_⟩
    · rw [hL] at hi
      rw [hget i hi]
      have hi' : i < zs.length := by omega
      have e : zs.getD i 0 = zs[i] := by simp [List.getD, hi']
      rw [e]
      exact hwf2 _ (List.getElem_mem hi')
    · have hpos : 0 < len2 := by
        have := List.length_pos_iff.2 hne
        omega
      obtain ⟨b, off, spot⟩ := x
      have hc := hcell2 0 (by omega)
      have hspot : spot = none := by simpa [Addr.add] using World.cell?_spot hc
      subst hspot
      refine ⟨b, off, rfl, by have := World.block_lt_of_cell? w _ hc; simpa [Addr.add] using this, fun i hi => ?_⟩
      rw [hL] at hi
      rw [hget i hi, ← hcell2 i (by omega), Addr_add]
theorem is64_wf {n : Int} (h : (Lit.int .i64 n).wf = true) : is64 n := by
  have := bounds_i64 h
  unfold is64
  omega

end Go.Proofs.Ytnpnigeghhcncaa.Arn
