/- Contracts of num's Load and of the document's. -/
import Derived.Test.YtnpnigeghhcncaaNumB
import Derived.Test.YtnpnigeghhcncaaKit
import Derived.IntWalk
namespace Go.Proofs.Ytnpnigeghhcncaa.Num
open Go.RowKit
set_option linter.unusedVariables false

/-- The cells from a place on, as a copy reads them. -/
theorem src_cells {w W : World} {b off at_ : Nat} {l : List Int} (hcell : ∀ i, i < l.length → w.cell? ⟨b, off + i, none⟩ = some (.int .u8 (l.getD i 0)))
    (hW : ∀ o, W.cell? ⟨b, o, none⟩ = w.cell? ⟨b, o, none⟩) (cs : List Value) (hn : at_ + cs.length ≤ l.length) (hcs : ∀ j, j < cs.length → cs[j]? = some (.int .u8 (l.getD (at_ + j) 0))) :
    ∀ j v, cs[j]? = some v → W.cell? ((⟨b, off + at_, none⟩ : Addr).add j) = some v := by
  intro j v hv
  have hj : j < cs.length := by
    by_cases h : j < cs.length
    · exact h
    · rw [List.getElem?_eq_none (by omega)] at hv; cases hv
  rw [hcs j hj] at hv
  injection hv with hv
  subst hv
  have e : (⟨b, off + at_, none⟩ : Addr).add j = ⟨b, off + (at_ + j), none⟩ := by unfold Addr.add; split <;> simp_all <;> omega
  rw [e, hW, hcell _ (by omega)]

theorem take_drop_cons (l : List Int) (a n : Nat) (h : a < l.length) : (l.drop a).take (n + 1) = l.getD a 0 :: (l.drop (a + 1)).take n := by
  rw [List.drop_eq_getElem_cons h, List.take_succ_cons]
  simp [List.getD, h]

end Go.Proofs.Ytnpnigeghhcncaa.Num
