/- Package variables that a row lists: arrays of arrays of arrays of integers. -/
import Derived.Test.YtkknegnipodcnaaDoorKit13
namespace Go.Proofs.YtkknegnipodcnaaDoor
open Go.RowKit

theorem trod_array {H : Type} {enc : TypeId × Value → H} {P : Program} {w : World} {base : Nat} {sp : Nat → Bool} {held : Bool} {fuel : Nat} {t e : TypeId} {n : Nat} {cs : List Value} {ds : List (DataW H)} {p : List MemPlace}
    (ht : P.underlying t = some (.array n e)) (h : DataW.trod enc P w base sp held fuel t cs = some (.agg ds, p)) :
    cs.length = P.cellsOf t ∧ ∀ i d, ds[i]? = some d → ∃ f q, DataW.trod enc P w base sp held f e ((cs.drop (i * P.cellsOf e)).take (P.cellsOf e)) = some (d, q) := by
  cases fuel with
  | zero => simp [DataW.trod] at h
  | succ fuel =>
    simp only [DataW.trod, ht] at h
    split at h
    · rename_i hl
      obtain ⟨xs, hm, hx⟩ := Option.map_eq_some_iff.1 h
      have hxs : xs.map (·.1) = ds := by
        have := congrArg Prod.fst hx
        simpa using this
      refine ⟨hl, fun i d hd => ?_⟩
      subst hxs
      rw [List.getElem?_map, Option.map_eq_some_iff] at hd
      obtain ⟨x, hx1, rfl⟩ := hd
      have hxl : xs.length = n := by simpa using Lib.mapM_length hm
      have hi : i < n := by
        rcases Nat.lt_or_ge i xs.length with h1 | h1
        · omega
        · rw [List.getElem?_eq_none h1] at hx1
          cases hx1
      obtain ⟨b, hb, hf⟩ := Lib.mapM_at hm i i (by simp [hi])
      rw [hb] at hx1
      cases hx1
      exact ⟨fuel, _, hf⟩
    · cases h

/-- A variable that is rows of rows of pairs of integers: its cells. -/
theorem grid_of_laid {P : Program} {W : World} {l : List (String × DataW Unit)} {name : String} {k : IntKind} {G : Nat → Nat → List Int} {g : Nat} {t t1 t2 e : TypeId} {n m s : Nat}
    (hp : (l.all fun x => x.2.handleName?.isNone) = true) {D : DataW Unit} (hm : (name, D) ∈ l) (hD : D = .agg ((List.range n).map fun i => .agg ((List.range m).map fun j => Lib.tabData k (G i j))))
    (hg : P.globalNamed name = some g) (hty : (P.globals[g]?).map (·.type) = some t) (ht : P.underlying t = some (.array n t1)) (ht1 : P.underlying t1 = some (.array m t2)) (ht2 : P.underlying t2 = some (.array s e)) (he : P.underlying e = some (.int k))
    (hce : P.cellsOf e = 1) (hc2 : P.cellsOf t2 = s) (hc1 : P.cellsOf t1 = m * s) (h : laidMetH P l W) (i j a : Nat) (hi : i < n) (hj : j < m) (ha : a < s) (hG : (G i j).length = s) :
    W.cell? ⟨g, i * (m * s) + j * s + a, none⟩ = some (.int k ((G i j).getD a 0)) := by
  subst hD
  rw [MakeChecks.laidMetH_plain _ _ _ hp] at h
  obtain ⟨_, hv, _⟩ := h
  obtain ⟨g', t', cs, fuel, p, hg', ht', hvar, hd⟩ := laidVars_one hv _ _ hm
  obtain rfl := Option.some.inj (hg.symm.trans hg')
  obtain rfl := Option.some.inj (hty.symm.trans ht')
  obtain ⟨-, h1⟩ := trod_array ht hd
  obtain ⟨f1, q1, h2⟩ := h1 i (.agg ((List.range m).map fun j => Lib.tabData k (G i j))) (by simp [List.getElem?_map, List.getElem?_range hi])
  rw [hc1] at h2
  obtain ⟨-, h3⟩ := trod_array ht1 h2
  obtain ⟨f2, q2, h4⟩ := h3 j (Lib.tabData k (G i j)) (by simp [List.getElem?_map, List.getElem?_range hj])
  rw [hc2] at h4
  have h5 := Lib.cells_of_tab ht2 he hce hc2 h4
  have h6 : (((cs.toList.drop (i * (m * s))).take (m * s)).drop (j * s)).take s = (G i j).map fun z => Value.int k z := h5
  have hlt : j * s + a < m * s := by
    have : (j + 1) * s ≤ m * s := Nat.mul_le_mul_right _ hj
    rw [Nat.add_mul] at this
    omega
  have h7 := congrArg (·[a]?) h6
  simp only [List.getElem?_take, ha, if_true, List.getElem?_drop, hlt, List.getElem?_map] at h7
  have h8 : (G i j)[a]? = some ((G i j).getD a 0) := by
    rw [List.getD_eq_getElem?_getD]
    rw [List.getElem?_eq_getElem (by omega)]
    rfl
  rw [h8] at h7
  have h9 : cs[i * (m * s) + j * s + a]? = some (Value.int k ((G i j).getD a 0)) := by
    rw [Option.map_some] at h7
    rw [← Array.getElem?_toList, ← h7, Nat.add_assoc]
  exact (World.var?_cell hg hvar _).trans h9
end Go.Proofs.YtkknegnipodcnaaDoor
