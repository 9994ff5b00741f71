/- append of a row of bytes, whatever it is, onto a row that the call owns. -/
import Derived.Test.YtjikikiconhlaaaKit8
import Derived.Laws.AppendOwnNone
import Derived.Maps.AppendAt
namespace Go.Proofs.Ytjikikiconhlaaa
open Go.RowKit

theorem run_append_none {P : Program} {w : World} (base : Nat) (t ty e : TypeId) (i : TypeInfo) (size : Nat) (ht : P.underlying t = some (.slice e)) (hi : P.info? e = some i)
    (v : Value) (n c : Nat) (xs : List Value) (hown : w.ownsRow base e size v n xs) :
    (Builtin.append_ #[t, t] ty #[v, .slice none 0 c]).run P w = .ok v w := by
  rcases hown.2 with ⟨rfl, rfl⟩ | ⟨g, cap, cur, rfl, _, _, hnc, _⟩
  · simp [Builtin.append_, run_underlying ht, sizeOf, typeInfo, hi, Builtin.lenOf, Builtin.firstCells]
  · simp [Builtin.append_, run_underlying ht, sizeOf, typeInfo, hi, Builtin.lenOf, Builtin.firstCells, hnc, storeCells]
theorem vals_app (l m : List Int) : vals (l ++ m) = vals l ++ vals m := by simp [vals]
theorem vals_one (l : List Int) : ∀ u ∈ vals l, u.oneCell' = true := by
  intro u hu
  simp only [vals, List.mem_map] at hu
  obtain ⟨x, -, rfl⟩ := hu
  rfl
theorem ne_low {w : World} {base : Nat} {e : TypeId} {size : Nat} {v : Value} {n : Nat} {xs : List Value} (h : w.ownsRow base e size v n xs) {b : Nat} (hb : b < base) : some b ≠ v.ownBlock := by
  rcases h.2 with ⟨rfl, _⟩ | ⟨g, cap, cur, rfl, hbg, _⟩
  · simp [Value.ownBlock]
  · simp only [Value.ownBlock, ne_eq, Option.some.injEq]; omega
theorem wpList_append_row {P : Program} (w : World) {ops : Array Oper} {rest : List Oper} {o : Oper} {a : Act} {Q : Exit → Act → World → Prop} (hgd : o.guard = none) (s x : Operand) (t : TypeId)
    (ho : o.op = .call { callee := .builtin .append, args := #[s, x], argTypes := #[t, t] })
    (base : Nat) (e : TypeId) (i : TypeInfo) (z : Value) (ht : P.underlying t = some (.slice e)) (hi : P.info? e = some i) (hz : i.zero = some z)
    (hsize : i.size = 1) (hby : i.bytes = 1) (hzs : z.cells.size = 1)
    (v : Value) (n : Nat) (l : List Int) (hs : a.eval s = v) (hown : w.ownsRow base e 1 v n (vals l))
    (u : Value) (X : List Int) (hx : a.eval x = u) (hrx : Row .u8 w u X) (h63 : n + X.length ≤ 140737488355328) (hbase : base ≤ w.heap.size)
    (h : ∀ v' w', w'.ownsRow base e 1 v' (n + X.length) (vals (l ++ X)) → w.grownBy w' v.ownBlock → (v'.ownBlock = v.ownBlock ∨ v'.ownBlock = some w.heap.size) → wpList P ops Q rest (a.put o.dst v') w') :
    wpList P ops Q (o :: rest) a w := by
  obtain ⟨ad, cap, rfl, q2, q3, q4, q5⟩ := hrx
  cases ad with
  | none =>
    have hX : X = [] := Decidable.byContradiction fun hne => by
      obtain ⟨b, off, e, -⟩ := q5 hne
      cases e
    subst hX
    refine wpList_plain hgd fun K hK => ?_
    have hrun := run_append_none (P := P) (w := w) base t o.type e i 1 ht hi v n cap (vals l) hown
    unfold Oper.wp
    simp [execOp, ho, resolve, invoke, builtin, hs, hx, hrun, Result.andThen]
    exact hK _ _ (h v w (by simpa using hown) ⟨rfl, rfl, rfl, Nat.le_refl _, fun _ _ _ => rfl⟩ (.inl rfl))
  | some ad =>
    refine wpList_append_own_at w hgd s x t ho base e i z 1 1 ht hi hz hsize hby hzs (by omega) v n (vals l) hs hown ad X.length cap (vals X) hx (by rw [vals_length, Nat.mul_one]) ?_ (vals_one _) (maxLen_of (by omega)) (by omega) hbase ?_
    · intro j u hj
      obtain ⟨hj2, -⟩ := List.getElem?_eq_some_iff.1 hj
      rw [vals_length] at hj2
      obtain ⟨b, off, e2, hlt, hc⟩ := q5 (by rintro rfl; simp at hj2)
      injection e2 with e2
      subst e2
      rw [vals_get _ _ hj2] at hj
      rw [Addr_add, ← hj]
      exact hc j hj2
    · intro v' w' h1 h2 _ h3
      exact h v' w' (by rw [vals_app]; exact h1) h2 h3
/-- The same, at a step of a region that draws its order. -/
theorem step_append_row {P : Program} (w : World) {ops : Array Oper} {o : Oper} {a : Act} {K : Act → World → Prop} {Q : Exit → Act → World → Prop} {E : Prop} (hgd : o.guard = none) (s x : Operand) (t : TypeId)
    (ho : o.op = .call { callee := .builtin .append, args := #[s, x], argTypes := #[t, t] })
    (base : Nat) (e : TypeId) (i : TypeInfo) (z : Value) (ht : P.underlying t = some (.slice e)) (hi : P.info? e = some i) (hz : i.zero = some z)
    (hsize : i.size = 1) (hby : i.bytes = 1) (hzs : z.cells.size = 1)
    (v : Value) (n : Nat) (l : List Int) (hs : a.eval s = v) (hown : w.ownsRow base e 1 v n (vals l))
    (u : Value) (X : List Int) (hx : a.eval x = u) (hrx : Row .u8 w u X) (h63 : n + X.length ≤ 140737488355328) (hbase : base ≤ w.heap.size)
    (h : ∀ v' w', w'.ownsRow base e 1 v' (n + X.length) (vals (l ++ X)) → w.grownBy w' v.ownBlock → (v'.ownBlock = v.ownBlock ∨ v'.ownBlock = some w.heap.size) → (v ≠ .slice none 0 0 → v' ≠ .slice none 0 0) → K (a.put o.dst v') w') :
    if Region.wanted o (yielded ops a.tmps) = true then Oper.wp P o a w K Q else E := by
  have hw : Region.wanted o (yielded ops a.tmps) = true := by simp [Region.wanted, hgd]
  rw [if_pos hw]
  obtain ⟨ad, cap, rfl, q2, q3, q4, q5⟩ := hrx
  cases ad with
  | none =>
    have hX : X = [] := Decidable.byContradiction fun hne => by
      obtain ⟨b, off, e, -⟩ := q5 hne
      cases e
    subst hX
    have hrun := run_append_none (P := P) (w := w) base t o.type e i 1 ht hi v n cap (vals l) hown
    unfold Oper.wp
    simp [execOp, ho, resolve, invoke, builtin, hs, hx, hrun, Result.andThen]
    exact h v w (by simpa using hown) ⟨rfl, rfl, rfl, Nat.le_refl _, fun _ _ _ => rfl⟩ (.inl rfl) (fun h => h)
  | some ad =>
    obtain ⟨v', w', hr, h2, h3, h4, h5⟩ := run_append_own_at (P := P) w base t o.type e i z 1 1 ht hi hz hsize hby hzs (by omega) v n (vals l) hown ad X.length cap (vals X) (by rw [vals_length, Nat.mul_one]) (fun j u hj => by
      obtain ⟨hj2, -⟩ := List.getElem?_eq_some_iff.1 hj
      rw [vals_length] at hj2
      obtain ⟨b, off, e2, hlt, hc⟩ := q5 (by rintro rfl; simp at hj2)
      injection e2 with e2
      subst e2
      rw [vals_get _ _ hj2] at hj
      rw [Addr_add, ← hj]
      exact hc j hj2) (vals_one _) (maxLen_of (by omega)) (by omega) hbase
    unfold Oper.wp execOp
    simp only [ho, resolve, invoke, builtin, Sem.run_bind, Sem.run_pure, Result.andThen_ok, List.map_toArray, List.map_cons, List.map_nil, hs, hx, hr]
    exact h v' w' (by rw [vals_app]; exact h2) h3 h5 (fun hne e => hne (h4.1 e).1)
/-- A slice that was just built of nothing. -/
theorem own_empty (w : World) (e : TypeId) : (w.alloc (.cells #[] e)).ownsRow w.heap.size e 1 (.slice (some ⟨w.heap.size, 0, none⟩) 0 0) 0 (vals []) := ⟨rfl, .inr ⟨w.heap.size, 0, #[], rfl, Nat.le_refl _, heap_alloc_new _ _, by omega, by unfold maxLen; omega, rfl, rfl⟩⟩
end Go.Proofs.Ytjikikiconhlaaa
