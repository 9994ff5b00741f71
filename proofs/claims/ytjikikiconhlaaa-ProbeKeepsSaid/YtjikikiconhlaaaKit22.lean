/- Appending a row of ints onto one that a call owns, outside a region that draws; a struct of two cells that is written. -/
import Derived.Test.YtjikikiconhlaaaKit19
namespace Go.Proofs.Ytjikikiconhlaaa
open Go.RowKit
set_option linter.unusedVariables false

theorem wpList_append_ints {P : Program} (w : World) {ops : Array Oper} {rest : List Oper} {o : Oper} {a : Act} {Q : Exit → Act → World → Prop} (hgd : o.guard = none) (s x : Operand) (t : TypeId)
    (ho : o.op = .call { callee := .builtin .append, args := #[s, x], argTypes := #[t, t] })
    (base : Nat) (e : TypeId) (i : TypeInfo) (z : Value) (ht : P.underlying t = some (.slice e)) (hi : P.info? e = some i) (hz : i.zero = some z)
    (hsize : i.size = 1) (hby : i.bytes = 8) (hzs : z.cells.size = 1)
    (v : Value) (n : Nat) (l : List Int) (hs : a.eval s = v) (hown : w.ownsRow base e 1 v n (vals64 l))
    (u : Value) (X : List Int) (hx : a.eval x = u) (hrx : Row .i64 w u X) (h63 : n + X.length ≤ 1000000) (hbase : base ≤ w.heap.size)
    (h : ∀ v' w', w'.ownsRow base e 1 v' (n + X.length) (vals64 (l ++ X)) → w.grownBy w' v.ownBlock → (v'.ownBlock = v.ownBlock ∨ v'.ownBlock = some w.heap.size) → wpList P ops Q rest (a.put o.dst v') w') :
    wpList P ops Q (o :: rest) a w := by
  obtain ⟨ad, cap, rfl, q2, q3, q4, q5⟩ := hrx
  cases ad with
  | none =>
    have hX : X = [] := Decidable.byContradiction fun hne => by
      obtain ⟨b, off, e, -⟩ := q5 hne
      cases e
    subst hX
    refine wpList_plain hgd fun K hK => ?_
    have hrun := run_append_none (P := P) (w := w) base t o.type e i 1 ht hi v n cap (vals64 l) hown
    unfold Oper.wp
    simp [execOp, ho, resolve, invoke, builtin, hs, hx, hrun, Result.andThen]
    exact hK _ _ (h v w (by simpa using hown) ⟨rfl, rfl, rfl, Nat.le_refl _, fun _ _ _ => rfl⟩ (.inl rfl))
  | some ad =>
    refine wpList_append_own_at w hgd s x t ho base e i z 1 8 ht hi hz hsize hby hzs (by omega) v n (vals64 l) hs hown ad X.length cap (vals64 X) hx (by rw [vals64_length, Nat.mul_one]) ?_ (vals64_one _) (maxLen_of (by omega)) (by omega) hbase ?_
    · intro j u hj
      obtain ⟨hj2, -⟩ := List.getElem?_eq_some_iff.1 hj
      rw [vals64_length] at hj2
      obtain ⟨b, off, e2, hlt, hc⟩ := q5 (by rintro rfl; simp at hj2)
      injection e2 with e2
      subst e2
      rw [vals64_get _ _ hj2] at hj
      rw [Addr_add, ← hj]
      exact hc j hj2
    · intro v' w' h1 h2 _ h3
      exact h v' w' (by rw [vals64_app]; exact h1) h2 h3
theorem two_set0 {W : World} {g : Nat} {u x : Value} {T : TypeId} (h : W.heap[g]? = some (.cells #[u, x] T (0, 0))) (v : Value) : (W.setCell ⟨g, 0, none⟩ v).heap[g]? = some (.cells #[v, x] T (0, 0)) := by
  obtain ⟨hlt, hk⟩ := Array.getElem?_eq_some_iff.1 h
  show (W.heap.modify g _)[g]? = _
  rw [Array.getElem?_eq_getElem (by rw [Array.size_modify]; exact hlt), Array.getElem_modify_self, hk]
  rfl
theorem two_set1 {W : World} {g : Nat} {u x : Value} {T : TypeId} (h : W.heap[g]? = some (.cells #[u, x] T (0, 0))) (v : Value) : (W.setCell ⟨g, 1, none⟩ v).heap[g]? = some (.cells #[u, v] T (0, 0)) := by
  obtain ⟨hlt, hk⟩ := Array.getElem?_eq_some_iff.1 h
  show (W.heap.modify g _)[g]? = _
  rw [Array.getElem?_eq_getElem (by rw [Array.size_modify]; exact hlt), Array.getElem_modify_self, hk]
  rfl
end Go.Proofs.Ytjikikiconhlaaa
