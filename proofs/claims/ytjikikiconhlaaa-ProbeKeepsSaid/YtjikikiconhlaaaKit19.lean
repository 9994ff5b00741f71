/- Appending a row of ints onto one that a call owns. -/
import Derived.Test.YtjikikiconhlaaaKit9
namespace Go.Proofs.Ytjikikiconhlaaa
open Go.RowKit
set_option linter.unusedVariables false

def vals64 (l : List Int) : List Value := l.map (.int .i64)
theorem vals64_length (l : List Int) : (vals64 l).length = l.length := by simp [vals64]
theorem vals64_get (l : List Int) (j : Nat) (h : j < l.length) : (vals64 l)[j]? = some (.int .i64 (l.getD j 0)) := by
  unfold vals64 List.getD
  rw [List.getElem?_map, List.getElem?_eq_getElem h]
  rfl
theorem vals64_app (l m : List Int) : vals64 (l ++ m) = vals64 l ++ vals64 m := by simp [vals64]
theorem vals64_one (l : List Int) : ∀ u ∈ vals64 l, u.oneCell' = true := by
  intro u hu
  obtain ⟨x, -, rfl⟩ := List.mem_map.1 hu
  exact oneCell_int _ _
theorem row64_of_owns {w : World} {base : Nat} {t : TypeId} {v : Value} {n : Nat} {l : List Int} (h : w.ownsRow base t 1 v n (vals64 l)) (hn : l.length = n) (hb : ∀ i, i < l.length → (Lit.int .i64 (l.getD i 0)).wf = true) : Row .i64 w v l := by
  obtain ⟨h1, ⟨rfl, rfl⟩ | ⟨g, cap, cur, rfl, hg, hh, hc1, hc2, hc3, hc4⟩⟩ := h
  · obtain rfl := List.length_eq_zero_iff.1 hn
    exact Row.nil _ _
  · refine ⟨_, cap, by rw [hn], by omega, by unfold maxLen at hc2; omega, hb, fun _ => ⟨g, 0, rfl, (Array.getElem?_eq_some_iff.1 hh).1, fun i hi => ?_⟩⟩
    rw [Nat.zero_add, cell_block hh, ← Array.getElem?_toList]
    have h2 := vals64_get l i hi
    rw [← hc4] at h2
    rw [List.getElem?_take] at h2
    split at h2
    · exact h2
    · cases h2
theorem step_append_ints {P : Program} (w : World) {ops : Array Oper} {o : Oper} {a : Act} {K : Act → World → Prop} {Q : Exit → Act → World → Prop} {E : Prop} (hgd : o.guard = none) (s x : Operand) (t : TypeId)
    (ho : o.op = .call { callee := .builtin .append, args := #[s, x], argTypes := #[t, t] })
    (base : Nat) (e : TypeId) (i : TypeInfo) (z : Value) (ht : P.underlying t = some (.slice e)) (hi : P.info? e = some i) (hz : i.zero = some z)
    (hsize : i.size = 1) (hby : i.bytes = 8) (hzs : z.cells.size = 1)
    (v : Value) (n : Nat) (l : List Int) (hs : a.eval s = v) (hown : w.ownsRow base e 1 v n (vals64 l))
    (u : Value) (X : List Int) (hx : a.eval x = u) (hrx : Row .i64 w u X) (h63 : n + X.length ≤ 1000000) (hbase : base ≤ w.heap.size)
    (h : ∀ v' w', w'.ownsRow base e 1 v' (n + X.length) (vals64 (l ++ X)) → w.grownBy w' v.ownBlock → (v'.ownBlock = v.ownBlock ∨ v'.ownBlock = some w.heap.size) → (v ≠ .slice none 0 0 → v' ≠ .slice none 0 0) → K (a.put o.dst v') w') :
    if Region.wanted o (yielded ops a.tmps) = true then Oper.wp P o a w K Q else E := by
  have hw : Region.wanted o (yielded ops a.tmps) = true := by simp [Region.wanted, hgd]
  rw [if_pos hw]
  obtain ⟨ad, cap, rfl, q2, q3, q4, q5⟩ := hrx
  cases ad with
  | none =>
    have hX : X = [] := Decidable.byContradiction fun hne => by
      obtain ⟨b, off, e, -⟩ := q5 hne
      cases e
    subst hX
    have hrun := run_append_none (P := P) (w := w) base t o.type e i 1 ht hi v n cap (vals64 l) hown
    unfold Oper.wp
    simp [execOp, ho, resolve, invoke, builtin, hs, hx, hrun, Result.andThen]
    exact h v w (by simpa using hown) ⟨rfl, rfl, rfl, Nat.le_refl _, fun _ _ _ => rfl⟩ (.inl rfl) (fun h => h)
  | some ad =>
    obtain ⟨v', w', hr, h2, h3, h4, h5⟩ := run_append_own_at (P := P) w base t o.type e i z 1 8 ht hi hz hsize hby hzs (by omega) v n (vals64 l) hown ad X.length cap (vals64 X) (by rw [vals64_length, Nat.mul_one]) (fun j u hj => by
      obtain ⟨hj2, -⟩ := List.getElem?_eq_some_iff.1 hj
      rw [vals64_length] at hj2
      obtain ⟨b, off, e2, hlt, hc⟩ := q5 (by rintro rfl; simp at hj2)
      injection e2 with e2
      subst e2
      rw [vals64_get _ _ hj2] at hj
      rw [Addr_add, ← hj]
      exact hc j hj2) (vals64_one _) (maxLen_of (by omega)) (by omega) hbase
    unfold Oper.wp execOp
    simp only [ho, resolve, invoke, builtin, Sem.run_bind, Sem.run_pure, Result.andThen_ok, List.map_toArray, List.map_cons, List.map_nil, hs, hx, hr]
    exact h v' w' (by rw [vals64_app]; exact h2) h3 h5 (fun hne e => hne (h4.1 e).1)
theorem own_empty64 (w : World) (e : TypeId) : (w.alloc (.cells #[] e)).ownsRow w.heap.size e 1 (.slice (some ⟨w.heap.size, 0, none⟩) 0 0) 0 (vals64 []) := ⟨rfl, .inr ⟨w.heap.size, 0, #[], rfl, Nat.le_refl _, heap_alloc_new _ _, by omega, by unfold maxLen; omega, rfl, rfl⟩⟩
end Go.Proofs.Ytjikikiconhlaaa
