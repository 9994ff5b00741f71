/- Slices of bools, read as lists. -/
import Derived.Test.YtjikikiconhlaaaKit22
import Derived.ArgAppend
import Derived.Deep.Upon
namespace Go.Proofs.Ytjikikiconhlaaa
open Go.RowKit
set_option linter.unusedVariables false

/-- A slice value of bools reads as a list. -/
def BRow (w : World) (v : Value) (l : List Bool) : Prop :=
  ∃ a cap, v = .slice a l.length cap ∧ l.length ≤ cap ∧ cap ≤ 9223372036854775807 ∧
    (l ≠ [] → ∃ b off, a = some ⟨b, off, none⟩ ∧ b < w.heap.size ∧ ∀ i, i < l.length → w.cell? ⟨b, off + i, none⟩ = some (.bool (l.getD i false)))

theorem BRow.mono {w w' : World} {v : Value} {l : List Bool} {B : Nat} (h : BRow w v l) (hb : Below B w w') (hB : w.heap.size ≤ B) : BRow w' v l := by
  obtain ⟨a, cap, h1, h2, h3, h5⟩ := h
  refine ⟨a, cap, h1, h2, h3, fun hne => ?_⟩
  obtain ⟨b, off, e, hlt, hc⟩ := h5 hne
  exact ⟨b, off, e, Nat.lt_of_lt_of_le hlt hb.size, fun i hi => (hb.cell (p := ⟨b, off + i, none⟩) (show b < B by omega)).trans (hc i hi)⟩
theorem BRow.nil (w : World) : BRow w (.slice none 0 0) [] := ⟨none, 0, rfl, by simp, by omega, fun h => absurd rfl h⟩

theorem BRow.ofArg {w : World} {a : Option Addr} {len cap : Nat} {zs : List Bool}
    (h : (a = none ∧ len = 0 ∧ cap = 0 ∧ zs = []) ∨ ∃ x, a = some x ∧ len ≤ cap ∧ cap ≤ maxLen ∧ zs.length = cap ∧ (∀ i, i < zs.length → w.cell? (x.add i) = some (.bool (zs.getD i false)))) :
    BRow w (.slice a len cap) (zs.take len) ∧ (zs.take len).length = len := by
  rcases h with ⟨rfl, rfl, rfl, rfl⟩ | ⟨x, rfl, hl, hm, hz, hcell⟩
  · exact ⟨BRow.nil _, rfl⟩
  · have hL : (zs.take len).length = len := by simp; omega
    have hget : ∀ i, i < len → (zs.take len).getD i false = zs.getD i false := fun i hi => by simp [List.getD, hi]
    refine ⟨⟨some x, cap, by rw [hL], by rw [hL]; exact hl, by unfold maxLen at hm; omega, fun hne => ?_⟩, hL⟩
    have hpos : 0 < len := by
      have := List.length_pos_iff.2 hne
      omega
    obtain ⟨b, off, spot⟩ := x
    have hc := hcell 0 (by omega)
    have hspot : spot = none := by simpa [Addr.add] using World.cell?_spot hc
    subst hspot
    refine ⟨b, off, rfl, by have := World.block_lt_of_cell? w _ hc; simpa [Addr.add] using this, fun i hi => ?_⟩
    rw [hL] at hi
    rw [hget i hi, ← hcell i (by omega), Addr_add]

theorem BRow.made (w : World) (L : List Bool) (e : TypeId) (c : Array Value) (hc : c = (L.map Value.bool).toArray) (hn : L.length ≤ 9223372036854775807) :
    BRow (w.alloc (.cells c e)) (.slice (some ⟨w.heap.size, 0, none⟩) L.length L.length) L := by
  refine ⟨_, _, rfl, Nat.le_refl _, hn, fun _ => ⟨w.heap.size, 0, rfl, ?_, fun i hi => ?_⟩⟩
  · have : (w.alloc (.cells c e)).heap.size = w.heap.size + 1 := Array.size_push _
    omega
  · rw [Nat.zero_add, cell_block (heap_alloc_new w _), hc]
    simp [hi, List.getD]

theorem BRow.from_ {w : World} {a : Option Addr} {cap n : Nat} {l : List Bool} (h : BRow w (.slice a l.length cap) l) (hn : n ≤ l.length) : BRow w (.slice (if cap = n then a else a.map (·.add n)) (l.length - n) (cap - n)) (l.drop n) := by
  obtain ⟨a', cap', h1, h2, h3, h5⟩ := h
  injection h1 with e1 e2 e3
  subst e1 e3
  refine ⟨_, _, by rw [List.length_drop], by rw [List.length_drop]; omega, by omega, fun hne => ?_⟩
  have hlt : n < l.length := by
    have := List.length_pos_iff.2 hne
    rw [List.length_drop] at this
    omega
  obtain ⟨b, off, e, hb, hc⟩ := h5 (by rintro rfl; simp at hne)
  subst e
  rw [if_neg (by omega)]
  refine ⟨b, off + n, by simp [Addr_add], hb, fun i hi => ?_⟩
  rw [List.length_drop] at hi
  have := hc (n + i) (by omega)
  rw [Nat.add_assoc, this]
  simp [List.getD]

def valsB (l : List Bool) : List Value := l.map .bool
theorem valsB_length (l : List Bool) : (valsB l).length = l.length := by simp [valsB]
theorem valsB_get (l : List Bool) (j : Nat) (h : j < l.length) : (valsB l)[j]? = some (.bool (l.getD j false)) := by
  unfold valsB List.getD
  rw [List.getElem?_map, List.getElem?_eq_getElem h]
  rfl
theorem valsB_app (l m : List Bool) : valsB (l ++ m) = valsB l ++ valsB m := by simp [valsB]
theorem valsB_one (l : List Bool) : ∀ u ∈ valsB l, u.oneCell' = true := by
  intro u hu
  obtain ⟨x, -, rfl⟩ := List.mem_map.1 hu
  rfl
theorem brow_of_owns {w : World} {base : Nat} {t : TypeId} {v : Value} {n : Nat} {l : List Bool} (h : w.ownsRow base t 1 v n (valsB l)) (hn : l.length = n) : BRow w v l := by
  obtain ⟨h1, ⟨rfl, rfl⟩ | ⟨g, cap, cur, rfl, hg, hh, hc1, hc2, hc3, hc4⟩⟩ := h
  · obtain rfl := List.length_eq_zero_iff.1 hn
    exact BRow.nil _
  · refine ⟨_, cap, by rw [hn], by omega, by unfold maxLen at hc2; omega, fun _ => ⟨g, 0, rfl, (Array.getElem?_eq_some_iff.1 hh).1, fun i hi => ?_⟩⟩
    rw [Nat.zero_add, cell_block hh, ← Array.getElem?_toList]
    have h2 := valsB_get l i hi
    rw [← hc4] at h2
    rw [List.getElem?_take] at h2
    split at h2
    · exact h2
    · cases h2
theorem own_emptyB (w : World) (e : TypeId) : (w.alloc (.cells #[] e)).ownsRow w.heap.size e 1 (.slice (some ⟨w.heap.size, 0, none⟩) 0 0) 0 (valsB []) := ⟨rfl, .inr ⟨w.heap.size, 0, #[], rfl, Nat.le_refl _, heap_alloc_new _ _, by omega, by unfold maxLen; omega, rfl, rfl⟩⟩
/-- make of n bools: owned. -/
theorem own_falses (w : World) (n : Nat) (e : TypeId) (hn : n ≤ 1000000) : (w.alloc (.cells (madeCells (Value.bool false).cells n) e)).ownsRow w.heap.size e 1 (.slice (some ⟨w.heap.size, 0, none⟩) n n) n (valsB (List.replicate n false)) := by
  have hm : madeCells (Value.bool false).cells n = (valsB (List.replicate n false)).toArray := by
    apply Array.ext
    · simp [madeCells, valsB, Value.cells]
    · intro i h1 h2
      simp [madeCells, valsB, Value.cells, Nat.mod_one]
  refine ⟨by simp [valsB], .inr ⟨w.heap.size, n, _, rfl, Nat.le_refl _, heap_alloc_new _ _, Nat.le_refl _, by unfold maxLen; omega, ?_, ?_⟩⟩
  · rw [hm]; simp [valsB]
  · rw [hm]; simp [valsB]
theorem row_cells {w : World} {ad : Addr} {n c : Nat} {l : List Bool} (h : BRow w (.slice (some ad) n c) l) : ∀ j u, (valsB l)[j]? = some u → w.cell? (ad.add j) = some u := by
  obtain ⟨a, cap, h1, h2, h3, h5⟩ := h
  injection h1 with e1 e2 e3
  intro j u hj
  obtain ⟨hj2, -⟩ := List.getElem?_eq_some_iff.1 hj
  rw [valsB_length] at hj2
  obtain ⟨b, off, e4, hlt, hc⟩ := h5 (by rintro rfl; simp at hj2)
  rw [← e1] at e4
  injection e4 with e4
  subst e4
  rw [valsB_get _ _ hj2] at hj
  rw [Addr_add, ← hj]
  exact hc j hj2
theorem row_cells64 {w : World} {ad : Addr} {n c : Nat} {l : List Int} (h : Row .i64 w (.slice (some ad) n c) l) : ∀ j u, (vals64 l)[j]? = some u → w.cell? (ad.add j) = some u := by
  obtain ⟨a, cap, h1, h2, h3, h4, h5⟩ := h
  injection h1 with e1 e2 e3
  intro j u hj
  obtain ⟨hj2, -⟩ := List.getElem?_eq_some_iff.1 hj
  rw [vals64_length] at hj2
  obtain ⟨b, off, e4, hlt, hc⟩ := h5 (by rintro rfl; simp at hj2)
  rw [← e1] at e4
  injection e4 with e4
  subst e4
  rw [vals64_get _ _ hj2] at hj
  rw [Addr_add, ← hj]
  exact hc j hj2

/-- append of nothing. -/
theorem run_append_zero {P : Program} {w : World} (t ty e : TypeId) (i : TypeInfo) (ht : P.underlying t = some (.slice e)) (hi : P.info? e = some i)
    (a : Addr) (n cap : Nat) (hnc : n ≤ cap) (x : Option Addr) (c : Nat) :
    (Builtin.append_ #[t, t] ty #[.slice (some a) n cap, .slice x 0 c]).run P w = .ok (.slice (some a) n cap) w := by
  cases x with
  | none => simp [Builtin.append_, run_underlying ht, sizeOf, typeInfo, hi, Builtin.lenOf, Builtin.firstCells, hnc, storeCells]
  | some x =>
    have hfc := run_firstCells_some (P := P) w i.size 0 x 0 c [] (by simp) (by simp)
    simp [Builtin.append_, run_underlying ht, sizeOf, typeInfo, hi, Builtin.lenOf, hnc, hfc, storeCells]

/-- An append in a region that draws, by what it comes to. -/
theorem step_append_run {P : Program} {ops : Array Oper} {o : Oper} {a : Act} {w : World} {K : Act → World → Prop} {Q : Exit → Act → World → Prop} {E : Prop} (hgd : o.guard = none) (s x : Operand) (t ty : TypeId)
    (ho : o.op = .call { callee := .builtin .append, args := #[s, x], argTypes := #[t, t] }) (hty : o.type = ty) (vs vx v' : Value) (w' : World) (hs : a.eval s = vs) (hx : a.eval x = vx)
    (hrun : (Builtin.append_ #[t, t] ty #[vs, vx]).run P w = .ok v' w') (h : K (a.put o.dst v') w') :
    if Region.wanted o (yielded ops a.tmps) = true then Oper.wp P o a w K Q else E := by
  have hw : Region.wanted o (yielded ops a.tmps) = true := by simp [Region.wanted, hgd]
  rw [if_pos hw]
  subst hty
  unfold Oper.wp
  simp [execOp, ho, resolve, invoke, builtin, hs, hx, hrun, Result.andThen]
  exact h
/-- An append outside of one, by what it comes to. -/
theorem wpList_append_run {P : Program} {w : World} {ops : Array Oper} {rest : List Oper} {o : Oper} {a : Act} {Q : Exit → Act → World → Prop} (hgd : o.guard = none) (s x : Operand) (t ty : TypeId)
    (ho : o.op = .call { callee := .builtin .append, args := #[s, x], argTypes := #[t, t] }) (hty : o.type = ty) (vs vx v' : Value) (w' : World) (hs : a.eval s = vs) (hx : a.eval x = vx)
    (hrun : (Builtin.append_ #[t, t] ty #[vs, vx]).run P w = .ok v' w') (h : wpList P ops Q rest (a.put o.dst v') w') :
    wpList P ops Q (o :: rest) a w := by
  refine wpList_plain hgd fun K hK => ?_
  subst hty
  unfold Oper.wp
  simp [execOp, ho, resolve, invoke, builtin, hs, hx, hrun, Result.andThen]
  exact hK _ _ h

/-- What an append of bools onto what the call owns comes to. -/
theorem run_append_bools {P : Program} (w : World) (base : Nat) (t ty e : TypeId) (i : TypeInfo) (z : Value) (ht : P.underlying t = some (.slice e)) (hi : P.info? e = some i) (hz : i.zero = some z)
    (hsize : i.size = 1) (hby : i.bytes = 1) (hzs : z.cells.size = 1)
    (v : Value) (n : Nat) (l : List Bool) (hown : w.ownsRow base e 1 v n (valsB l)) (hne : v ≠ .slice none 0 0)
    (u : Value) (X : List Bool) (hrx : BRow w u X) (h63 : n + X.length ≤ 1000000) (hbase : base ≤ w.heap.size) :
    ∃ v' w', (Builtin.append_ #[t, t] ty #[v, u]).run P w = .ok v' w' ∧ w'.ownsRow base e 1 v' (n + X.length) (valsB (l ++ X)) ∧ w.grownBy w' v.ownBlock ∧ v' ≠ .slice none 0 0 := by
  obtain ⟨ad, cap, rfl, q2, q3, q5⟩ := id hrx
  cases ad with
  | none =>
    have hX : X = [] := Decidable.byContradiction fun hne => by
      obtain ⟨b, off, e, -⟩ := q5 hne
      cases e
    subst hX
    have hrun := run_append_none (P := P) (w := w) base t ty e i 1 ht hi v n cap (valsB l) hown
    exact ⟨v, w, hrun, by simpa using hown, ⟨rfl, rfl, rfl, Nat.le_refl _, fun _ _ _ => rfl⟩, hne⟩
  | some ad =>
    obtain ⟨v', w', hr, h2, h3, h4, h5⟩ := run_append_own_at (P := P) w base t ty e i z 1 1 ht hi hz hsize hby hzs (by omega) v n (valsB l) hown ad X.length cap (valsB X) (by rw [valsB_length, Nat.mul_one]) (row_cells hrx) (valsB_one _) (maxLen_of (by omega)) (by omega) hbase
    exact ⟨v', w', hr, by rw [valsB_app]; exact h2, h3, fun e => hne (h4.1 e).1⟩

end Go.Proofs.Ytjikikiconhlaaa
namespace Go.Proofs.Ytjikikiconhlaaa
open Go.ChangeShapes Go.WideShapes
section
variable {H : Type} {enc : TypeId × Value → H} {P : Program} {w : World} {base : Nat} {spare : Nat → Bool} {held : Bool}
/-- The bool in a datum that is one. -/
def boolOf (y : DataW H × List MemPlace) : Bool := match y.1 with | .lit (.bool b) => b | _ => false
theorem open_bools {t e : TypeId} {fuel : Nat} {cs : List Value} {x : DataW H × List MemPlace} (ht : P.underlying t = some (.slice e)) (he : P.underlying e = some .bool) (hc : P.cellsOf e = 1)
    (h : DataW.trod enc P w base spare held fuel t cs = some x) :
    cs = [.slice none 0 0] ∨
    ∃ (a : Addr) (len cap : Nat) (zs : List Bool), cs = [.slice (some a) len cap] ∧ len ≤ cap ∧ cap ≤ maxLen ∧ zs.length = (if spare a.block then cap else len) ∧
      (∀ i, i < zs.length → w.cell? (a.add i) = some (.bool (zs.getD i false))) := by
  rcases DataW.trod_slice ht h with h0 | ⟨a, len, cap, elems, rest, n, _, rfl, rfl, hb, hl, hm, hlen, hel, hsp, hns⟩
  · exact Or.inl h0.1
  right
  have each : ∀ i y, (elems ++ rest)[i]? = some y → w.cell? (a.add i) = some (.bool (boolOf y)) := by
    intro i y hy
    have hb' : (w.cells? base (a.add (i * P.cellsOf e)) (P.cellsOf e)).bind (DataW.trod enc P w base spare held n e) = some y := by
      by_cases hi : i < len
      · rw [hel i hi, ← hy, List.getElem?_append_left (by omega)]
      · have hi' : i - len < rest.length := by
          have := (List.getElem?_eq_some_iff.1 hy).1
          simp at this
          omega
        cases hs : spare a.block with
        | false => rw [hns hs] at hi'; simp at hi'
        | true =>
          obtain ⟨hrl, hr⟩ := hsp hs
          have := hr (i - len) (by omega)
          rw [show len + (i - len) = i by omega] at this
          rw [this, ← hy, List.getElem?_append_right (by omega), hlen]
    rw [hc, Nat.mul_one, Option.bind_eq_some_iff] at hb'
    obtain ⟨cs', hcs, hy'⟩ := hb'
    obtain ⟨m, rfl, rfl⟩ := DataW.trod_bool he hy'
    exact cell_of_cells?_one hcs
  refine ⟨a, len, cap, (elems ++ rest).map boolOf, rfl, hl, hm, ?_, ?_⟩
  · simp only [List.length_map, List.length_append, hlen]
    cases hs : spare a.block with
    | false => simp [hns hs]
    | true => simp [(hsp hs).1]; omega
  · intro i hi
    simp only [List.length_map] at hi
    have hy : (elems ++ rest)[i]? = some ((elems ++ rest)[i]'hi) := List.getElem?_eq_getElem hi
    have := each i _ hy
    have e : ((elems ++ rest).map boolOf).getD i false = boolOf ((elems ++ rest)[i]'hi) := by rw [List.getD, List.getElem?_map, hy]; rfl
    rw [this, e]
end
end Go.Proofs.Ytjikikiconhlaaa
