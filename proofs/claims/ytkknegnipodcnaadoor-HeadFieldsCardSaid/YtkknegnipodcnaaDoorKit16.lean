/- What a loop over a function keeps of rows and blocks. -/
import Derived.Test.YtkknegnipodcnaaDoorKit11
import Derived.RangeFuncNested
import Derived.RangeFuncBound
import Derived.Below
import Derived.Shelf.Abstract
import Derived.RangeFuncCalls
import Derived.OrdersIn
import Derived.Deep.RegionHeld3
namespace Go.Proofs.YtkknegnipodcnaaDoor
open Go.RowKit Go.Shelf
set_option linter.unusedVariables false

theorem grown_block {X Y : World} {row : Option Nat} {k : Nat} {o : Obj} (h : X.heap[k]? = some o) (ho : o.isCells = true) (hg : X.grownBy Y row) (hrow : ∀ r, row = some r → ∃ o : Obj, X.heap[r]? = some o ∧ o.isCells = false) : Y.heap[k]? = some o :=
  (hg.block k (Array.getElem?_eq_some_iff.1 h).1 (fun e => by obtain ⟨o', ho', hc⟩ := hrow k e.symm; rw [h] at ho'; cases ho'; rw [ho] at hc; cases hc)).trans h
theorem blk_own {β : Type} (k : Nat) (o : Obj) (ho : o.isCells = true) : Own (fun (_ : β) W => W.heap[k]? = some o) := fun s X Y row hs hg hrow => grown_block hs ho hg hrow
theorem row_own {β : Type} (k : IntKind) (f : β → Value) (g : β → List Int) : Own (fun s W => Row k W (f s) (g s)) := fun s X Y row hs hg hrow => by
  obtain ⟨a, cap, h1, h2, h3, h4, h5⟩ := hs
  refine ⟨a, cap, h1, h2, h3, h4, fun hne => ?_⟩
  obtain ⟨b, off, e, hlt, hc⟩ := h5 hne
  exact ⟨b, off, e, Nat.lt_of_lt_of_le hlt hg.size, fun i hi => cell_kept (hc i hi) hg hrow⟩
theorem own_ex {α β : Type} {I : α → β → World → Prop} (h : ∀ x, Own (I x)) : Own (fun s W => ∃ x, I x s W) := fun s X Y row hs hg hrow => by
  obtain ⟨x, hx⟩ := hs
  exact ⟨x, h x s X Y row hx hg hrow⟩
theorem own_and {β : Type} {I J : β → World → Prop} (h : Own I) (k : Own J) : Own (fun s W => I s W ∧ J s W) := fun s X Y row hs hg hrow => ⟨h s X Y row hs.1 hg hrow, k s X Y row hs.2 hg hrow⟩
/-- A row survives a store into a box that holds a slice. -/
theorem Row.box {k : IntKind} {W : World} {u : Value} {l : List Int} {B : Nat} {t : TypeId} {a : Option Addr} {m n : Nat} (h : Row k W u l) (hb : Boxed W B t (.slice a m n)) (v : Value) : Row k (W.setCell ⟨B, 0, none⟩ v) u l := by
  obtain ⟨ad, cap, h1, h2, h3, h4, h5⟩ := h
  refine ⟨ad, cap, h1, h2, h3, h4, fun hne => ?_⟩
  obtain ⟨b, off, e, hlt, hc⟩ := h5 hne
  have hbB : b ≠ B := by
    rintro rfl
    have h0 := hc 0 (List.length_pos_iff.2 hne)
    rw [cell_block (show W.heap[b]? = some (.cells #[.slice a m n] t (0, 0)) from hb)] at h0
    rcases Nat.eq_zero_or_pos (off + 0) with h6 | h6
    · rw [h6] at h0
      cases h0
    · rw [Array.getElem?_eq_none (by simp; omega)] at h0
      cases h0
  refine ⟨b, off, e, by simpa using hlt, fun i hi => ?_⟩
  rw [← hc i hi]
  exact World.cell?_of_block (Below.heap_setCell W ⟨B, 0, none⟩ v b hbB)

/-! ### A drawn region of a round, by the laws of the plain one -/
theorem rowsIn_round {P : Program} {n l : Nat} {row : String} {args : Array Value} {w : World} {R : Value → World → Prop} (h : Rows P row args w R) : RowsIn (Fence.wide.inRound l) n P row args w R := fun c cs _ => by
  obtain ⟨v, w', r, s⟩ := h c cs
  exact ⟨v, w', r, stepsIn_wide.2 s⟩
theorem uponIn_round {P : Program} {n l : Nat} {o : Oper} {a : Act} {K : Act → World → Prop} {Q : Exit → Act → World → Prop} : ∀ {r : Result Next}, o.upon P a K Q r → o.uponIn (Fence.wide.inRound l) n P a K Q r
  | .ok (.value v) w, h => h
  | .ok .skip w, h => h
  | .ok (.defer d) w, h => h
  | .ok (.enter f args) w, h => ⟨fun e => (by cases e), CallsIn.inRound l (callsIn_wide.2 h)⟩
  | .ok (.row row args) w, h => ⟨fun e => (by cases e), rowsIn_round h⟩
  | .ok (.round _ _ _ _ _) w, h => h.elim
  | .halt (.panic v) w, h => h
  | .halt (.fatal _) w, h => h.elim
theorem wpOpIn_round {P : Program} {n l : Nat} {ops : Array Oper} {Q : Exit → Act → World → Prop} {i : Nat} {K K' : Act → World → Prop} {a : Act} {w : World} (hd : ∀ (i : Nat) (o : Oper), ops[i]? = some o → ∀ c, o.op ≠ Op.defer c) (hQ : ¬ LetsOut Q) (hK : ∀ a w, K a w → K' a w)
    (h : wpOp P ops Q i K a w) : wpOpIn (Fence.wide.inRound l) n P ops Q i K' a w := by
  refine wpOpIn_mono hK ?_
  unfold wpOp at h
  unfold wpOpIn
  cases ho : ops[i]? with
  | none => simpa [ho] using h
  | some o =>
    simp only [ho] at h ⊢
    by_cases hw : Region.wanted o (yielded ops a.tmps) = true
    · rw [if_pos hw] at h ⊢
      rcases h with h | ⟨-, h⟩
      · refine ⟨fun _ _ => trivial, ?_⟩
        rw [Fence.inRound_round, Oper.semAt_some l _ _ (hd i o ho)]
        exact uponIn_round h
      · exact absurd h hQ
    · rw [if_neg hw] at h ⊢
      exact ⟨fun _ _ => trivial, h⟩
theorem wpAnyIn_round {P : Program} {n l : Nat} {md : Region.Mode} {ops : Array Oper} {Q : Exit → Act → World → Prop} (hd : ∀ (i : Nat) (o : Oper), ops[i]? = some o → ∀ c, o.op ≠ Op.defer c) (hQ : ¬ LetsOut Q) : ∀ (fuel : Nat) (listed : Array Bool) (a : Act) (w : World),
    wpAny P md ops Q fuel listed a w → wpAnyIn (Fence.wide.inRound l) n P md ops Q fuel listed a w
  | 0, _, _, _, h => h
  | fuel + 1, listed, a, w, h => ⟨h.1, fun i hi => wpOpIn_round hd hQ (fun a w => wpAnyIn_round hd hQ fuel _ a w) (h.2 i hi)⟩
/-- A region without 'defer' that draws, in a round: steps held by S. -/
theorem wpIn_round_held {P : Program} {n l id : Nat} {ops : Array Oper} {Q : Exit → Act → World → Prop} {S : World → Prop} {a : Act} {w : World} (hm : P.follows .mixedOrders = true) (hd : ∀ (i : Nat) (o : Oper), ops[i]? = some o → ∀ c, o.op ≠ Op.defer c) (hQ : ¬ LetsOut Q) (hS : S w.drew)
    (h : S w.drew → wpAnyH P .any ops Q S ops.size (Array.replicate ops.size false) a w.drew) : (Code.region id ops true).wpIn (Fence.wide.inRound l) n P Q a w :=
  wpIn_region_any hm (wpAnyIn_round hd hQ _ _ _ _ (wpAny_of_held _ _ _ _ (h hS)))
def noDefer (ops : Array Oper) : Bool := ops.all fun o => match o.op with | .defer _ => false | _ => true
theorem noDefer_ok {ops : Array Oper} (h : noDefer ops = true) : ∀ (i : Nat) (o : Oper), ops[i]? = some o → ∀ c, o.op ≠ Op.defer c := by
  intro i o ho c e
  unfold noDefer at h
  rw [Array.all_eq_true'] at h
  have h1 := h o (Array.mem_of_getElem? ho)
  rw [e] at h1
  cases h1
end Go.Proofs.YtkknegnipodcnaaDoor
