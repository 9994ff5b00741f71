/- Contracts of the landed arena: what is written. -/
import Derived.Test.YtnpnigeghhcncaaArnW
import Derived.Lib.SliceRun
namespace Go.Proofs.Ytnpnigeghhcncaa.Arn
open Go.RowKit Num
set_option linter.unusedVariables false

theorem Fr.setRow {N : Nat} {S : Nat → Prop} {a w : World} (h : Fr N S a w) {g : Nat} (hg : S g) (cs : Array Value) : Fr N S a (w.setRow g cs) :=
  h.trans ⟨rfl, rfl, rfl, by simp [World.setRow], fun k _ hs => setRow_other w g k cs (by rintro rfl; exact hs hg)⟩
theorem Fr.setCells {N : Nat} {S : Nat → Prop} {a : World} {g : Nat} (hg : S g) : ∀ (vs : List Value) (o : Nat) (w : World), Fr N S a w → Fr N S a (w.setCells g o vs)
  | [], _, _, h => h
  | v :: r, o, w, h => Fr.setCells hg r (o + 1) _ (h.setCell (p := ⟨g, o, none⟩) (.inr hg) v)
theorem wrL_cons (l : List Int) (o : Nat) (x : Int) (r : List Int) (h : o + (r.length + 1) ≤ l.length) : wrL (l.set o x) (o + 1) r = wrL l o (x :: r) := by
  unfold wrL
  rw [List.length_cons, List.drop_set_of_lt (by omega), List.take_set, List.set_eq_take_append_cons_drop, if_pos (by rw [List.length_take]; omega), List.take_take, Nat.min_eq_left (by omega), List.drop_eq_nil_of_le (by rw [List.length_take]; omega), List.append_assoc, show o + 1 + r.length = o + (r.length + 1) by omega]
  rfl
theorem wrL_nil (l : List Int) (o : Nat) : wrL l o [] = l := by simp [wrL]
theorem heap_setCells_own {g : Nat} {t : TypeId} {fr : Nat × Nat} : ∀ (vs : List Int) (o : Nat) (w : World) (l : List Int), w.heap[g]? = some (.cells (vals l).toArray t fr) → o + vs.length ≤ l.length → (w.setCells g o (vals vs)).heap[g]? = some (.cells (vals (wrL l o vs)).toArray t fr)
  | [], o, w, l, h, _ => by rw [wrL_nil]; exact h
  | v :: r, o, w, l, h, hl => by
    have h1 := heap_setCell_own (o := o) h (.int .u8 v)
    rw [vals_set] at h1
    have := heap_setCells_own r (o + 1) _ _ h1 (by rw [List.length_set]; simp only [List.length_cons] at hl; omega)
    rw [wrL_cons _ _ _ _ (by simp only [List.length_cons] at hl; omega)] at this
    exact this
theorem vals_zeros (n : Nat) : vals (List.replicate n 0) = List.replicate n (.int .u8 0) := by simp [vals]
theorem zeroU8 : ∀ w, (zeroValue 5).run Try.prog w = .ok (.int .u8 0) w := by
  intro w
  kernel_rfl

/-- What a change comes to, where it may. -/
def chg (l : List Int) (a n : Int) (Y : List Int) : List Int × Int := if fitB l.length a n then (wrL l a.toNat Y, 0) else (l, 6)
end Go.Proofs.Ytnpnigeghhcncaa.Arn
