/- A region that draws its order, whose operations only read what was there when it began, and whose calls may make memory, and hand back what doesn't hang on the world: one walk, in the order of the text. -/
import Derived.Test.YtjikikiconhlaaaKit3
import Derived.Deep.Quiet
namespace Go.Proofs.Ytjikikiconhlaaa
open Go.RowKit

/-- The worlds that are as w was, below block number B. -/
def Kept (B : Nat) (w : World) : Type := { x : World // Below B w x }
def Kept.w {B : Nat} {w : World} (k : Kept B w) : World := k.1
theorem Kept.below {B : Nat} {w : World} (k : Kept B w) : Below B w k.w := k.2
def Kept.mk' {B : Nat} {w w' : World} (h : Below B w w') : Kept B w := ⟨w', h⟩
instance Kept.some (B : Nat) (w : World) : Nonempty (Kept B w) := ⟨⟨w, Below.refl B w⟩⟩
theorem Kept.cell {B : Nat} {w : World} {b o : Nat} {v : Value} (h : w.cell? ⟨b, o, none⟩ = Option.some v) (hb : b < B) : ∀ k : Kept B w, k.w.cell? ⟨b, o, none⟩ = Option.some v :=
  fun k => (k.below.cell (p := ⟨b, o, none⟩) hb).trans h
theorem Kept.frozen {B : Nat} {w : World} {b o : Nat} {v : Bool} (h : w.frozen? ⟨b, o, none⟩ = v) (hb : b < B) : ∀ k : Kept B w, k.w.frozen? ⟨b, o, none⟩ = v :=
  fun k => (k.below.frozen (p := ⟨b, o, none⟩) hb).trans h

theorem wp_region_kept {P : Program} {id : Nat} {Q : Exit → Act → World → Prop} {a : Act} {w : World} {l : List Oper} (hm : P.follows .mixedOrders = true) (hB : Region.lexB .any l.toArray = true)
    (h : wpQuiet P l.toArray (fun w' => ∃ k : Kept w.heap.size w, w' = k.w) (fun a' => ∀ w', (∃ k : Kept w.heap.size w, w' = k.w) → Q .normal a' w') l a) : (Code.region id l.toArray true).wp P Q a w :=
  wp_region_quiet (C := fun w' => ∃ k : Kept w.heap.size w, w' = k.w) hm hB ⟨Kept.mk' (Below.refl _ w).drew, rfl⟩ (by simpa using h)

/-- A callee's contract at such a world. -/
theorem Calls.kept_of {P : Program} {f : FuncId} {args : Array Value} {w : World} {B : Nat} {k : Kept B w} {v : Value}
    (h : Calls P f args k.w fun e w' => e = .returned v ∧ Below k.w.heap.size k.w w') (hB : B ≤ w.heap.size) : Calls P f args k.w fun e w'' => e = .returned v ∧ ∃ k' : Kept B w, w'' = k'.w :=
  h.mono fun _ _ ⟨he, hm⟩ => ⟨he, Kept.mk' (k.below.trans (hm.mono (Nat.le_trans hB k.below.size))), rfl⟩
theorem Calls.kept_same {P : Program} {f : FuncId} {args : Array Value} {w : World} {B : Nat} {k : Kept B w} {v : Value}
    (h : Calls P f args k.w fun e w' => e = .returned v ∧ k.w = w') : Calls P f args k.w fun e w'' => e = .returned v ∧ ∃ k' : Kept B w, w'' = k'.w :=
  h.mono fun _ _ ⟨he, hm⟩ => ⟨he, k, hm.symm⟩
theorem Calls.kept_drew {P : Program} {f : FuncId} {args : Array Value} {w : World} {B : Nat} {k : Kept B w} {v : Value}
    (h : Calls P f args k.w fun e w' => e = .returned v ∧ ∃ m, w' = k.w.drewN m) : Calls P f args k.w fun e w'' => e = .returned v ∧ ∃ k' : Kept B w, w'' = k'.w :=
  h.mono fun _ _ ⟨he, m, hm⟩ => ⟨he, Kept.mk' (below_drewN k.below m), hm⟩
end Go.Proofs.Ytjikikiconhlaaa
