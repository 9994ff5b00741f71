/- What a call leaves alone: all blocks below N but those of S. -/
import Derived.Test.YtjikikiconhlaaaKit4
namespace Go.Proofs.Ytjikikiconhlaaa
open Go.RowKit

structure Fr (N : Nat) (S : Nat → Prop) (a w : World) : Prop where
  os : w.os = a.os
  tape : w.tape = a.tape
  output : w.output = a.output
  size : a.heap.size ≤ w.heap.size
  block : ∀ k, k < N → ¬ S k → w.heap[k]? = a.heap[k]?
theorem Fr.refl (N : Nat) (S : Nat → Prop) (w : World) : Fr N S w w := ⟨rfl, rfl, rfl, Nat.le_refl _, fun _ _ _ => rfl⟩
theorem Fr.trans {N : Nat} {S : Nat → Prop} {a b c : World} (h : Fr N S a b) (k : Fr N S b c) : Fr N S a c :=
  ⟨k.os.trans h.os, k.tape.trans h.tape, k.output.trans h.output, Nat.le_trans h.size k.size, fun i hi hs => (k.block i hi hs).trans (h.block i hi hs)⟩
theorem Fr.mono {N M : Nat} {S T : Nat → Prop} {a b : World} (h : Fr N S a b) (hN : M ≤ N) (hS : ∀ k, k < M → S k → T k) : Fr M T a b :=
  ⟨h.os, h.tape, h.output, h.size, fun k hk hs => h.block k (Nat.lt_of_lt_of_le hk hN) (fun hh => hs (hS k hk hh))⟩
theorem Fr.alloc {N : Nat} {S : Nat → Prop} {a w : World} (h : Fr N S a w) (hN : N ≤ w.heap.size) (o : Obj) : Fr N S a (w.alloc o) :=
  h.trans (by
    have := (Below.refl w.heap.size w).alloc (Nat.le_refl _) o
    exact ⟨this.os, this.tape, this.output, this.size, fun k hk _ => this.block k (by omega)⟩)
theorem Fr.below {N : Nat} {S : Nat → Prop} {a w w' : World} (h : Fr N S a w) (hb : Below w.heap.size w w') (hN : N ≤ w.heap.size) : Fr N S a w' :=
  h.trans ⟨hb.os, hb.tape, hb.output, hb.size, fun k hk _ => hb.block k (by omega)⟩
theorem Fr.of_below {N : Nat} {S : Nat → Prop} {w w' : World} (hb : Below N w w') : Fr N S w w' := ⟨hb.os, hb.tape, hb.output, hb.size, fun k hk _ => hb.block k hk⟩
theorem Fr.drew {N : Nat} {S : Nat → Prop} {a w : World} (h : Fr N S a w) : Fr N S a w.drew := ⟨h.os, h.tape, h.output, h.size, h.block⟩
theorem Fr.setCell {N : Nat} {S : Nat → Prop} {a w : World} (h : Fr N S a w) {p : Addr} (hp : N ≤ p.block ∨ S p.block) (u : Value) : Fr N S a (w.setCell p u) :=
  h.trans ⟨rfl, rfl, rfl, by simp, fun k hk hs => Below.heap_setCell _ _ _ _ (by rintro rfl; rcases hp with h | h; omega; exact hs h)⟩
theorem Fr.toBelow {N B : Nat} {S : Nat → Prop} {a w : World} (h : Fr N S a w) (hB : B ≤ N) (hS : ∀ k, k < B → ¬ S k) : Below B a w :=
  ⟨h.os, h.tape, h.output, h.size, fun k hk => h.block k (Nat.lt_of_lt_of_le hk hB) (hS k hk)⟩
theorem Fr.cell {N : Nat} {S : Nat → Prop} {a w : World} (h : Fr N S a w) {b o : Nat} {v : Value} (hc : a.cell? ⟨b, o, none⟩ = some v) (hb : b < N) (hs : ¬ S b) : w.cell? ⟨b, o, none⟩ = some v := by
  have := h.block b hb hs
  simp only [World.cell?] at hc ⊢
  rw [this]
  exact hc
theorem Fr.frozen {N : Nat} {S : Nat → Prop} {a w : World} (h : Fr N S a w) {b o : Nat} (hb : b < N) (hs : ¬ S b) : w.frozen? ⟨b, o, none⟩ = a.frozen? ⟨b, o, none⟩ := by
  have := h.block b hb hs
  simp only [World.frozen?]
  rw [this]
theorem Row.fr {k : IntKind} {w w' : World} {v : Value} {l : List Int} {N : Nat} {T : Nat → Prop} (h : Row k w v l) (hf : Fr N T w w') (hs : l ≠ [] → ∀ b, v.ownBlock = some b → b < N ∧ ¬ T b) : Row k w' v l := by
  obtain ⟨a, cap, rfl, h2, h3, h4, h5⟩ := h
  refine ⟨a, cap, rfl, h2, h3, h4, fun hne => ?_⟩
  obtain ⟨b, off, rfl, hlt, hc⟩ := h5 hne
  obtain ⟨s1, s2⟩ := hs hne b rfl
  exact ⟨b, off, rfl, Nat.lt_of_lt_of_le hlt hf.size, fun i hi => hf.cell (hc i hi) s1 s2⟩
theorem Fr.of_grown {w w' : World} {N : Nat} {T : Nat → Prop} {row : Option Nat} (h : w.grownBy w' row) (hN : N ≤ w.heap.size) (hr : ∀ k, row = some k → N ≤ k ∨ T k) : Fr N T w w' :=
  ⟨h.os, h.tape, h.output, h.size, fun k hk hs => h.block k (by omega) (by intro e; rcases hr k e.symm with h | h; omega; exact hs h)⟩
end Go.Proofs.Ytjikikiconhlaaa
