/- What is asked of arena's functions; acts; few acts; the example of the page. -/
import Derived.Test.YtkknegnipodcnaaDoorArnC
import Derived.Test.YtkknegnipodcnaaDoorKit12
namespace Go.Proofs.YtkknegnipodcnaaDoor.Arn
open Go.RowKit Num
set_option linter.unusedVariables false

/-- A row of bytes in new memory that may be written. -/
def NewRow (B : Nat) (w : World) (v : Value) (l : List Int) : Prop :=
  Row .u8 w v l ∧ ∀ b off n c, v = .slice (some ⟨b, off, none⟩) n c → l ≠ [] → B ≤ b ∧ ∀ i, i < l.length → w.frozen? ⟨b, off + i, none⟩ = false

section
variable {H : Type} (blk : H → Nat → Prop) (Ar : H → World → Value → List Int → Prop) (Tb : World → Prop)
/-- What a writing call comes to. -/
def WroteS (w : World) (v : Value) (h : H) (r : List Int × Int) (e : Ending) (w' : World) : Prop :=
  e = .returned (.int .i64 r.2) ∧ ∃ h', Ar h' w' v r.1 ∧ (∀ k, blk h' k → blk h k ∨ w.heap.size ≤ k) ∧ Fr w.heap.size (blk h) w w'
/-- What a view is: a byte that is written into it is the arena's. -/
def ViewAt (w : World) (v : Value) (h : H) (l : List Int) (a m : Nat) (x : Option Addr) : Prop :=
  Row .u8 w (.slice x m m) ((l.drop a).take m) ∧ (0 < m → ∃ b off, x = some ⟨b, off, none⟩ ∧ blk h b ∧ ∀ w' l', Ar h w' v l' → ∀ i, i < m → w'.frozen? ⟨b, off + i, none⟩ = false ∧ (∃ u, w'.cell? ⟨b, off + i, none⟩ = some u) ∧ ∀ y, 0 ≤ y → y < 256 → Ar h (w'.setCell ⟨b, off + i, none⟩ (.int .u8 y)) v (l'.set (a + i) y))

def is64 (n : Int) : Prop := -9223372036854775808 ≤ n ∧ n ≤ 9223372036854775807
end

/-- An act. -/
structure Act where
  k : Int
  at_ : Int
  to : Int
  n : Int
  x : Int
  v : Int
  u : Value
  b : List Int
def Act.zero : Act := ⟨0, 0, 0, 0, 0, 0, .slice none 0 0, []⟩
def Act.cells (x : Act) : List Value := [.int .i64 x.k, .int .i64 x.at_, .int .i64 x.to, .int .i64 x.n, .int .i64 x.x, .int .u64 x.v, x.u]
def Act.agg (x : Act) : Value := .agg #[.int .i64 x.k, .int .i64 x.at_, .int .i64 x.to, .int .i64 x.n, .int .i64 x.x, .int .u64 x.v, x.u]
def ActR (w : World) (cs : List Value) (x : Act) : Prop := cs = x.cells ∧ is64 x.k ∧ is64 x.at_ ∧ is64 x.to ∧ is64 x.n ∧ is64 x.x ∧ 0 ≤ x.v ∧ x.v < 18446744073709551616 ∧ Row .u8 w x.u x.b
theorem actR_stays : GStays ActR := fun _ _ _ _ _ h hb hB => ⟨h.1, h.2.1, h.2.2.1, h.2.2.2.1, h.2.2.2.2.1, h.2.2.2.2.2.1, h.2.2.2.2.2.2.1, h.2.2.2.2.2.2.2.1, h.2.2.2.2.2.2.2.2.mono hb hB⟩
abbrev ActRow := GRow 7 ActR Act.zero

/-- How many bytes acts have. -/
def datA (L : List Act) : Nat := (L.map fun x => x.b.length).sum
theorem datA_take_succ (L : List Act) (k : Nat) (h : k < L.length) : datA (L.take (k + 1)) = datA (L.take k) + (L.getD k Act.zero).b.length := by
  have e : L.getD k Act.zero = L[k] := by simp [List.getD, h]
  rw [List.take_succ_eq_append_getElem h, e]
  unfold datA
  rw [List.map_append, List.sum_append]
  simp
theorem datA_take_le (L : List Act) (k : Nat) : datA (L.take k) ≤ datA L := by
  conv => rhs; rw [← List.take_append_drop k L]
  unfold datA
  rw [List.map_append, List.sum_append]
  omega
theorem datA_get (L : List Act) (k : Nat) (h : k < L.length) : (L.getD k Act.zero).b.length ≤ datA L := by
  have h1 := datA_take_succ L k h
  have h2 := datA_take_le L (k + 1)
  omega
def fewA (L : List Act) : Bool := decide (L.length ≤ 60) && decide (datA L ≤ 3000)
theorem fewA_out {L : List Act} (h : fewA L = true) : L.length ≤ 60 ∧ datA L ≤ 3000 := by simpa [fewA] using h

end Go.Proofs.YtkknegnipodcnaaDoor.Arn
