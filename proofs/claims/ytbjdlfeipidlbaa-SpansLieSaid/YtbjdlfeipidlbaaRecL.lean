/- What is asked of the functions of records; the example; the walks of the statements RecordsPack, RecordsUnpack. -/
import Derived.Test.YtbjdlfeipidlbaaRecB
import Derived.Test.YtbjdlfeipidlbaaRecC
import Derived.Lib.SlBytesConst
namespace Go.Proofs.Ytbjdlfeipidlbaa.Rec
open Go.RowKit
set_option linter.unusedVariables false

/-- A row of bytes that may be written, at block B or behind. -/
def WRow (B : Nat) (w : World) (v : Value) (l : List Int) : Prop :=
  Row .u8 w v l ∧ ∀ b off n cap, v = .slice (some ⟨b, off, none⟩) n cap → l ≠ [] → B ≤ b ∧ ∀ i, i < l.length → w.frozen? ⟨b, off + i, none⟩ = false
def WLRow (B : Nat) (w : World) (v : Value) (L : List (List Int)) : Prop := LRow (WRow B) [] w v L
theorem WLRow.qrow {B : Nat} {w : World} {v : Value} {L : List (List Int)} (h : WLRow B w v L) : QRow w v L := by
  obtain ⟨a, cap, U, h1, h2, h3, h4, h5⟩ := h
  exact ⟨a, cap, U, h1, h2, h3, fun i hi => (h4 i hi).1, h5⟩

/-- What is unpacked: rows of the call's own. -/
def OGot (w : World) (r : List (List Int) × Int) (e : Ending) (w' : World) : Prop :=
  ∃ u, e = .returned (.tuple #[u, .int .i64 r.2]) ∧ Below w.heap.size w w' ∧ WLRow w.heap.size w' u r.1
theorem OGot.got {w : World} {r : List (List Int) × Int} {e : Ending} {w' : World} (h : OGot w r e w') : UGot w r e w' := by
  obtain ⟨u, h1, h2, h3⟩ := h
  exact ⟨u, h1, h2, h3.qrow⟩
/-- What is packed: bytes of the call's own. -/
def PNew (w : World) (L : List (List Int)) (e : Ending) (w' : World) : Prop :=
  ∃ u, e = .returned (.tuple #[u, .int .i64 (szE L)]) ∧ Below w.heap.size w w' ∧ Row .u8 w' u (pckB L) ∧ (pckB L ≠ [] → ∀ k, u.ownBlock = some k → w.heap.size ≤ k)
theorem dec_self {α : Type} [DecidableEq α] (a : α) : decide (a = a) = true := by simp
theorem size_alloc (w : World) (o : Obj) : (w.alloc o).heap.size = w.heap.size + 1 := Array.size_push _

def exL : List (List Int) := [[97, 98], []]
theorem ex1 : szE exL = 0 := by decide
theorem ex2 : pckB exL = [2, 0, 2, 0, 2, 0, 97, 98] := by rw [pckB, if_pos ex1]; decide
theorem ex3 : unpV [2, 0, 2, 0, 2, 0, 97, 98] = (exL, 0) := by
  have h := unp_pack exL ex1
  have h2 := ex2
  rw [pckB, if_pos ex1] at h2
  rw [h2] at h
  exact h
theorem ex4 : unpV [2, 0, 2] = ([], 3) := by rw [unpV, if_neg (by decide), if_neg (by decide), if_pos (by decide)]
theorem ex5 : few6 exL = true := by decide
theorem ex6 : (strOfNums [2, 0, 2, 0, 2, 0, 97, 98]).toList = [2, 0, 2, 0, 2, 0, 97, 98] := by rw [ByteArray.toList_eq]; kernel_rfl
theorem ex7 : (strOfNums [97, 98]).toList = [97, 98] := by rw [ByteArray.toList_eq]; kernel_rfl
theorem made_ex (w : World) :
    QRow ((w.alloc (.cells #[.int .u8 97, .int .u8 98] 5 (2, 3))).alloc (.cells #[.slice (some ⟨w.heap.size, 0, none⟩) 2 2, .slice none 0 0] 22)) (.slice (some ⟨w.heap.size + 1, 0, none⟩) 2 2) exL ∧
    Below w.heap.size w ((w.alloc (.cells #[.int .u8 97, .int .u8 98] 5 (2, 3))).alloc (.cells #[.slice (some ⟨w.heap.size, 0, none⟩) 2 2, .slice none 0 0] 22)) := by
  have s1 := size_alloc w (.cells #[.int .u8 97, .int .u8 98] 5 (2, 3))
  have m1 : Row .u8 (w.alloc (.cells #[.int .u8 97, .int .u8 98] 5 (2, 3))) (.slice (some ⟨w.heap.size, 0, none⟩) 2 2) [97, 98] := Row.made_mark w [97, 98] 5 _ (2, 3) rfl (fun i hi => by
    match i, hi with
    | 0, _ => rfl
    | 1, _ => rfl) (by simp)
  have nv : LVals (Row .u8) [] (w.alloc (.cells #[.int .u8 97, .int .u8 98] 5 (2, 3))) [.slice (some ⟨w.heap.size, 0, none⟩) 2 2, .slice none 0 0] exL := ((LVals.nil _ _ _).snoc m1).snoc (Row.nil _ _)
  have := LRow.made (row_stays .u8) _ _ _ 22 _ rfl nv (by decide)
  rw [s1] at this
  exact ⟨this, ((Below.refl _ w).alloc (Nat.le_refl _) _).alloc (by rw [s1]; omega) _⟩

theorem pck_length (L : List (List Int)) : (pckB L).length = szN L := by
  unfold pckB szN
  split
  · exact packL_length L
  · rfl
theorem few6_in {L : List (List Int)} (h1 : L.length ≤ 60) (h2 : dat L ≤ 3000) : few6 L = true := by simp [few6, h1, h2]
theorem few6_sz {L : List (List Int)} (h : szE L = 0) : few6 L = true ∧ szL L ≤ 480 := by
  have hb : 1 ≤ L.length ∧ L.length ≤ 16 ∧ szL L ≤ 480 := by
    unfold szE at h
    split at h
    · omega
    · split at h <;> omega
  refine ⟨few6_in (by omega) ?_, hb.2.2⟩
  have := hb.2.2
  unfold szL at this
  omega
theorem unp_or (l : List Int) (hb : ∀ i, 0 ≤ l.getD i 0 ∧ l.getD i 0 < 256) : (∃ q, unpV l = (q, 0) ∧ packL q = l ∧ szE q = 0 ∧ few6 q = true) ∨ (∃ c, unpV l = ([], c) ∧ (c == 0) = false) := by
  by_cases h : (unpV l).2 = 0
  · obtain ⟨h1, h2⟩ := pack_unp l hb h
    exact .inl ⟨(unpV l).1, Prod.ext rfl h, h1, h2, (few6_sz h2).1⟩
  · exact .inr ⟨(unpV l).2, Prod.ext (unp_fail l h) rfl, by simpa using h⟩

end Go.Proofs.Ytbjdlfeipidlbaa.Rec
