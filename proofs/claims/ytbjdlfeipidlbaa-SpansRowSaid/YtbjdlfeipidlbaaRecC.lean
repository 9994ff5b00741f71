/- The contract of the document's Pack. -/
import Derived.Test.YtbjdlfeipidlbaaRecB
import Derived.Test.YtbjdlfeipidlbaaKit9
namespace Go.Proofs.Ytbjdlfeipidlbaa.Rec
open Go.RowKit
set_option linter.unusedVariables false

def PGot (w : World) (L : List (List Int)) (e : Ending) (w' : World) : Prop :=
  ∃ u, e = .returned (.tuple #[u, .int .i64 (szE L)]) ∧ Below w.heap.size w w' ∧ Row .u8 w' u (pckB L)

theorem infoB2 : (Try.prog.info? 5).map (fun i => (i.zero, i.size, i.bytes)) = some (some (.int .u8 0), 1, 1) := by kernel_rfl

theorem owns_shape {w : World} {base : Nat} {e : TypeId} {size : Nat} {v : Value} {n : Nat} {xs : List Value} (h : w.ownsRow base e size v n xs) : ∃ a cap, v = .slice a n cap := by
  rcases h.2 with ⟨rfl, rfl⟩ | ⟨g, cap, cur, rfl, _⟩
  · exact ⟨_, _, rfl⟩
  · exact ⟨_, _, rfl⟩
theorem wrap_b {n : Int} (h1 : 0 ≤ n) (h2 : n ≤ 255) : IntKind.u8.wrap n = n := by simp [IntKind.wrap, IntKind.bits, IntKind.signed]; omega
theorem mem_bytes {l : List Int} (h : ∀ x ∈ l, 0 ≤ x ∧ x < 256) (i : Nat) : 0 ≤ l.getD i 0 ∧ l.getD i 0 < 256 := by
  by_cases hi : i < l.length
  · simpa [List.getD, hi] using h l[i] (List.getElem_mem hi)
  · simp [List.getD, show l[i]? = none from List.getElem?_eq_none (by omega)]
theorem bytes_mem {l : List Int} (h : ∀ i, 0 ≤ l.getD i 0 ∧ l.getD i 0 < 256) : ∀ x ∈ l, 0 ≤ x ∧ x < 256 := by
  intro x hx
  obtain ⟨i, hi, rfl⟩ := List.mem_iff_getElem.1 hx
  simpa [List.getD, hi] using h i
theorem qrow_mem {w : World} {v : Value} {L : List (List Int)} (h : QRow w v L) : ∀ l ∈ L, ∀ x ∈ l, 0 ≤ x ∧ x < 256 := by
  obtain ⟨a, cap, U, rfl, h2, h3, h4, h5⟩ := h
  intro l hl
  obtain ⟨i, hi, rfl⟩ := List.mem_iff_getElem.1 hl
  have := h4 i hi
  rw [show L.getD i [] = L[i] by simp [List.getD, hi]] at this
  exact bytes_mem this.bytes
theorem flat_mem {L : List (List Int)} (h : ∀ l ∈ L, ∀ x ∈ l, 0 ≤ x ∧ x < 256) : ∀ x ∈ L.flatten, 0 ≤ x ∧ x < 256 := by
  intro x hx
  obtain ⟨l, hl, hx⟩ := List.mem_flatten.1 hx
  exact h l hl x hx
theorem hdr_mem (n : Nat) (L : List (List Int)) (h : n + dat L < 65536) : ∀ x ∈ hdr n L, 0 ≤ x ∧ x < 256 := by
  induction L generalizing n with
  | nil => intro x hx; simp [hdr] at hx
  | cons l r ih =>
    rw [dat_cons] at h
    intro x hx
    simp only [hdr, List.mem_cons] at hx
    rcases hx with rfl | rfl | hx
    · omega
    · omega
    · exact ih (n + l.length) (by omega) x hx
/-- What is written ahead of the records, so far. -/
def pre (L : List (List Int)) (k : Nat) : List Int := (L.length : Int) :: 0 :: hdr 0 (L.take k)
theorem pre_snoc (L : List (List Int)) (k : Nat) (h : k < L.length) : pre L (k + 1) = pre L k ++ [((dat (L.take (k + 1)) % 256 : Nat) : Int), ((dat (L.take (k + 1)) / 256 : Nat) : Int)] := by
  have h1 := dat_take_succ L k h
  have e : L.getD k [] = L[k] := by simp [List.getD, h]
  unfold pre
  rw [List.take_succ_eq_append_getElem h, hdr_snoc, ← List.take_succ_eq_append_getElem h, h1, e, Nat.zero_add]
  rfl
theorem flat_snoc (L : List (List Int)) (k : Nat) (h : k < L.length) : (L.take (k + 1)).flatten = (L.take k).flatten ++ L.getD k [] := by
  have e : L.getD k [] = L[k] := by simp [List.getD, h]
  rw [List.take_succ_eq_append_getElem h, e, List.flatten_append, List.flatten_cons, List.flatten_nil, List.append_nil]
theorem packed_mem {L : List (List Int)} (hm : ∀ l ∈ L, ∀ x ∈ l, 0 ≤ x ∧ x < 256) (h : dat L ≤ 480) (hl : L.length ≤ 16) : ∀ x ∈ packL L, 0 ≤ x ∧ x < 256 := by
  intro x hx
  unfold packL at hx
  rcases List.mem_append.1 hx with hx | hx
  · simp only [List.mem_cons] at hx
    rcases hx with rfl | rfl | hx
    · omega
    · omega
    · exact hdr_mem 0 L (by omega) x hx
  · exact flat_mem hm x hx

end Go.Proofs.Ytbjdlfeipidlbaa.Rec
