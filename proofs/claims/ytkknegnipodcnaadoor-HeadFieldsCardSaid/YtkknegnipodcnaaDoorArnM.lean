/- Plain mathematics of arenas: what each call answers, and which bytes there are behind it. -/
import Derived.Test.YtkknegnipodcnaaDoorKit11
import Derived.Test.YtkknegnipodcnaaDoorNumE
namespace Go.Proofs.YtkknegnipodcnaaDoor.Arn
open Go.RowKit Num
set_option linter.unusedVariables false

theorem size_alloc (w : World) (o : Obj) : (w.alloc o).heap.size = w.heap.size + 1 := Array.size_push _
theorem wrap_id {n : Int} (h1 : -9223372036854775808 ≤ n) (h2 : n ≤ 9223372036854775807) : IntKind.i64.wrap n = n := by simp [IntKind.wrap, IntKind.bits, IntKind.signed]; omega
theorem ret_ints {a b c d : Int} (h1 : a = c) (h2 : b = d) : Ending.returned (.tuple #[.int .i64 a, .int .i64 b]) = .returned (.tuple #[.int .i64 c, .int .i64 d]) := by rw [h1, h2]
theorem drewN_more {w wr : World} (h : ∃ m, wr = w.drewN m) (n : Nat) : ∃ m, wr.drewN n = w.drewN m := by
  obtain ⟨m, rfl⟩ := h
  exact ⟨m + n, World.drewN_drewN _ _ _⟩
theorem below_drawn {B : Nat} {a w w' : World} (h : Below B a w) (hm : ∃ m, w' = w.drewN m) : Below B a w' := by
  obtain ⟨m, rfl⟩ := hm
  exact below_drewN h m
/-- May an arena have so many bytes? -/
def mayN (n : Int) : Bool := decide (16 ≤ n) && (decide (n ≤ 1048576) && decide (n % 16 = 0))
theorem mayN_bd {n : Int} (h : mayN n = true) : 16 ≤ n ∧ n ≤ 1048576 ∧ n % 16 = 0 := by simpa [mayN, and_assoc] using h
/-- Whether a part fits into n bytes. -/
def fitB (n : Nat) (a m : Int) : Bool := decide (0 ≤ a) && (decide (0 ≤ m) && (decide (a ≤ n) && decide (m ≤ (n : Int) - a)))
theorem fitB_bd {n : Nat} {a m : Int} (h : fitB n a m = true) : 0 ≤ a ∧ 0 ≤ m ∧ a ≤ n ∧ m ≤ (n : Int) - a := by simpa [fitB, and_assoc] using h
theorem fitB_nat {n : Nat} {a m : Int} (h : fitB n a m = true) : ∃ x y : Nat, a = x ∧ m = y ∧ x + y ≤ n := by
  obtain ⟨h1, h2, h3, h4⟩ := fitB_bd h
  exact ⟨a.toNat, m.toNat, by omega, by omega, by omega⟩
theorem fitB_of {n x y : Nat} (h : x + y ≤ n) : fitB n x y = true := by simp [fitB]; omega
theorem fitB_not {n : Nat} {a m : Int} (h : fitB n a m = false) : ¬ (0 ≤ a ∧ 0 ≤ m ∧ a ≤ n ∧ m ≤ (n : Int) - a) := by
  intro h2
  have : fitB n a m = true := by simp [fitB]; omega
  rw [h] at this
  cases this

/-- Bytes written over others. -/
def wrL (l : List Int) (a : Nat) (b : List Int) : List Int := l.take a ++ (b ++ l.drop (a + b.length))
theorem wrL_length (l : List Int) (a : Nat) (b : List Int) (h : a + b.length ≤ l.length) : (wrL l a b).length = l.length := by
  simp [wrL]; omega
theorem wrL_one (l : List Int) (a : Nat) (x : Int) (h : a < l.length) : wrL l a [x] = l.set a x := by
  unfold wrL
  rw [List.set_eq_take_append_cons_drop, if_pos h]
  rfl
def IsBytes (l : List Int) : Prop := ∀ i, 0 ≤ l.getD i 0 ∧ l.getD i 0 < 256
theorem IsBytes.mem {l : List Int} (h : IsBytes l) {x : Int} (hx : x ∈ l) : 0 ≤ x ∧ x < 256 := by
  obtain ⟨i, hi, rfl⟩ := List.getElem_of_mem hx
  have := h i
  simpa [List.getD, hi] using this
theorem IsBytes.of_mem {l : List Int} (h : ∀ x ∈ l, 0 ≤ x ∧ x < 256) : IsBytes l := by
  intro i
  by_cases hi : i < l.length
  · have := h _ (List.getElem_mem hi)
    simpa [List.getD, hi] using this
  · simp [List.getD, List.getElem?_eq_none (show l.length ≤ i by omega)]
theorem wrL_bytes {l b : List Int} (a : Nat) (hl : IsBytes l) (hb : IsBytes b) : IsBytes (wrL l a b) := by
  refine IsBytes.of_mem fun x hx => ?_
  simp only [wrL, List.mem_append] at hx
  rcases hx with hx | hx | hx
  · exact hl.mem (List.mem_of_mem_take hx)
  · exact hb.mem hx
  · exact hl.mem (List.mem_of_mem_drop hx)
theorem part_bytes {l : List Int} (a n : Nat) (hl : IsBytes l) : IsBytes ((l.drop a).take n) :=
  IsBytes.of_mem fun x hx => hl.mem (List.mem_of_mem_drop (List.mem_of_mem_take hx))
theorem zeros_bytes (n : Nat) : IsBytes (List.replicate n 0) :=
  IsBytes.of_mem fun x hx => by
    have := List.eq_of_mem_replicate hx
    omega

/-- The bytes behind a call, and its error. -/
def putA (l : List Int) (a x v : Int) : List Int × Int := if ste l a x v = 0 then (stl l a.toNat x.toNat v, 0) else (l, ste l a x v)
def wriA (l : List Int) (a : Int) (b : List Int) : List Int × Int := if fitB l.length a b.length then (wrL l a.toNat b, 0) else (l, 6)
def zerA (l : List Int) (a n : Int) : List Int × Int := if fitB l.length a n then (wrL l a.toNat (List.replicate n.toNat 0), 0) else (l, 6)
def movA (l : List Int) (f t n : Int) : List Int × Int := if fitB l.length f n && fitB l.length t n then (wrL l t.toNat ((l.drop f.toNat).take n.toNat), 0) else (l, 6)
/-- What is read. -/
def reaA (l : List Int) (a n : Int) : List Int × Int := if fitB l.length a n then ((l.drop a.toNat).take n.toNat, 0) else ([], 6)
/-- Whether bytes lie somewhere among others. -/
def hasA (l b : List Int) : Bool := (List.range (l.length + 1 - b.length)).any fun i => (l.drop i).take b.length == b

theorem ste_zero {l : List Int} {a x v : Int} (h : ste l a x v = 0) : ∃ m n : Nat, a = m ∧ x = n ∧ m + n ≤ l.length ∧ n ≤ 8 := by
  unfold ste at h
  split at h
  · rename_i hf
    have hw : isW x = true := by simp [fits] at hf; exact hf.1
    obtain ⟨b1, b2⟩ := isW_bd hw
    obtain ⟨p1, p2, p3⟩ := plc_ok h
    exact ⟨a.toNat, x.toNat, by omega, by omega, by omega, by omega⟩
  · omega
theorem putA_length (l : List Int) (a x v : Int) : (putA l a x v).1.length = l.length := by
  unfold putA
  split
  · rename_i h
    obtain ⟨m, n, rfl, rfl, h1, h2⟩ := ste_zero h
    exact stl_length _ _ _ _ (by simpa using h1) (by simpa using h2)
  · rfl
theorem wriA_length (l : List Int) (a : Int) (b : List Int) : (wriA l a b).1.length = l.length := by
  unfold wriA
  split
  · rename_i h
    obtain ⟨x, y, rfl, hy, h1⟩ := fitB_nat h
    exact wrL_length _ _ _ (by simp only [Int.toNat_natCast]; omega)
  · rfl
theorem zerA_length (l : List Int) (a n : Int) : (zerA l a n).1.length = l.length := by
  unfold zerA
  split
  · rename_i h
    obtain ⟨x, y, rfl, rfl, h1⟩ := fitB_nat h
    exact wrL_length _ _ _ (by simp only [Int.toNat_natCast, List.length_replicate]; omega)
  · rfl
theorem movA_length (l : List Int) (f t n : Int) : (movA l f t n).1.length = l.length := by
  unfold movA
  split
  · rename_i h
    simp only [Bool.and_eq_true] at h
    obtain ⟨x, y, rfl, rfl, h1⟩ := fitB_nat h.1
    obtain ⟨z, y', rfl, hy, h2⟩ := fitB_nat h.2
    exact wrL_length _ _ _ (by simp only [Int.toNat_natCast, List.length_take, List.length_drop]; omega)
  · rfl
theorem putA_bytes {l : List Int} {a x v : Int} (hl : IsBytes l) (h0 : 0 ≤ v) (h1 : v < 18446744073709551616) : IsBytes (putA l a x v).1 := by
  unfold putA
  split
  · exact stl_bd _ _ _ _ h0 h1 hl
  · exact hl
theorem wriA_bytes {l : List Int} {a : Int} {b : List Int} (hl : IsBytes l) (hb : IsBytes b) : IsBytes (wriA l a b).1 := by
  unfold wriA
  split
  · exact wrL_bytes _ hl hb
  · exact hl
theorem zerA_bytes {l : List Int} {a n : Int} (hl : IsBytes l) : IsBytes (zerA l a n).1 := by
  unfold zerA
  split
  · exact wrL_bytes _ hl (zeros_bytes _)
  · exact hl
theorem movA_bytes {l : List Int} {f t n : Int} (hl : IsBytes l) : IsBytes (movA l f t n).1 := by
  unfold movA
  split
  · exact wrL_bytes _ hl (part_bytes _ _ hl)
  · exact hl
end Go.Proofs.YtkknegnipodcnaaDoor.Arn
