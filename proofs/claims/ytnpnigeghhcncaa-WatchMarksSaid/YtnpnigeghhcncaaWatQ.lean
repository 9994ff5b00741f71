/- What a mark does to kinds; what begins each walk. -/
import Derived.Test.YtnpnigeghhcncaaWatV
import Derived.Test.YtnpnigeghhcncaaKit4
import Derived.Deep.Quiet
namespace Go.Proofs.Ytnpnigeghhcncaa.Wat
open Go.RowKit Num Arn
set_option linter.unusedVariables false

theorem kndS_one (v : Int) : kndS [v] = v := by
  have : ∀ j, j < [v].length → [v].getD j 0 = [v].getD 0 0 := fun j hj => by
    obtain rfl : j = 0 := by simpa using hj
    rfl
  rw [kndS, if_pos ⟨by simp, this⟩]
  rfl
theorem kndS_rep (q : Nat) (k : Int) (h : 0 < q) : kndS (List.replicate q k) = k := by
  have hg : ∀ j, j < q → (List.replicate q k).getD j 0 = k := fun j hj => by simp [List.getD, hj]
  rw [kndS, if_pos ⟨by simp; omega, fun j hj => by rw [List.length_replicate] at hj; rw [hg j hj, hg 0 h]⟩, hg 0 h]
theorem kndA_one (x : List Int) (t : Int) : kndA x t 1 = if 0 ≤ t ∧ t < x.length then x.getD t.toNat 0 else 0 := by
  unfold kndA
  by_cases h : 0 ≤ t ∧ t < x.length
  · obtain ⟨p, rfl⟩ := Int.eq_ofNat_of_zero_le h.1
    have hp : p < x.length := by omega
    rw [if_pos h, if_pos (show fitB x.length (p : Int) 1 = true from fitB_of (x := p) (y := 1) (by omega)), Int.toNat_natCast, show (1 : Int).toNat = 1 from rfl]
    have e : (x.drop p).take 1 = [x.getD p 0] := by
      rw [List.drop_eq_getElem_cons hp, List.take_succ_cons, List.take_zero]
      simp [List.getD, hp]
    rw [e, kndS_one]
  · rw [if_neg h, if_neg]
    intro hf
    obtain ⟨h1, -, -, h2⟩ := fitB_bd hf
    omega
theorem wrL_get (x M : List Int) (a t : Nat) (h : a + M.length ≤ x.length) : (wrL x a M).getD t 0 = if a ≤ t ∧ t < a + M.length then M.getD (t - a) 0 else x.getD t 0 := by
  unfold wrL List.getD
  rw [List.getElem?_append, List.length_take, Nat.min_eq_left (by omega), List.getElem?_append]
  split
  · rw [if_neg (by omega), List.getElem?_take_of_lt (by omega)]
  · split
    · rw [if_pos (by omega)]
    · rw [if_neg (by omega), List.getElem?_drop, show a + M.length + (t - a - M.length) = t by omega]
theorem rep_get (q j : Nat) (k : Int) (h : j < q) : (List.replicate q k).getD j 0 = k := by simp [List.getD, h]
theorem wrL_part (x M : List Int) (a : Nat) (h : a + M.length ≤ x.length) : ((wrL x a M).drop a).take M.length = M := by
  unfold wrL
  rw [List.drop_append_of_le_length (by rw [List.length_take]; omega), List.drop_eq_nil_of_le (by rw [List.length_take]; omega), List.nil_append, List.take_left]
theorem mrk_err {x : List Int} {a m k : Int} (h : (mrkA x a m k).2 ≠ 0) : (mrkA x a m k).1 = x := by
  unfold mrkA at h ⊢
  split
  · rfl
  · split
    · rfl
    · split
      · rfl
      · rename_i h1 h2 h3
        rw [if_neg h1, if_neg h2, if_neg h3] at h
        exact absurd rfl h
theorem mrk_ok {x : List Int} {a m k : Int} (h : (mrkA x a m k).2 = 0) : ∃ p q : Nat, a = p ∧ m = q ∧ p + q ≤ x.length ∧ (mrkA x a m k).1 = wrL x p (List.replicate q k) ∧ 0 ≤ k ∧ k ≤ 8 := by
  unfold mrkA at h ⊢
  split at h
  · simp at h
  · rename_i h1
    split at h
    · simp at h
    · rename_i h2
      split at h
      · simp at h
      · rename_i h3
        obtain ⟨p, q, rfl, rfl, hpq⟩ := fitB_nat (by simpa using h2 : fitB x.length a m = true)
        refine ⟨p, q, rfl, rfl, hpq, ?_, by omega, by omega⟩
        rw [if_neg h1, if_neg h2, if_neg h3]
        rfl
theorem mark_in {x : List Int} {p q : Nat} {k t : Int} (h : p + q ≤ x.length) (h1 : (p : Int) ≤ t) (h2 : t < (p : Int) + q) : kndA (wrL x p (List.replicate q k)) t 1 = k := by
  obtain ⟨s, rfl⟩ := Int.eq_ofNat_of_zero_le (show 0 ≤ t by omega)
  rw [kndA_one, wrL_length _ _ _ (by rw [List.length_replicate]; exact h), if_pos (by omega), Int.toNat_natCast, wrL_get _ _ _ _ (by rw [List.length_replicate]; exact h), List.length_replicate, if_pos (by omega), rep_get _ _ _ (by omega)]
theorem mark_out {x : List Int} {p q : Nat} {k t : Int} (h : p + q ≤ x.length) (h1 : ¬ ((p : Int) ≤ t ∧ t < (p : Int) + q)) : kndA (wrL x p (List.replicate q k)) t 1 = kndA x t 1 := by
  rw [kndA_one, kndA_one, wrL_length _ _ _ (by rw [List.length_replicate]; exact h)]
  split
  · rename_i ht
    obtain ⟨s, rfl⟩ := Int.eq_ofNat_of_zero_le ht.1
    rw [Int.toNat_natCast, wrL_get _ _ _ _ (by rw [List.length_replicate]; exact h), List.length_replicate, if_neg (by omega)]
  · rfl
theorem mark_all {x : List Int} {p q : Nat} {k : Int} (h : p + q ≤ x.length) (hq : 0 < q) : kndA (wrL x p (List.replicate q k)) p q = k := by
  have hl := wrL_length x p (List.replicate q k) (by rw [List.length_replicate]; exact h)
  have hp := wrL_part x (List.replicate q k) p (by rw [List.length_replicate]; exact h)
  rw [List.length_replicate] at hp
  rw [kndA, if_pos (by rw [hl]; exact fitB_of h), Int.toNat_natCast, Int.toNat_natCast, hp, kndS_rep _ _ hq]

/-- The act that was read, in a block of its own. -/
def Box (w : World) (N : Nat) (x : Act) : Prop := w.heap[N]? = some (.cells #[.int .i64 x.k, .int .i64 x.at_, .int .i64 x.n, .int .i64 x.o] 29 (0, 0))
theorem Box.made (w : World) (x : Act) : Box (w.alloc (.cells #[.int .i64 x.k, .int .i64 x.at_, .int .i64 x.n, .int .i64 x.o] 29)) w.heap.size x := heap_alloc_new _ _
theorem Box.lt {w : World} {N : Nat} {x : Act} (h : Box w N x) : N < w.heap.size := lt_of_block h
theorem Box.below {w w' : World} {N : Nat} {x : Act} (h : Box w N x) (hb : Below w.heap.size w w') : Box w' N x := (hb.block N h.lt).trans h
theorem Box.fr {w w' : World} {N M : Nat} {x : Act} {T : Nat → Prop} (h : Box w N x) (hf : Fr M T w w') (h1 : N < M) (h2 : ¬ T N) : Box w' N x := (hf.block N h1 h2).trans h
theorem Box.cells {w : World} {N : Nat} {k a n o : Int} (h : Box w N ⟨k, a, n, o⟩) : w.cell? ⟨N, 0, none⟩ = some (.int .i64 k) ∧ w.cell? ⟨N, 1, none⟩ = some (.int .i64 a) ∧ w.cell? ⟨N, 2, none⟩ = some (.int .i64 n) ∧ w.cell? ⟨N, 3, none⟩ = some (.int .i64 o) :=
  ⟨(cell_block h 0).trans rfl, (cell_block h 1).trans rfl, (cell_block h 2).trans rfl, (cell_block h 3).trans rfl⟩

theorem watchesW (w : World) : ∀ W, Below w.heap.size w W → Calls Try.prog 8 #[] W fun e w' => e = .returned (.bool true) ∧ Below w.heap.size w w' := fun W hb => by
  refine (watches_any W).mono ?_
  rintro e w' ⟨rfl, hb'⟩
  exact ⟨rfl, hb.trans (hb'.mono hb.size)⟩
end Go.Proofs.Ytnpnigeghhcncaa.Wat
