/- The contract of the landed Runs; all of layout. -/
import Derived.Test.YtemkmkkpamhfoaaDoorLayX
namespace Go.Proofs.YtemkmkkpamhfoaaDoor.Lay
open Go.RowKit
set_option linter.unusedVariables false

/-- The first k parts that have bytes. -/
def keepT (P : List (Nat × Nat × Nat)) (k : Nat) : List (Nat × Nat × Nat) := (P.take k).filter fun r => decide (0 < r.2.1)
theorem keepT_zero (P : List (Nat × Nat × Nat)) : keepT P 0 = [] := by simp [keepT]
theorem keepT_succ (P : List (Nat × Nat × Nat)) (k : Nat) (h : k < P.length) : keepT P (k + 1) = if 0 < (P.getD k (0, 0, 0)).2.1 then keepT P k ++ [P.getD k (0, 0, 0)] else keepT P k := by
  have e : P.getD k (0, 0, 0) = P[k] := by simp [List.getD, h]
  unfold keepT
  rw [e, List.take_succ_eq_append_getElem h, List.filter_append]
  split <;> simp_all
theorem keepT_length (P : List (Nat × Nat × Nat)) (k : Nat) : (keepT P k).length ≤ k := by
  have h1 := List.length_filter_le (fun r : Nat × Nat × Nat => decide (0 < r.2.1)) (P.take k)
  have h2 := List.length_take_le k P
  unfold keepT
  omega
theorem keepT_all (s n : Int) : keepT (partC s n) 6 = runsC s n := by
  have hl := partC_len s n
  unfold keepT
  rw [List.take_of_length_le (by omega)]
  by_cases h : rightC s n = true
  · rw [partC, if_pos h, runsC, if_pos h]
    obtain ⟨S, N, rfl, rfl, b1, b2, b3, b4, b5⟩ := right_nat h
    rw [Int.toNat_natCast, Int.toNat_natCast]
    have hp := pad_two (s := S) b3
    have g1 : 0 < S := by omega
    have g2 : 0 < N := by omega
    have g3 : S ≠ 0 := by omega
    have g4 : N ≠ 0 := by omega
    rcases hp with ⟨h1, h2⟩ | ⟨h1, h2⟩
    · simp [partT, runsT, h2, List.filter, g1, g2]
    · simp [partT, runsT, h2, List.filter, g1, g2]
  · rw [partC, if_neg h, runsC, if_neg h]
    rfl
theorem news_row (w : World) (x : Nat × Nat × Nat) (g : Nat) (hg : g = w.heap.size) (e : TypeId) : ∀ j u, (encR x)[j]? = some u → (w.alloc (.cells #[.int .i64 (x.1 : Int), .int .i64 (x.2.1 : Int), .int .i64 (x.2.2 : Int)] e)).cell? ((⟨g, 0, none⟩ : Addr).add j) = some u :=
  news_three_at w g hg (x.1 : Int) (x.2.1 : Int) (x.2.2 : Int) e

set_option maxRecDepth 100000 in
set_option maxHeartbeats 2000000 in
theorem runs_any (s n : Int) (w : World) (ht : Cls.Tab w) (s1 : -9223372036854775808 ≤ s) (s2 : s ≤ 9223372036854775807) (n1 : -9223372036854775808 ≤ n) (n2 : n ≤ 9223372036854775807) :
    Calls Tryd.prog 17 #[.agg #[.int .i64 s, .int .i64 n]] w (RGot w (runsC s n)) := by
  obtain ⟨i0, hi, hz0, hz1, hz2⟩ := info_parts infoRun
  obtain ⟨P, hP, hl, HP⟩ := parts_on s n w ht s1 s2 n1 n2
  rw [← keepT_all s n, ← hP]
  obtain ⟨c1, c2, hlt1, hb⟩ := one_box (Below.refl (W1 w s n).heap.size (W1 w s n))
  unfold W1 at c1 c2 hlt1 hb
  have HI := Lib.hid (fun (k : Nat) (hk : k < 6) x1 x2 x3 he u => index_part P hl (k : Int) k rfl hk x1 x2 x3 he u)
  clear ht s1 s2 n1 n2 hP
  go_enter Tryd.func17, Tryd.ntmps17
  go_wp2_with (go_at_call 29; refine (HP.out _ hb).mono ?_; rintro e w1 ⟨rfl, hw1⟩)
  go_loopw [3, 8] (fun v i wr => ∃ (k : Nat) (K : List (Nat × Nat × Nat)), k ≤ 6 ∧ i = .int .i64 k ∧ Hid (K = keepT P k) ∧ Hid (wr.ownsRow w.heap.size 35 3 v K.length (valsA encR K)) ∧ Hid (Below w.heap.size w wr)) (fun _ i _ => 6 - (intOf i).toNat)
  case atStart => exact ⟨0, [], Nat.zero_le _, rfl, (keepT_zero P).symm, ⟨rfl, .inl ⟨rfl, rfl⟩⟩, hw1⟩
  case round =>
    obtain ⟨k, K, hk, rfl, HK, HO, HB⟩ := hrel
    by_cases hlt : k < 6
    · have hlt1 : (k : Int) < 6 := by omega
      have hsu := keepT_succ P k (by omega)
      have hkl := keepT_length P k
      obtain ⟨x, hx⟩ : ∃ x, x = P.getD k (0, 0, 0) := ⟨_, rfl⟩
      rw [← hx, ← HK.out] at hsu
      rw [← HK.out] at hkl
      obtain ⟨x1, x2, x3⟩ := x
      have hix := HI.out k hlt x1 x2 x3 hx.symm
      by_cases hp : 0 < x2
      · have hp1 : (0 : Int) < (x2 : Int) := by omega
        rw [if_pos hp] at hsu
        have HSU := Lib.hid hsu
        clear hsu hx
        go_wp2_with (at_builtin; refine wpList_append_own _ rfl (.tmp 14) (.tmp 16) 27 rfl w.heap.size 35 i0 (.agg #[.int .i64 0, .int .i64 0, .int .i64 0]) 3 24 Tryd.underlying27 hi hz0 hz1 hz2 rfl (by decide) _ _ _ rfl ((HO.out.alloc _).alloc _) ⟨wr.heap.size + 1, 0, none⟩ 1 1 [.int .i64 (x1 : Int), .int .i64 (x2 : Int), .int .i64 (x3 : Int)] rfl rfl (news_three_at _ _ (size_alloc _ _).symm _ _ _ _) (oneCell_three _ _ _) (by unfold maxLen; omega) (by omega) (by have := HB.out.size; simp; omega) ?_)
        intro v3 w3 hown3 hgrow3 _
        have HB3 := Lib.hid (((HB.out.alloc HB.out.size (.cells #[.int .i64 (x1 : Int), .int .i64 (x2 : Int), .int .i64 (x3 : Int)] 35)).alloc (le_alloc _ HB.out.size) (.cells #[.int .i64 (x1 : Int), .int .i64 (x2 : Int), .int .i64 (x3 : Int)] 35)).grown hgrow3 (by have := HB.out.size; simp; omega) (fun r hr => (HO.out.lt r hr).1))
        have HO3 : Hid (w3.ownsRow w.heap.size 35 3 v3 (K ++ [(x1, x2, x3)]).length (valsA encR (K ++ [(x1, x2, x3)]))) := by
          unfold Hid
          rw [valsA_snoc, List.length_append]
          exact hown3
        have HSU2 := Lib.hid HSU.out.symm
        clear hown3 hgrow3 HSU HO HB
        go_wp2
        go_roundw
        case rel => exact ⟨k + 1, K ++ [(x1, x2, x3)], by omega, by go_num, HSU2, HO3, HB3⟩
        case measure => simp [intOf]; omega
      · have hp1 : ¬ (0 : Int) < (x2 : Int) := by omega
        rw [if_neg hp] at hsu
        have HSU := Lib.hid hsu.symm
        have HO1 := Lib.hid (HO.out.alloc (.cells #[.int .i64 (x1 : Int), .int .i64 (x2 : Int), .int .i64 (x3 : Int)] 35))
        have HB1 := Lib.hid (HB.out.alloc HB.out.size (.cells #[.int .i64 (x1 : Int), .int .i64 (x2 : Int), .int .i64 (x3 : Int)] 35))
        clear hsu hx
        go_wp2
        go_roundw
        case rel => exact ⟨k + 1, K, by omega, by go_num, HSU, HO1, HB1⟩
        case measure => simp [intOf]; omega
    · obtain rfl : k = 6 := by omega
      go_wp2
      go_ret
      have := HK.out
      subst this
      exact ⟨_, rfl, HB.out, arow_of_owns encR_length _ HO.out rfl⟩

theorem does : Does Cls.Tab where
  keep := fun w w' hb h => tab_keep hb h
  right := fun s n w ht _ _ _ _ => right_any s n w ht
  size := fun s n w ht s1 s2 n1 n2 => size_any s n w ht s1 s2 n1 n2
  base := fun s n w ht s1 s2 n1 n2 => base_any s n w ht s1 s2 n1 n2
  most := fun s n w ht s1 s2 n1 n2 => most_any s n w ht s1 s2 n1 n2
  headAt := fun s n i w ht s1 s2 n1 n2 i1 i2 => headAt_any s n i w ht s1 s2 n1 n2 i1 i2
  slotAt := fun s n i w ht s1 s2 n1 n2 i1 i2 => slotAt_any s n i w ht s1 s2 n1 n2 i1 i2
  slabAt := fun s n i w ht s1 s2 n1 n2 i1 i2 => slabAt_any s n i w ht s1 s2 n1 n2 i1 i2
  slab := fun s n a w ht s1 s2 n1 n2 i1 i2 => slab_any s n a w ht s1 s2 n1 n2 i1 i2
  runs := fun s n w ht s1 s2 n1 n2 => runs_any s n w ht s1 s2 n1 n2
end Go.Proofs.YtemkmkkpamhfoaaDoor.Lay
