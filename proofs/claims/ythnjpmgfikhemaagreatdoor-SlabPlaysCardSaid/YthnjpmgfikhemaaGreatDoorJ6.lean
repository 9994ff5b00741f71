/- Plain mathematics of where the parts of an arena lie. Contracts of the document's functions on the layout. Contracts of the document's functions on the layout: places. What is asked of layout's functions; lies; the walks of the statements. -/
import Derived.Test.YthnjpmgfikhemaaGreatDoorJ1
import Derived.Test.YthnjpmgfikhemaaGreatDoorRows
import Derived.Deep.RegionHeld3
namespace Go.Proofs.YthnjpmgfikhemaaGreatDoor.Lay
open Go.RowKit

def rightC (s n : Int) : Bool := decide (7 ≤ s ∧ s ≤ 64 ∧ n % 2 = 0 ∧ 32 * s ≤ n ∧ n ≤ 8192)
/-- Where the slots begin, where they end, the padding, where the slabs begin, and how many bytes there are: of s slabs and n slots. -/
def slT (s : Nat) : Nat := 128 + 16 * s
def endT (s n : Nat) : Nat := 128 + 16 * s + 4 * n
def padT (s n : Nat) : Nat := if endT s n % 16 = 0 then 0 else 8
def baseT (s n : Nat) : Nat := endT s n + padT s n
def sizeT (s n : Nat) : Nat := baseT s n + 1024 * s
theorem right_out {s n : Int} (h : rightC s n = true) : 7 ≤ s ∧ s ≤ 64 ∧ n % 2 = 0 ∧ 32 * s ≤ n ∧ n ≤ 8192 := by simpa [rightC] using h
theorem right_nat {s n : Int} (h : rightC s n = true) : ∃ S N : Nat, s = S ∧ n = N ∧ 7 ≤ S ∧ S ≤ 64 ∧ N % 2 = 0 ∧ 32 * S ≤ N ∧ N ≤ 8192 := by
  have := right_out h
  exact ⟨s.toNat, n.toNat, by omega, by omega, by omega, by omega, by omega, by omega, by omega⟩
theorem pad_two {s n : Nat} (h : n % 2 = 0) : (endT s n % 16 = 0 ∧ padT s n = 0) ∨ (endT s n % 16 = 8 ∧ padT s n = 8) := by
  unfold padT endT
  by_cases e : (128 + 16 * s + 4 * n) % 16 = 0
  · exact .inl ⟨e, by rw [if_pos e]⟩
  · exact .inr ⟨by omega, by rw [if_neg e]⟩
theorem base_sixteen {s n : Nat} (h : n % 2 = 0) : baseT s n % 16 = 0 ∧ endT s n ≤ baseT s n ∧ baseT s n ≤ endT s n + 8 := by
  unfold baseT
  rcases pad_two (s := s) h with ⟨h1, h2⟩ | ⟨h1, h2⟩ <;> omega
def baseC (s n : Int) : Nat := if rightC s n then baseT s.toNat n.toNat else 0
def sizeC (s n : Int) : Nat := if rightC s n then sizeT s.toNat n.toNat else 0
def headC (s n i : Int) : Nat := if rightC s n = true ∧ 0 ≤ i ∧ i < s then 128 + 16 * i.toNat else 0
def slabC (s n i : Int) : Nat := if rightC s n = true ∧ 0 ≤ i ∧ i < s then baseT s.toNat n.toNat + 1024 * i.toNat else 0
def inC (s n a : Int) : Nat × Bool := if rightC s n = true ∧ (baseT s.toNat n.toNat : Int) ≤ a ∧ a < (sizeT s.toNat n.toNat : Int) then (((a - baseT s.toNat n.toNat) / 1024).toNat, true) else (0, false)
def runsT (s n : Nat) : List (Nat × Nat × Nat) := [(0, 8, 1), (8, 120, 2), (128, 16 * s, 3), (slT s, 4 * n, 4)] ++ (if padT s n = 0 then [] else [(endT s n, 8, 8)]) ++ [(baseT s n, 1024 * s, 7)]
def runsC (s n : Int) : List (Nat × Nat × Nat) := if rightC s n then runsT s.toNat n.toNat else []
def encR (r : Nat × Nat × Nat) : List Value := [.int .i64 (r.1 : Int), .int .i64 (r.2.1 : Int), .int .i64 (r.2.2 : Int)]
theorem encR_length (r : Nat × Nat × Nat) : (encR r).length = 3 := rfl
end Go.Proofs.YthnjpmgfikhemaaGreatDoor.Lay

namespace Go.Proofs.YthnjpmgfikhemaaGreatDoor.Lay
open Go.RowKit
set_option linter.unusedVariables false

theorem below_made (w : World) (o : Obj) : Below w.heap.size w (w.alloc o) := (Below.refl _ _).alloc (Nat.le_refl _) _
theorem size_alloc (w : World) (o : Obj) : (w.alloc o).heap.size = w.heap.size + 1 := Array.size_push _
theorem wrap_id {n : Int} (h1 : -9223372036854775808 ≤ n) (h2 : n ≤ 9223372036854775807) : IntKind.i64.wrap n = n := by simp [IntKind.wrap, IntKind.bits, IntKind.signed]; omega
theorem tmod_two (n : Int) : n.tmod 2 = 0 ↔ n % 2 = 0 := by
  constructor
  · intro h
    exact Int.emod_eq_zero_of_dvd (Int.dvd_of_tmod_eq_zero h)
  · intro h
    exact Int.tmod_eq_zero_of_dvd (Int.dvd_of_emod_eq_zero h)

set_option maxRecDepth 100000 in
theorem refRight_any (s n : Int) (w : World) : Calls Tryz.prog 89 #[.agg #[.int .i64 s, .int .i64 n]] w fun e w' => e = .returned (.bool (rightC s n)) ∧ Below w.heap.size w w' := by
  go_enter Tryz.func89, Tryz.ntmps89
  go_wp2
  all_goals
    go_ret
    refine ⟨ret_bool ?_, below_made _ _⟩
    unfold rightC
    rw [Bool.eq_iff_iff]
    have hT := tmod_two n
    simp
    omega

theorem infoRun : (Tryz.prog.info? 92).map (fun i => (i.zero, i.size, i.bytes)) = some (some (.agg #[.int .i64 0, .int .i64 0, .int .i64 0]), 3, 24) := by kernel_rfl
/-- The config that a call lays for itself. -/
def W1 (w : World) (s n : Int) : World := w.alloc (.cells #[.int .i64 s, .int .i64 n] 25)
theorem one_box {w w1 : World} {s n : Int} (h : Below (W1 w s n).heap.size (W1 w s n) w1) : w1.cell? ⟨w.heap.size, 0, none⟩ = some (.int .i64 s) ∧ w1.cell? ⟨w.heap.size, 1, none⟩ = some (.int .i64 n) ∧ w.heap.size < w1.heap.size ∧ Below w.heap.size w w1 := by
  have s1 := size_alloc w (.cells #[.int .i64 s, .int .i64 n] 25)
  have e0 : w1.heap[w.heap.size]? = some (.cells #[.int .i64 s, .int .i64 n] 25 (0, 0)) := by
    rw [h.block _ (by unfold W1; omega)]
    exact heap_alloc_new _ _
  refine ⟨by rw [cell_block e0]; rfl, by rw [cell_block e0]; rfl, by have := h.size; unfold W1 at this; omega, ?_⟩
  exact (below_made w _).trans (h.mono (by unfold W1; omega))
theorem news_three (w : World) (x y z : Int) (e : TypeId) : ∀ j u, [Value.int .i64 x, .int .i64 y, .int .i64 z][j]? = some u → (w.alloc (.cells #[.int .i64 x, .int .i64 y, .int .i64 z] e)).cell? ((⟨w.heap.size, 0, none⟩ : Addr).add j) = some u := by
  intro j u hj
  rw [Addr_add, Nat.zero_add, cell_block (heap_alloc_new w _)]
  simpa using hj
theorem news_three_at (w : World) (g : Nat) (hg : g = w.heap.size) (x y z : Int) (e : TypeId) : ∀ j u, [Value.int .i64 x, .int .i64 y, .int .i64 z][j]? = some u → (w.alloc (.cells #[.int .i64 x, .int .i64 y, .int .i64 z] e)).cell? ((⟨g, 0, none⟩ : Addr).add j) = some u := by
  subst hg
  exact news_three w x y z e
theorem oneCell_three (x y z : Int) : ∀ u ∈ [Value.int .i64 x, .int .i64 y, .int .i64 z], u.oneCell' = true := by
  intro u hu
  simp at hu
  rcases hu with rfl | rfl | rfl <;> rfl
theorem runs_three (w : World) (a : Int) (B : Nat) (hB : B ≤ w.heap.size) : (w.alloc (.cells #[.int .i64 0, .int .i64 8, .int .i64 1, .int .i64 8, .int .i64 120, .int .i64 2, .int .i64 128, .int .i64 a, .int .i64 3] 92)).ownsRow B 92 3 (.slice (some ⟨w.heap.size, 0, none⟩) 3 3) 3 [.int .i64 0, .int .i64 8, .int .i64 1, .int .i64 8, .int .i64 120, .int .i64 2, .int .i64 128, .int .i64 a, .int .i64 3] :=
  ⟨rfl, .inr ⟨w.heap.size, 3, _, rfl, hB, heap_alloc_new w _, Nat.le_refl _, by unfold maxLen; omega, rfl, rfl⟩⟩
def RGot (w : World) (P : List (Nat × Nat × Nat)) (e : Ending) (w' : World) : Prop := ∃ u, e = .returned u ∧ Below w.heap.size w w' ∧ ARow 3 encR (0, 0, 0) w' u P

set_option maxRecDepth 100000 in
set_option maxHeartbeats 2000000 in
theorem refRuns_any (s n : Int) (w : World) : Calls Tryz.prog 57 #[.agg #[.int .i64 s, .int .i64 n]] w (RGot w (runsC s n)) := by
  obtain ⟨i0, hi, hz0, hz1, hz2⟩ := info_parts infoRun
  have HR := Lib.hid (fun u => refRight_any s n u)
  by_cases h : rightC s n = true
  · have hc : runsC s n = runsT s.toNat n.toNat := by rw [runsC, if_pos h]
    rw [hc]
    rw [h] at HR
    obtain ⟨S, N, rfl, rfl, b1, b2, b3, b4, b5⟩ := right_nat h
    rw [Int.toNat_natCast, Int.toNat_natCast]
    obtain ⟨a1, h1⟩ : ∃ a1, a1 = 16 * S := ⟨_, rfl⟩
    obtain ⟨a2, h2⟩ : ∃ a2, a2 = 128 + a1 := ⟨_, rfl⟩
    obtain ⟨a3, h3⟩ : ∃ a3, a3 = 4 * N := ⟨_, rfl⟩
    obtain ⟨a4, h4⟩ : ∃ a4, a4 = a2 + a3 := ⟨_, rfl⟩
    obtain ⟨a5, h5⟩ : ∃ a5, a5 = 1024 * S := ⟨_, rfl⟩
    obtain ⟨pd, h6⟩ : ∃ pd, pd = padT S N := ⟨_, rfl⟩
    obtain ⟨bs, h7⟩ : ∃ bs, bs = a4 + pd := ⟨_, rfl⟩
    have q1 : endT S N = a4 := by unfold endT; omega
    have q2 : slT S = a2 := by unfold slT; omega
    have q3 : baseT S N = bs := by unfold baseT; omega
    have hp := pad_two (s := S) b3
    rw [q1, ← h6] at hp
    have hT : Hid (runsT S N = [(0, 8, 1), (8, 120, 2), (128, a1, 3), (a2, a3, 4)] ++ (if pd = 0 then [] else [(a4, 8, 8)]) ++ [(bs, a5, 7)]) := by
      unfold Hid runsT
      rw [q1, q2, q3, ← h6, ← h1, ← h3, ← h5]
    have e1 : (16 : Int) * S = a1 := by omega
    have e2 : (128 : Int) + a1 = a2 := by omega
    have e3 : (4 : Int) * N = a3 := by omega
    have e4 : (a2 : Int) + a3 = a4 := by omega
    have e5 : (1024 : Int) * S = a5 := by omega
    have e6 : (a4 : Int) + pd = bs := by omega
    have f1 : a1 ≤ 1100 := by omega
    have f2 : a2 ≤ 1300 := by omega
    have f3 : a3 ≤ 33000 := by omega
    have f4 : a4 ≤ 34300 := by omega
    have f5 : a5 ≤ 66000 := by omega
    have f6 : pd ≤ 8 := by rcases hp with h | h <;> omega
    have HP := Lib.hid hp
    have f7 : (S : Int) ≤ 64 := by omega
    have f8 : (N : Int) ≤ 8192 := by omega
    generalize runsT S N = RT at hT ⊢
    clear h hc h1 h2 h3 h4 h5 h6 h7 q1 q2 q3 hp b1 b2 b3 b4 b5
    go_enter Tryz.func57, Tryz.ntmps57
    go_wp2_with fail
    refine (HR.out _).mono ?_
    rintro e w1 ⟨rfl, hw1⟩
    obtain ⟨c1, c2, hlt1, hb1⟩ := one_box hw1
    have hs1 := size_alloc w1 (.cells #[.int .i64 0, .int .i64 8, .int .i64 1, .int .i64 8, .int .i64 120, .int .i64 2, .int .i64 128, .int .i64 (a1 : Int), .int .i64 3] 92)
    have HO1 := Lib.hid (runs_three w1 (a1 : Int) w1.heap.size (Nat.le_refl _))
    have hb2 := below_made w1 (.cells #[.int .i64 0, .int .i64 8, .int .i64 1, .int .i64 8, .int .i64 120, .int .i64 2, .int .i64 128, .int .i64 (a1 : Int), .int .i64 3] 92)
    have HS1 := Lib.hid hs1
    have HB2 := Lib.hid hb2
    clear hs1 hb2
    go_wp2_with (at_builtin; refine wpList_append_own _ rfl (.tmp 20) (.tmp 26) 53 rfl w1.heap.size 92 i0 (.agg #[.int .i64 0, .int .i64 0, .int .i64 0]) 3 24 Tryz.underlying53 hi hz0 hz1 hz2 rfl (by decide) _ _ _ rfl (HO1.out.alloc _) ⟨w1.heap.size + 1, 0, none⟩ 1 1 [.int .i64 (a2 : Int), .int .i64 (a3 : Int), .int .i64 4] rfl rfl (news_three_at _ _ HS1.out.symm _ _ _ _) (oneCell_three _ _ _) (by unfold maxLen; omega) (by omega) (le_alloc _ HB2.out.size) ?_)
    intro v3 w3 hown3 hgrow3 _
    have HB3 := Lib.hid ((HB2.out.alloc HB2.out.size (.cells #[.int .i64 (a2 : Int), .int .i64 (a3 : Int), .int .i64 4] 92)).grown hgrow3 (le_alloc _ HB2.out.size) (fun r hr => (HO1.out.lt r hr).1))
    have d1 := (HB3.out.cell (p := ⟨w.heap.size, 0, none⟩) hlt1).trans c1
    have d2 := (HB3.out.cell (p := ⟨w.heap.size, 1, none⟩) hlt1).trans c2
    have HO3 : Hid (w3.ownsRow w1.heap.size 92 3 v3 4 (valsA encR [(0, 8, 1), (8, 120, 2), (128, a1, 3), (a2, a3, 4)])) := hown3
    have c1' := c1
    clear hown3 hgrow3 HO1 HB2 HS1 c1 c2
    go_wp2
    go_loop [5] (fun p => ∃ k : Nat, k ≤ pd ∧ p = .int .i64 k) (fun p => pd - (intOf p).toNat)
    case atStart => exact ⟨0, Nat.zero_le _, rfl⟩
    case round =>
      obtain ⟨k, hk, rfl⟩ := hrel
      obtain ⟨y, hy⟩ : ∃ y, y = a4 + k := ⟨_, rfl⟩
      have hy1 : (a4 : Int) + k = y := by omega
      by_cases hlt : k < pd
      · have t1 : ((y : Int) % 16 != 0) = true := by rw [bne_iff_ne]; rcases HP.out with h | h <;> omega
        have t2 : ¬ (y : Int) % 16 = 0 := by rcases HP.out with h | h <;> omega
        have t3 : ¬ y % 16 = 0 := by omega
        clear hy
        go_wp2
        go_round
        case rel => exact ⟨k + 1, by omega, by go_num⟩
        case measure => simp [intOf]; omega
      · obtain rfl : k = pd := by omega
        have t1 : ((y : Int) % 16 != 0) = false := by simp; rcases HP.out with h | h <;> omega
        have t2 : (y : Int) % 16 = 0 := by rcases HP.out with h | h <;> omega
        obtain rfl : y = bs := by omega
        clear hy
        by_cases hp0 : k = 0
        · have g1 : ¬ (0 : Int) < (k : Int) := by omega
          have hT2 : Hid (RT = [(0, 8, 1), (8, 120, 2), (128, a1, 3), (a2, a3, 4)] ++ [(y, a5, 7)]) := by
            have := hT.out
            rw [if_pos hp0] at this
            exact this
          clear hp0 hT
          go_wp2_with (at_builtin; refine wpList_append_own _ rfl (.tmp 48) (.tmp 56) 53 rfl w1.heap.size 92 i0 (.agg #[.int .i64 0, .int .i64 0, .int .i64 0]) 3 24 Tryz.underlying53 hi hz0 hz1 hz2 rfl (by decide) _ _ _ rfl (HO3.out.alloc _) ⟨w3.heap.size, 0, none⟩ 1 1 [.int .i64 (y : Int), .int .i64 (a5 : Int), .int .i64 7] rfl rfl (news_three _ _ _ _ _) (oneCell_three _ _ _) (by unfold maxLen; omega) (by omega) (le_alloc _ HB3.out.size) ?_)
          intro v4 w4 hown4 hgrow4 _
          have HB4 := (HB3.out.alloc HB3.out.size (.cells #[.int .i64 (y : Int), .int .i64 (a5 : Int), .int .i64 7] 92)).grown hgrow4 (le_alloc _ HB3.out.size) (fun r hr => (HO3.out.lt r hr).1)
          have hb4 := hb1.trans (HB4.mono hb1.size)
          have HA : Hid (ARow 3 encR (0, 0, 0) w4 v4 RT) := by
            rw [hT2.out]
            exact arow_of_owns encR_length _ (show w4.ownsRow w1.heap.size 92 3 v4 5 (valsA encR ([(0, 8, 1), (8, 120, 2), (128, a1, 3), (a2, a3, 4)] ++ [(y, a5, 7)])) from hown4) rfl
          clear hown4 hgrow4
          go_wp2
          go_ret
          exact ⟨_, rfl, hb4, HA.out⟩
        · have g1 : (0 : Int) < (k : Int) := by omega
          have hk8 : k = 8 := by rcases HP.out with h | h <;> omega
          have hT2 : Hid (RT = ([(0, 8, 1), (8, 120, 2), (128, a1, 3), (a2, a3, 4)] ++ [(a4, k, 8)]) ++ [(y, a5, 7)]) := by
            have := hT.out
            rw [if_neg hp0] at this
            rw [hk8]
            exact this
          clear hp0 hT hk8
          go_wp2_with (at_builtin; refine wpList_append_own _ rfl (.tmp 42) (.tmp 46) 53 rfl w1.heap.size 92 i0 (.agg #[.int .i64 0, .int .i64 0, .int .i64 0]) 3 24 Tryz.underlying53 hi hz0 hz1 hz2 rfl (by decide) _ _ _ rfl (HO3.out.alloc _) ⟨w3.heap.size, 0, none⟩ 1 1 [.int .i64 (a4 : Int), .int .i64 (k : Int), .int .i64 8] rfl rfl (news_three _ _ _ _ _) (oneCell_three _ _ _) (by unfold maxLen; omega) (by omega) (le_alloc _ HB3.out.size) ?_)
          intro v4 w4 hown4 hgrow4 _
          have HB4 := Lib.hid ((HB3.out.alloc HB3.out.size (.cells #[.int .i64 (a4 : Int), .int .i64 (k : Int), .int .i64 8] 92)).grown hgrow4 (le_alloc _ HB3.out.size) (fun r hr => (HO3.out.lt r hr).1))
          have x1 := (HB4.out.cell (p := ⟨w.heap.size, 0, none⟩) hlt1).trans c1'
          have HO4 : Hid (w4.ownsRow w1.heap.size 92 3 v4 5 (valsA encR ([(0, 8, 1), (8, 120, 2), (128, a1, 3), (a2, a3, 4)] ++ [(a4, k, 8)]))) := hown4
          clear hown4 hgrow4
          go_wp2_with (at_builtin; refine wpList_append_own _ rfl (.tmp 48) (.tmp 56) 53 rfl w1.heap.size 92 i0 (.agg #[.int .i64 0, .int .i64 0, .int .i64 0]) 3 24 Tryz.underlying53 hi hz0 hz1 hz2 rfl (by decide) _ _ _ rfl (HO4.out.alloc _) ⟨w4.heap.size, 0, none⟩ 1 1 [.int .i64 (y : Int), .int .i64 (a5 : Int), .int .i64 7] rfl rfl (news_three _ _ _ _ _) (oneCell_three _ _ _) (by unfold maxLen; omega) (by omega) (le_alloc _ HB4.out.size) ?_)
          intro v5 w5 hown5 hgrow5 _
          have HB5 := (HB4.out.alloc HB4.out.size (.cells #[.int .i64 (y : Int), .int .i64 (a5 : Int), .int .i64 7] 92)).grown hgrow5 (le_alloc _ HB4.out.size) (fun r hr => (HO4.out.lt r hr).1)
          have hb5 := hb1.trans (HB5.mono hb1.size)
          have HA : Hid (ARow 3 encR (0, 0, 0) w5 v5 RT) := by
            rw [hT2.out]
            exact arow_of_owns encR_length _ (show w5.ownsRow w1.heap.size 92 3 v5 6 (valsA encR (([(0, 8, 1), (8, 120, 2), (128, a1, 3), (a2, a3, 4)] ++ [(a4, k, 8)]) ++ [(y, a5, 7)])) from hown5) rfl
          clear hown5 hgrow5
          go_wp2
          go_ret
          exact ⟨_, rfl, hb5, HA.out⟩
  · have hc : runsC s n = [] := by rw [runsC, if_neg h]
    have h' : rightC s n = false := by simpa using h
    rw [hc]
    rw [h'] at HR
    clear h h' hc
    go_enter Tryz.func57, Tryz.ntmps57
    go_wp2_with fail
    refine (HR.out _).mono ?_
    rintro e w1 ⟨rfl, hw1⟩
    obtain ⟨c1, c2, hlt1, hb1⟩ := one_box hw1
    go_wp2
    go_ret
    exact ⟨_, rfl, hb1, ARow.nil _ _ _ _⟩
end Go.Proofs.YthnjpmgfikhemaaGreatDoor.Lay

namespace Go.Proofs.YthnjpmgfikhemaaGreatDoor.Lay
open Go.RowKit
set_option linter.unusedVariables false

theorem runsT_last (s n : Nat) : 5 ≤ (runsT s n).length ∧ (runsT s n).length ≤ 6 ∧ ((runsT s n).getD ((runsT s n).length - 1) (0, 0, 0)).1 = baseT s n := by
  unfold runsT
  split <;> simp [List.getD]

set_option maxRecDepth 100000 in
theorem refBase_any (s n : Int) (w : World) : Calls Tryz.prog 90 #[.agg #[.int .i64 s, .int .i64 n]] w fun e w' => e = .returned (.int .i64 (baseC s n)) ∧ Below w.heap.size w w' := by
  have HR := Lib.hid (fun u => refRuns_any s n u)
  unfold RGot at HR
  by_cases h : rightC s n = true
  · have hc : baseC s n = baseT s.toNat n.toNat := by rw [baseC, if_pos h]
    have hr : runsC s n = runsT s.toNat n.toNat := by rw [runsC, if_pos h]
    obtain ⟨l1, l2, l3⟩ := runsT_last s.toNat n.toNat
    rw [hr] at HR
    rw [hc, ← l3]
    generalize runsT s.toNat n.toNat = P at HR l1 l2 l3 ⊢
    have g1 : ((P.length : Int) == 0) = false := by rw [beq_eq_false_iff_ne]; omega
    have g1' : ¬ P.length = 0 := by omega
    have g1'' : ¬ P = [] := by rintro rfl; simp at g1'
    obtain ⟨k, hk⟩ : ∃ k, k = P.length - 1 := ⟨_, rfl⟩
    rw [← hk]
    have g2 : (P.length : Int) - 1 = (k : Int) := by omega
    have g2' : IntKind.i64.wrap ((P.length : Int) - 1) = (k : Int) := (wrap_id (by omega) (by omega)).trans g2
    have g3 : (k : Int) < (P.length : Int) := by omega
    have g4 : (0 : Int) ≤ (k : Int) := by omega
    have g5 : k < P.length := by omega
    obtain ⟨x, hx⟩ : ∃ x, x = (P.getD k (0, 0, 0)).1 := ⟨_, rfl⟩
    rw [← hx]
    have HX := Lib.hid hx
    have hP6 : (P.length : Int) ≤ 6 := by omega
    have hk6 : (k : Int) ≤ 6 := by omega
    clear h hc hr l2 l3 hk hx
    go_enter Tryz.func90, Tryz.ntmps90
    go_wp2_with fail
    refine (HR.out _).mono ?_
    rintro e w1 ⟨u, rfl, hb1, hu⟩
    obtain ⟨a, cap, rfl, -, -, hcc⟩ := hu
    obtain ⟨b, off, rfl, -, hc2⟩ := hcc (by rintro rfl; simp at g5)
    have hcell := hc2 k g5 0 _ rfl
    have hb : Below w.heap.size w w1 := (below_made w _).trans (hb1.mono (by have := size_alloc w (.cells #[.int .i64 s, .int .i64 n] 25); omega))
    rw [← HX.out, Nat.add_zero] at hcell
    clear hcc hc2 hb1
    go_wp2
    go_ret
    exact ⟨rfl, hb⟩
  · have hc : baseC s n = 0 := by rw [baseC, if_neg h]
    have hr : runsC s n = [] := by rw [runsC, if_neg h]
    rw [hr] at HR
    rw [hc]
    clear h hc hr
    go_enter Tryz.func90, Tryz.ntmps90
    go_wp2_with fail
    refine (HR.out _).mono ?_
    rintro e w1 ⟨u, rfl, hb1, hu⟩
    obtain ⟨a, cap, rfl, -, -, -⟩ := hu
    have hb : Below w.heap.size w w1 := (below_made w _).trans (hb1.mono (by have := size_alloc w (.cells #[.int .i64 s, .int .i64 n] 25); omega))
    go_wp2
    go_ret
    exact ⟨rfl, hb⟩

set_option maxRecDepth 100000 in
theorem refSlabAt_any (s n i : Int) (w : World) (i1 : -9223372036854775808 ≤ i) (i2 : i ≤ 9223372036854775807) : Calls Tryz.prog 41 #[.agg #[.int .i64 s, .int .i64 n], .int .i64 i] w fun e w' => e = .returned (.int .i64 (slabC s n i)) ∧ Below w.heap.size w w' := by
  have HR := Lib.hid (fun u => refRight_any s n u)
  by_cases h : rightC s n = true
  · rw [h] at HR
    by_cases hi : 0 ≤ i ∧ i < s
    · have hc : slabC s n i = baseT s.toNat n.toNat + 1024 * i.toNat := by rw [slabC, if_pos ⟨h, hi.1, hi.2⟩]
      rw [hc]
      have hB : baseC s n = baseT s.toNat n.toNat := by rw [baseC, if_pos h]
      have hbs := fun u => refBase_any s n u
      rw [hB] at hbs
      have HB := Lib.hid hbs
      clear hB hbs
      obtain ⟨S, N, rfl, rfl, b1, b2, b3, b4, b5⟩ := right_nat h
      obtain ⟨I, rfl⟩ := Int.eq_ofNat_of_zero_le hi.1
      simp only [Int.toNat_natCast]
      have g1 : ¬ (I : Int) < 0 := by omega
      have g2 : ¬ (S : Int) ≤ (I : Int) := by omega
      simp only [Int.toNat_natCast] at HB
      have hb16 := base_sixteen (s := S) b3
      have hend : endT S N ≤ 34000 := by unfold endT; omega
      have f1 : (I : Int) ≤ 64 := by omega
      generalize baseT S N = B at HB hb16 ⊢
      have f2 : (B : Int) ≤ 34100 := by omega
      have HE : Hid ((B : Int) + 1024 * I = ((B + 1024 * I : Nat) : Int)) := by unfold Hid; omega
      clear hb16 hend
      clear h hc hi b1 b2 b3 b4 b5
      go_enter Tryz.func41, Tryz.ntmps41
      go_wp2_with (first | (go_at_call 89; refine (HR.out _).mono ?_; rintro e w1 ⟨rfl, hw1⟩; obtain ⟨c1, c2, hlt1, hb1⟩ := one_box hw1) | (go_at_call 90; refine (HB.out _).mono ?_; rintro e w2 ⟨rfl, hw2⟩; have d1 := (hw2.cell (p := ⟨w.heap.size, 0, none⟩) hlt1).trans c1; have d2 := (hw2.cell (p := ⟨w.heap.size, 1, none⟩) hlt1).trans c2; have hb2 := hb1.trans (hw2.mono hb1.size)))
      go_ret
      exact ⟨ret_int HE.out, hb2⟩
    · have hc : slabC s n i = 0 := by rw [slabC, if_neg (fun x => hi x.2)]
      rw [hc]
      have hcase : i < 0 ∨ (¬ i < 0 ∧ s ≤ i) := by omega
      clear h hc hi
      rcases hcase with g1 | ⟨g1, g2⟩
      · go_enter Tryz.func41, Tryz.ntmps41
        go_wp2_with (go_at_call 89; refine (HR.out _).mono ?_; rintro e w1 ⟨rfl, hw1⟩; obtain ⟨c1, c2, hlt1, hb1⟩ := one_box hw1)
        go_ret
        exact ⟨rfl, hb1⟩
      · go_enter Tryz.func41, Tryz.ntmps41
        go_wp2_with (go_at_call 89; refine (HR.out _).mono ?_; rintro e w1 ⟨rfl, hw1⟩; obtain ⟨c1, c2, hlt1, hb1⟩ := one_box hw1)
        go_ret
        exact ⟨rfl, hb1⟩
  · have hc : slabC s n i = 0 := by rw [slabC, if_neg (fun x => h x.1)]
    have h' : rightC s n = false := by simpa using h
    rw [hc]
    rw [h'] at HR
    clear h h' hc
    go_enter Tryz.func41, Tryz.ntmps41
    go_wp2_with (go_at_call 89; refine (HR.out _).mono ?_; rintro e w1 ⟨rfl, hw1⟩; obtain ⟨c1, c2, hlt1, hb1⟩ := one_box hw1)
    go_ret
    exact ⟨rfl, hb1⟩

theorem inC_yes {s n : Int} {S N k : Nat} {a : Int} (h : rightC s n = true) (hs : s = S) (hn : n = N) (hk : k < S) (h1 : (baseT S N : Int) + 1024 * k ≤ a) (h2 : a < (baseT S N : Int) + 1024 * k + 1024) : inC s n a = (k, true) := by
  subst hs hn
  unfold inC
  simp only [Int.toNat_natCast]
  have hz : sizeT S N = baseT S N + 1024 * S := rfl
  rw [if_pos ⟨h, by omega, by omega⟩]
  congr 1
  omega
theorem inC_no {s n : Int} {S N : Nat} {a : Int} (hs : s = S) (hn : n = N) (h : ∀ k, k < S → ¬ ((baseT S N : Int) + 1024 * k ≤ a ∧ a < (baseT S N : Int) + 1024 * k + 1024)) : inC s n a = (0, false) := by
  subst hs hn
  unfold inC
  simp only [Int.toNat_natCast]
  have hz : sizeT S N = baseT S N + 1024 * S := rfl
  rw [if_neg]
  rintro ⟨-, h1, h2⟩
  exact h ((a - baseT S N) / 1024).toNat (by omega) (by omega)

set_option maxRecDepth 100000 in
set_option maxHeartbeats 2000000 in
theorem refSlab_any (s n a : Int) (w : World) (i1 : -9223372036854775808 ≤ a) (i2 : a ≤ 9223372036854775807) : Calls Tryz.prog 49 #[.agg #[.int .i64 s, .int .i64 n], .int .i64 a] w fun e w' => e = .returned (.tuple #[.int .i64 (inC s n a).1, .bool (inC s n a).2]) ∧ Below w.heap.size w w' := by
  have HR := Lib.hid (fun u => refRight_any s n u)
  obtain ⟨R, hR⟩ : ∃ R, R = inC s n a := ⟨_, rfl⟩
  rw [← hR]
  obtain ⟨c1, c2, hlt1, hb0⟩ := one_box (Below.refl (W1 w s n).heap.size (W1 w s n))
  unfold W1 at c1 c2 hlt1 hb0
  by_cases h : rightC s n = true
  · rw [h] at HR
    obtain ⟨S, N, rfl, rfl, b1, b2, b3, b4, b5⟩ := right_nat h
    have HP := Lib.hid (fun k u (hk : k < S) => show Calls Tryz.prog 41 #[.agg #[.int .i64 (S : Int), .int .i64 (N : Int)], .int .i64 (k : Int)] u fun e w' => e = .returned (.int .i64 ((baseT S N + 1024 * k : Nat) : Int)) ∧ Below u.heap.size u w' from by
      have := refSlabAt_any (S : Int) (N : Int) (k : Int) u (by omega) (by omega)
      rw [show slabC (S : Int) (N : Int) (k : Int) = baseT S N + 1024 * k by rw [slabC, if_pos ⟨h, by omega, by omega⟩]; simp] at this
      exact this)
    have HY := Lib.hid (fun k (hk : k < S) h1 h2 => hR.trans (inC_yes (k := k) (a := a) h rfl rfl hk h1 h2))
    have HN := Lib.hid (fun hh => hR.trans (inC_no (a := a) rfl rfl hh))
    have hb16 := base_sixteen (s := S) b3
    have hend : endT S N ≤ 34000 := by unfold endT; omega
    have f1 : (S : Int) ≤ 64 := by omega
    generalize baseT S N = B at HP HY HN hb16
    have f2 : (B : Int) ≤ 34100 := by omega
    have HC1 := Lib.hid c1
    have HC2 := Lib.hid c2
    clear hR h b1 b2 b3 b4 b5 hb16 hend c1 c2
    go_enter Tryz.func49, Tryz.ntmps49
    go_wp2
    go_loopw [6] (fun i wr => ∃ k : Nat, k ≤ S ∧ i = .int .i64 k ∧ Hid (∀ j, j < k → ¬ ((B : Int) + 1024 * j ≤ a ∧ a < (B : Int) + 1024 * j + 1024)) ∧ Hid (wr.cell? ⟨w.heap.size, 0, none⟩ = some (.int .i64 (S : Int))) ∧ Hid (wr.cell? ⟨w.heap.size, 1, none⟩ = some (.int .i64 (N : Int))) ∧ w.heap.size < wr.heap.size ∧ Below w.heap.size w wr) (fun i _ => S - (intOf i).toNat)
    case atStart => exact ⟨0, Nat.zero_le _, rfl, fun j hj => by omega, HC1, HC2, hlt1, hb0⟩
    case round =>
      clear hb0 hlt1
      obtain ⟨k, hk, rfl, HJ, HC1, HC2, hlt1, hb⟩ := hrel
      have c1 := HC1.out
      have c2 := HC2.out
      clear HC1 HC2
      by_cases hlt : k < S
      · have hlt2 : (k : Int) < (S : Int) := by omega
        have HPk := Lib.hid (fun u => HP.out k u hlt)
        obtain ⟨y, hy⟩ : ∃ y, y = B + 1024 * k := ⟨_, rfl⟩
        rw [← hy] at HPk
        have hy6 : (y : Int) ≤ 100000 := by omega
        by_cases hin : (y : Int) ≤ a ∧ a < (y : Int) + 1024
        · have HE := Lib.hid (HY.out k hlt (by omega) (by omega))
          obtain ⟨g1, g2⟩ := hin
          clear hy
          go_wp2_with (first | (go_at_call 89; refine (HR.out _).mono ?_; rintro e w1 ⟨rfl, hw1⟩; replace c1 := (hw1.cell (p := ⟨w.heap.size, 0, none⟩) hlt1).trans c1; replace c2 := (hw1.cell (p := ⟨w.heap.size, 1, none⟩) hlt1).trans c2; replace hb := hb.trans (hw1.mono hb.size); replace hlt1 := Nat.lt_of_lt_of_le hlt1 hw1.size; clear hw1) | (go_at_call 41; refine (HPk.out _).mono ?_; rintro e w1 ⟨rfl, hw1⟩; replace c1 := (hw1.cell (p := ⟨w.heap.size, 0, none⟩) hlt1).trans c1; replace c2 := (hw1.cell (p := ⟨w.heap.size, 1, none⟩) hlt1).trans c2; replace hb := hb.trans (hw1.mono hb.size); replace hlt1 := Nat.lt_of_lt_of_le hlt1 hw1.size; clear hw1))
          go_ret2
          exact ⟨by rw [HE.out]; rfl, hb⟩
        · have HJ2 : Hid (∀ j, j < k + 1 → ¬ ((B : Int) + 1024 * j ≤ a ∧ a < (B : Int) + 1024 * j + 1024)) := by
            intro j hj
            by_cases e : j = k
            · subst e; omega
            · exact HJ.out j (by omega)
          have hcase : ¬ (y : Int) ≤ a ∨ ((y : Int) ≤ a ∧ ¬ a < (y : Int) + 1024) := by omega
          clear hy hin HJ
          rcases hcase with g1 | ⟨g1, g2⟩
          · go_wp2_with (first | (go_at_call 89; refine (HR.out _).mono ?_; rintro e w1 ⟨rfl, hw1⟩; replace c1 := (hw1.cell (p := ⟨w.heap.size, 0, none⟩) hlt1).trans c1; replace c2 := (hw1.cell (p := ⟨w.heap.size, 1, none⟩) hlt1).trans c2; replace hb := hb.trans (hw1.mono hb.size); replace hlt1 := Nat.lt_of_lt_of_le hlt1 hw1.size; clear hw1) | (go_at_call 41; refine (HPk.out _).mono ?_; rintro e w1 ⟨rfl, hw1⟩; replace c1 := (hw1.cell (p := ⟨w.heap.size, 0, none⟩) hlt1).trans c1; replace c2 := (hw1.cell (p := ⟨w.heap.size, 1, none⟩) hlt1).trans c2; replace hb := hb.trans (hw1.mono hb.size); replace hlt1 := Nat.lt_of_lt_of_le hlt1 hw1.size; clear hw1))
            go_roundw
            case rel => exact ⟨k + 1, by omega, by go_num, HJ2, c1, c2, hlt1, hb⟩
            case measure => simp [intOf]; omega
          · go_wp2_with (first | (go_at_call 89; refine (HR.out _).mono ?_; rintro e w1 ⟨rfl, hw1⟩; replace c1 := (hw1.cell (p := ⟨w.heap.size, 0, none⟩) hlt1).trans c1; replace c2 := (hw1.cell (p := ⟨w.heap.size, 1, none⟩) hlt1).trans c2; replace hb := hb.trans (hw1.mono hb.size); replace hlt1 := Nat.lt_of_lt_of_le hlt1 hw1.size; clear hw1) | (go_at_call 41; refine (HPk.out _).mono ?_; rintro e w1 ⟨rfl, hw1⟩; replace c1 := (hw1.cell (p := ⟨w.heap.size, 0, none⟩) hlt1).trans c1; replace c2 := (hw1.cell (p := ⟨w.heap.size, 1, none⟩) hlt1).trans c2; replace hb := hb.trans (hw1.mono hb.size); replace hlt1 := Nat.lt_of_lt_of_le hlt1 hw1.size; clear hw1))
            go_roundw
            case rel => exact ⟨k + 1, by omega, by go_num, HJ2, c1, c2, hlt1, hb⟩
            case measure => simp [intOf]; omega
      · obtain rfl : k = S := by omega
        have HE := Lib.hid (HN.out HJ.out)
        go_wp2_with (go_at_call 89; refine (HR.out _).mono ?_; rintro e w1 ⟨rfl, hw1⟩; replace c1 := (hw1.cell (p := ⟨w.heap.size, 0, none⟩) hlt1).trans c1; replace c2 := (hw1.cell (p := ⟨w.heap.size, 1, none⟩) hlt1).trans c2; replace hb := hb.trans (hw1.mono hb.size); replace hlt1 := Nat.lt_of_lt_of_le hlt1 hw1.size; clear hw1)
        go_ret2
        exact ⟨by rw [HE.out]; rfl, hb⟩
  · have h' : rightC s n = false := by simpa using h
    have hc : R = (0, false) := by rw [hR, inC, if_neg (fun x => h x.1)]
    rw [hc]
    rw [h'] at HR
    clear h h' hc hR
    go_enter Tryz.func49, Tryz.ntmps49
    go_wp2
    refine wp_loop_rounds 1 ?_
    rw [rounds_succ]
    go_wp2_with (go_at_call 89; refine (HR.out _).mono ?_; rintro e w1 ⟨rfl, hw1⟩; have hb1 := hb0.trans (hw1.mono hb0.size))
    go_ret2
    exact ⟨rfl, hb1⟩
end Go.Proofs.YthnjpmgfikhemaaGreatDoor.Lay

namespace Go.Proofs.YthnjpmgfikhemaaGreatDoor.Lay
open Go.RowKit
set_option linter.unusedVariables false

theorem drewN_more {w wr : World} (h : ∃ m, wr = w.drewN m) (n : Nat) : ∃ m, wr.drewN n = w.drewN m := by
  obtain ⟨m, rfl⟩ := h
  exact ⟨m + n, World.drewN_drewN _ _ _⟩
theorem below_drawn {B : Nat} {a w w' : World} (h : Below B a w) (hm : ∃ m, w' = w.drewN m) : Below B a w' := by
  obtain ⟨m, rfl⟩ := hm
  exact below_drewN h m

end Go.Proofs.YthnjpmgfikhemaaGreatDoor.Lay
