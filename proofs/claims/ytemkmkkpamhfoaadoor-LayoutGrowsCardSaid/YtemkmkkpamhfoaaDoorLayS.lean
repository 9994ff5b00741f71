/- The walk of LayoutGrows. -/
import Derived.Test.YtemkmkkpamhfoaaDoorLayQ
namespace Go.Proofs.YtemkmkkpamhfoaaDoor.Lay
open Go.RowKit
set_option linter.unusedVariables false

/-- The config that came, and another one, each in a block of its own. -/
def BX (w x : World) (s n a b : Int) : Prop :=
  x.heap[w.heap.size]? = some (.cells #[.int .i64 s, .int .i64 n] 23 (0, 0)) ∧ x.heap[w.heap.size + 1]? = some (.cells #[.int .i64 a, .int .i64 b] 23 (0, 0)) ∧ Below w.heap.size w x
theorem BX.cells {w x : World} {s n a b : Int} (h : BX w x s n a b) : x.cell? ⟨w.heap.size, 0, none⟩ = some (.int .i64 s) ∧ x.cell? ⟨w.heap.size, 1, none⟩ = some (.int .i64 n) ∧ x.cell? ⟨w.heap.size + 1, 0, none⟩ = some (.int .i64 a) ∧ x.cell? ⟨w.heap.size + 1, 1, none⟩ = some (.int .i64 b) ∧
    x.frozen? ⟨w.heap.size + 1, 0, none⟩ = false ∧ x.frozen? ⟨w.heap.size + 1, 1, none⟩ = false ∧ w.heap.size < x.heap.size ∧ w.heap.size + 1 < x.heap.size := by
  obtain ⟨h1, h2, h3⟩ := h
  exact ⟨by rw [cell_block h1]; rfl, by rw [cell_block h1]; rfl, by rw [cell_block h2]; rfl, by rw [cell_block h2]; rfl, by simp [World.frozen?, h2], by simp [World.frozen?, h2], (Array.getElem?_eq_some_iff.1 h1).1, (Array.getElem?_eq_some_iff.1 h2).1⟩
theorem BX.start (w : World) (s n : Int) : BX w ((w.alloc (.cells #[.int .i64 s, .int .i64 n] 23)).alloc (.cells #[.int .i64 s, .int .i64 n] 23)) s n s n := by
  have s1 := size_alloc w (.cells #[.int .i64 s, .int .i64 n] 23)
  refine ⟨?_, ?_, ((Below.refl _ w).alloc (Nat.le_refl _) _).alloc (by omega) _⟩
  · rw [Below.heap_alloc _ _ _ (by omega)]; exact heap_alloc_new _ _
  · have := heap_alloc_new (w.alloc (.cells #[.int .i64 s, .int .i64 n] 23)) (.cells #[.int .i64 s, .int .i64 n] 23)
    rw [s1] at this
    exact this
theorem BX.below {w x y : World} {s n a b : Int} (h : BX w x s n a b) (hb : Below x.heap.size x y) : BX w y s n a b := by
  have hc := h.cells
  exact ⟨(hb.block _ hc.2.2.2.2.2.2.1).trans h.1, (hb.block _ hc.2.2.2.2.2.2.2).trans h.2.1, h.2.2.trans (hb.mono h.2.2.size)⟩
theorem BX.set0 {w x : World} {s n a b : Int} (h : BX w x s n a b) (c : Int) : BX w (x.setCell ⟨w.heap.size + 1, 0, none⟩ (.int .i64 c)) s n c b := by
  refine ⟨(Below.heap_setCell _ _ _ _ (by simp)).trans h.1, ?_, h.2.2.setCell (by simp) _⟩
  simp [World.setCell, Array.getElem?_modify, h.2.1]
theorem BX.set1 {w x : World} {s n a b : Int} (h : BX w x s n a b) (c : Int) : BX w (x.setCell ⟨w.heap.size + 1, 1, none⟩ (.int .i64 c)) s n a c := by
  refine ⟨(Below.heap_setCell _ _ _ _ (by simp)).trans h.1, ?_, h.2.2.setCell (by simp) _⟩
  simp [World.setCell, Array.getElem?_modify, h.2.1]

theorem size_grows {S N : Nat} (hN : N % 2 = 0) : sizeT (S + 1) N = sizeT S N + 1024 + 16 ∧ (sizeT S (N + 2) = sizeT S N ∨ sizeT S (N + 2) = sizeT S N + 16) := by
  have h1 : sizeT S N = baseT S N + 1024 * S := rfl
  have h2 : sizeT (S + 1) N = baseT (S + 1) N + 1024 * (S + 1) := rfl
  have h3 : sizeT S (N + 2) = baseT S (N + 2) + 1024 * S := rfl
  have e1 : endT S N = 128 + 16 * S + 4 * N := rfl
  have e2 : endT (S + 1) N = 128 + 16 * (S + 1) + 4 * N := rfl
  have e3 : endT S (N + 2) = 128 + 16 * S + 4 * (N + 2) := rfl
  have b1 : baseT S N = endT S N + padT S N := rfl
  have b2 : baseT (S + 1) N = endT (S + 1) N + padT (S + 1) N := rfl
  have b3 : baseT S (N + 2) = endT S (N + 2) + padT S (N + 2) := rfl
  have p1 := pad_two (s := S) hN
  have p2 := pad_two (s := S + 1) hN
  have p3 := pad_two (s := S) (n := N + 2) (by omega)
  omega

set_option maxRecDepth 100000 in
set_option maxHeartbeats 2000000 in
theorem layoutGrows_walk {Tb : World → Prop} (D : Does Tb) (s n : Int) (w : World) (ht : Tb w) (s1 : -9223372036854775808 ≤ s) (s2 : s ≤ 9223372036854775807) (n1 : -9223372036854775808 ≤ n) (n2 : n ≤ 9223372036854775807) :
    Calls Tryd.prog 7 #[.agg #[.int .i64 s, .int .i64 n]] w fun e w' => e = .returned (.bool true) ∧ Below w.heap.size w w' := by
  have HL := Lib.hid (fun u (hu : Tb u) => lies_any D u hu)
  have H1 := Lib.hid (fun u (hu : Tb u) => D.right s n u hu s1 s2 n1 n2)
  have HB := Lib.hid (BX.start w s n)
  have HT0 := Lib.hid (fun u (h : Below w.heap.size w u) => D.keep w u h ht)
  obtain ⟨c1, c2, c3, c4, f3, f4, l1, l2⟩ := (BX.start w s n).cells
  by_cases h : rightC s n = true
  · rw [h] at H1
    by_cases hi : s < 64 ∧ n ≤ 8190
    · have HD := Lib.hid D
      obtain ⟨S, N, rfl, rfl, b1, b2, b3, b4, b5⟩ := right_nat h
      have q2 : sizeC (S : Int) (N : Int) = sizeT S N := by rw [sizeC, if_pos h, Int.toNat_natCast, Int.toNat_natCast]
      have h7 := fun u (hu : Tb u) => D.size (S : Int) (N : Int) u hu s1 s2 n1 n2
      rw [q2] at h7
      have H7 : Hid (∀ (a b : Int) u, Tb u → a = (S : Int) → b = (N : Int) → Calls Tryd.prog 10 #[.agg #[.int .i64 a, .int .i64 b]] u fun e w' => e = .returned (.int .i64 ((sizeT S N : Nat) : Int)) ∧ Below u.heap.size u w') := fun a b u hu e1 e2 => by subst e1 e2; exact h7 u hu
      have g1 : ¬ (64 : Int) ≤ (S : Int) := by omega
      have g2 : ¬ (8190 : Int) < (N : Int) := by omega
      have gS : (S : Int) ≤ 64 := by omega
      have gN : (N : Int) ≤ 8192 := by omega
      obtain ⟨sg1, sg2⟩ := size_grows (S := S) b3
      have hr2 : rightC (S : Int) ((N + 2 : Nat) : Int) = true := by simp [rightC]; omega
      have h8 := fun u (hu : Tb u) => D.right (S : Int) ((N + 2 : Nat) : Int) u hu s1 s2 (by omega) (by omega)
      rw [hr2] at h8
      have h9 := fun u (hu : Tb u) => D.size (S : Int) ((N + 2 : Nat) : Int) u hu s1 s2 (by omega) (by omega)
      rw [show sizeC (S : Int) ((N + 2 : Nat) : Int) = sizeT S (N + 2) by rw [sizeC, if_pos hr2, Int.toNat_natCast, Int.toNat_natCast]] at h9
      obtain ⟨S', hS'⟩ : ∃ S', S' = S + 1 := ⟨_, rfl⟩
      obtain ⟨N', hN'⟩ : ∃ N', N' = N + 2 := ⟨_, rfl⟩
      rw [← hN'] at h8 h9 sg2
      rw [← hS'] at sg1
      have H8 := Lib.hid h8
      have H9 : Hid (∀ (a b : Int) u, Tb u → a = (S : Int) → b = (N' : Int) → Calls Tryd.prog 10 #[.agg #[.int .i64 a, .int .i64 b]] u fun e w' => e = .returned (.int .i64 ((sizeT S N' : Nat) : Int)) ∧ Below u.heap.size u w') := fun a b u hu e1 e2 => by subst e1 e2; exact h9 u hu
      have eS : (S : Int) + 1 = S' := by omega
      have eN : (N : Int) + 2 = N' := by omega
      have h10 := fun u (hu : Tb u) => D.right (S' : Int) (N : Int) u hu (by omega) (by omega) n1 n2
      have h11 := fun u (hu : Tb u) => D.size (S' : Int) (N : Int) u hu (by omega) (by omega) n1 n2
      have hz : sizeT S N ≤ 1000000 := by
        have := base_sixteen (s := S) b3
        have e1 : endT S N = 128 + 16 * S + 4 * N := rfl
        have e2 : sizeT S N = baseT S N + 1024 * S := rfl
        omega
      obtain ⟨Z, hZ⟩ : ∃ Z, Z = sizeT S N := ⟨_, rfl⟩
      obtain ⟨Z2, hZ2⟩ : ∃ Z2, Z2 = sizeT S N' := ⟨_, rfl⟩
      rw [← hZ] at H7 sg1 sg2 hz
      rw [← hZ2] at H9 sg2
      have zi : (Z : Int) ≤ 1000000 := by omega
      have zi2 : (Z2 : Int) ≤ 1000016 := by omega
      have H10 := Lib.hid h10
      have hr3 : rightC (S' : Int) (N : Int) = true → sizeC (S' : Int) (N : Int) = Z + 1024 + 16 := fun hh => by rw [sizeC, if_pos hh, Int.toNat_natCast, Int.toNat_natCast]; exact sg1
      have SG2 : Hid ((Z2 : Int) - Z = 0 ∨ (Z2 : Int) - Z = 16) := Lib.hid (by omega)
      obtain ⟨Zm, hZm⟩ : ∃ Zm, Zm = Z + 1024 := ⟨_, rfl⟩
      obtain ⟨Z1, hZ1⟩ : ∃ Z1, Z1 = Zm + 16 := ⟨_, rfl⟩
      have SG : Hid (IntKind.i64.wrap ((Z2 : Int) - Z) = (Z2 : Int) - Z) := Lib.hid (wrap_id (by omega) (by omega))
      have HR3 : Hid (rightC (S' : Int) (N : Int) = true → sizeC (S' : Int) (N : Int) = Z1) := Lib.hid (fun hh => (hr3 hh).trans (by omega))
      have H11 : Hid (∀ (a b : Int) u, Tb u → a = (S' : Int) → b = (N : Int) → Calls Tryd.prog 10 #[.agg #[.int .i64 a, .int .i64 b]] u fun e w' => e = .returned (.int .i64 ((sizeC (S' : Int) (N : Int) : Nat) : Int)) ∧ Below u.heap.size u w') := fun a b u hu e1 e2 => by subst e1 e2; exact h11 u hu
      have eSw : IntKind.i64.wrap ((S : Int) + 1) = (S' : Int) := (wrap_id (by omega) (by omega)).trans eS
      have eNw : IntKind.i64.wrap ((N : Int) + 2) = (N' : Int) := (wrap_id (by omega) (by omega)).trans eN
      have eZ : (Z : Int) + 1024 = (Zm : Int) := by omega
      have eZ' : (Zm : Int) + 16 = (Z1 : Int) := by omega
      have eZw : IntKind.i64.wrap ((Z : Int) + 1024) = (Zm : Int) := (wrap_id (by omega) (by omega)).trans eZ
      have eZw' : IntKind.i64.wrap ((Zm : Int) + 16) = (Z1 : Int) := (wrap_id (by omega) (by omega)).trans eZ'
      have zim : (Zm : Int) ≤ 1001024 := by omega
      have zi1 : (Z1 : Int) ≤ 1001040 := by omega
      have hne : ((Z1 : Int) != (Z1 : Int)) = false := by simp
      have gS' : (S' : Int) ≤ 65 := by omega
      have gN' : (N' : Int) ≤ 8194 := by omega
      clear h hi D s1 s2 n1 n2 q2 h7 h8 h9 h10 h11 sg1 sg2 hr2 hr3 hS' hN' hZ hZ2 hZm hZ1 hz b1 b2 b3 b4 b5
      go_enter Tryd.func7, Tryd.ntmps7
      go_wp2_with fail
      refine (H1.out _ (HT0.out _ HB.out.2.2)).mono ?_
      rintro e w1 ⟨rfl, hw1⟩
      have HB1 := Lib.hid (HB.out.below hw1)
      obtain ⟨d1, d2, d3, d4, e3, e4, m1, m2⟩ := HB1.out.cells
      have HB2 := Lib.hid (HB1.out.set0 (S' : Int))
      clear HB c1 c2 c3 c4 f3 f4 l1 l2 hw1 H1
      go_wp2_with fail
      clear d1 d2 d3 d4 e3 e4 m1 m2 HB1
      revert HB2
      generalize (w1.setCell ⟨w.heap.size + 1, 0, none⟩ (.int .i64 (S' : Int))) = w2
      intro HB2
      obtain ⟨d1, d2, d3, d4, e3, e4, m1, m2⟩ := HB2.out.cells
      have k1 := Kept.cell d1 m1
      have k2 := Kept.cell d2 m1
      have k3 := Kept.cell d3 m2
      have k4 := Kept.cell d4 m2
      cases hh : rightC (S' : Int) (N : Int) with
      | false =>
        rw [hh] at H10
        clear hh HR3 H11
        have HKT := Lib.hid (fun kk : Kept _ _ => HT0.out _ (HB2.out.2.2.trans (Below.mono kk.below HB2.out.2.2.size)))
        refine wp_region_kept (by kernel_rfl) (by kernel_rfl) ?_
        repeat (go_big_quiet_step ((go_at_call 8; exact Calls.kept_of (H10.out _ (HKT.out _)) (Nat.le_refl _))))
        refine wpQuiet_nil ?_
        intro _ hw'
        obtain ⟨kk, rfl⟩ := hw'
        have HB3 := Lib.hid (HB2.out.below kk.below)
        clear k1 k2 k3 k4 d1 d2 d3 d4 e3 e4 m1 m2 HB2
        revert HB3
        generalize kk.w = w3
        clear kk
        intro HB3
        obtain ⟨d1, d2, d3, d4, e3, e4, m1, m2⟩ := HB3.out.cells
        have HB4 := Lib.hid ((HB3.out.set0 (S : Int)).set1 (N' : Int))
        go_wp2_with fail
        clear d1 d2 d3 d4 e3 e4 m1 m2 HB3
        revert HB4
        generalize ((w3.setCell ⟨w.heap.size + 1, 0, none⟩ (.int .i64 (S : Int))).setCell ⟨w.heap.size + 1, 1, none⟩ (.int .i64 (N' : Int))) = w4
        intro HB4
        obtain ⟨d1, d2, d3, d4, e3, e4, m1, m2⟩ := HB4.out.cells
        have k1 := Kept.cell d1 m1
        have k2 := Kept.cell d2 m1
        have k3 := Kept.cell d3 m2
        have k4 := Kept.cell d4 m2
        have sg := SG.out
        rcases SG2.out with hz0 | hz0
        all_goals
          rw [hz0] at sg
          have HKT := Lib.hid (fun kk : Kept _ _ => HT0.out _ (HB4.out.2.2.trans (Below.mono kk.below HB4.out.2.2.size)))
          refine wp_region_kept (by kernel_rfl) (by kernel_rfl) ?_
          repeat (go_big_quiet_step ((first | (go_at_call 10; exact Calls.kept_of (H9.out _ _ _ (HKT.out _) rfl rfl) (Nat.le_refl _)) | (go_at_call 10; exact Calls.kept_of (H7.out _ _ _ (HKT.out _) rfl rfl) (Nat.le_refl _)))))
          refine wpQuiet_nil ?_
          intro _ hw'
          obtain ⟨kk, rfl⟩ := hw'
          have HB5 := Lib.hid (HB4.out.below kk.below)
          clear k1 k2 k3 k4 d1 d2 d3 d4 e3 e4 m1 m2 HB4 hz0 sg
          revert HB5
          generalize kk.w = w5
          clear kk
          intro HB5
          obtain ⟨d1, d2, d3, d4, e3, e4, m1, m2⟩ := HB5.out.cells
          go_wp2_with fail
          have hb5 := HB5.out.2.2
          refine (H8.out _ (HT0.out _ hb5)).mono ?_
          rintro e w6 ⟨rfl, hw6⟩
          go_wp2_with fail
          refine (HL.out _ (HT0.out _ (hb5.trans (hw6.mono hb5.size)))).mono ?_
          rintro e w7 ⟨rfl, hw7⟩
          go_wp2
          go_ret
          exact ⟨rfl, (hb5.trans (hw6.mono hb5.size)).trans (hw7.mono (hb5.trans (hw6.mono hb5.size)).size)⟩
      | true =>
        rw [HR3.out hh] at H11
        rw [hh] at H10
        clear hh HR3
        have HKT := Lib.hid (fun kk : Kept _ _ => HT0.out _ (HB2.out.2.2.trans (Below.mono kk.below HB2.out.2.2.size)))
        refine wp_region_kept (by kernel_rfl) (by kernel_rfl) ?_
        repeat (go_big_quiet_step ((first | (go_at_call 8; exact Calls.kept_of (H10.out _ (HKT.out _)) (Nat.le_refl _)) | (go_at_call 10; exact Calls.kept_of (H11.out _ _ _ (HKT.out _) rfl rfl) (Nat.le_refl _)) | (go_at_call 10; exact Calls.kept_of (H7.out _ _ _ (HKT.out _) rfl rfl) (Nat.le_refl _)))))
        refine wpQuiet_nil ?_
        intro _ hw'
        obtain ⟨kk, rfl⟩ := hw'
        have HB3 := Lib.hid (HB2.out.below kk.below)
        clear k1 k2 k3 k4 d1 d2 d3 d4 e3 e4 m1 m2 HB2
        revert HB3
        generalize kk.w = w3
        clear kk
        intro HB3
        obtain ⟨d1, d2, d3, d4, e3, e4, m1, m2⟩ := HB3.out.cells
        have HB4 := Lib.hid ((HB3.out.set0 (S : Int)).set1 (N' : Int))
        go_wp2_with fail
        clear d1 d2 d3 d4 e3 e4 m1 m2 HB3
        revert HB4
        generalize ((w3.setCell ⟨w.heap.size + 1, 0, none⟩ (.int .i64 (S : Int))).setCell ⟨w.heap.size + 1, 1, none⟩ (.int .i64 (N' : Int))) = w4
        intro HB4
        obtain ⟨d1, d2, d3, d4, e3, e4, m1, m2⟩ := HB4.out.cells
        have k1 := Kept.cell d1 m1
        have k2 := Kept.cell d2 m1
        have k3 := Kept.cell d3 m2
        have k4 := Kept.cell d4 m2
        have sg := SG.out
        rcases SG2.out with hz0 | hz0
        all_goals
          rw [hz0] at sg
          have HKT := Lib.hid (fun kk : Kept _ _ => HT0.out _ (HB4.out.2.2.trans (Below.mono kk.below HB4.out.2.2.size)))
          refine wp_region_kept (by kernel_rfl) (by kernel_rfl) ?_
          repeat (go_big_quiet_step ((first | (go_at_call 10; exact Calls.kept_of (H9.out _ _ _ (HKT.out _) rfl rfl) (Nat.le_refl _)) | (go_at_call 10; exact Calls.kept_of (H7.out _ _ _ (HKT.out _) rfl rfl) (Nat.le_refl _)))))
          refine wpQuiet_nil ?_
          intro _ hw'
          obtain ⟨kk, rfl⟩ := hw'
          have HB5 := Lib.hid (HB4.out.below kk.below)
          clear k1 k2 k3 k4 d1 d2 d3 d4 e3 e4 m1 m2 HB4 hz0 sg
          revert HB5
          generalize kk.w = w5
          clear kk
          intro HB5
          obtain ⟨d1, d2, d3, d4, e3, e4, m1, m2⟩ := HB5.out.cells
          go_wp2_with fail
          have hb5 := HB5.out.2.2
          refine (H8.out _ (HT0.out _ hb5)).mono ?_
          rintro e w6 ⟨rfl, hw6⟩
          go_wp2_with fail
          refine (HL.out _ (HT0.out _ (hb5.trans (hw6.mono hb5.size)))).mono ?_
          rintro e w7 ⟨rfl, hw7⟩
          go_wp2
          go_ret
          exact ⟨rfl, (hb5.trans (hw6.mono hb5.size)).trans (hw7.mono (hb5.trans (hw6.mono hb5.size)).size)⟩
    · have hcase : 64 ≤ s ∨ (¬ 64 ≤ s ∧ 8190 < n) := by omega
      clear h hi D s1 s2 n1 n2
      rcases hcase with g1 | ⟨g1, g2⟩
      all_goals
        go_enter Tryd.func7, Tryd.ntmps7
        go_wp2_with fail
        refine (H1.out _ (HT0.out _ HB.out.2.2)).mono ?_
        rintro e w1 ⟨rfl, hw1⟩
        have HB1 := Lib.hid (HB.out.below hw1)
        obtain ⟨d1, d2, d3, d4, e3, e4, m1, m2⟩ := HB1.out.cells
        go_wp2_with fail
        refine (HL.out _ (HT0.out _ HB1.out.2.2)).mono ?_
        rintro e w2 ⟨rfl, hw2⟩
        go_wp2
        go_ret
        exact ⟨rfl, HB1.out.2.2.trans (hw2.mono HB1.out.2.2.size)⟩
  · have h' : rightC s n = false := by simpa using h
    rw [h'] at H1
    clear h h' D s1 s2 n1 n2
    go_enter Tryd.func7, Tryd.ntmps7
    go_wp2_with fail
    refine (H1.out _ (HT0.out _ HB.out.2.2)).mono ?_
    rintro e w1 ⟨rfl, hw1⟩
    have HB1 := Lib.hid (HB.out.below hw1)
    go_wp2_with fail
    refine (HL.out _ (HT0.out _ HB1.out.2.2)).mono ?_
    rintro e w2 ⟨rfl, hw2⟩
    go_wp2
    go_ret
    exact ⟨rfl, HB1.out.2.2.trans (hw2.mono HB1.out.2.2.size)⟩
end Go.Proofs.YtemkmkkpamhfoaaDoor.Lay
