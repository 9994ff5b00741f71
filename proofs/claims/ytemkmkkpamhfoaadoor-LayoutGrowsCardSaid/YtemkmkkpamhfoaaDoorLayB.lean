/- Contracts of the document's functions on the layout: places. -/
import Derived.Test.YtemkmkkpamhfoaaDoorLayA
namespace Go.Proofs.YtemkmkkpamhfoaaDoor.Lay
open Go.RowKit
set_option linter.unusedVariables false

theorem runsT_last (s n : Nat) : 5 ≤ (runsT s n).length ∧ (runsT s n).length ≤ 6 ∧ ((runsT s n).getD ((runsT s n).length - 1) (0, 0, 0)).1 = baseT s n := by
  unfold runsT
  split <;> simp [List.getD]

set_option maxRecDepth 100000 in
theorem refMost_any (s n : Int) (w : World) : Calls Tryd.prog 15 #[.agg #[.int .i64 s, .int .i64 n]] w fun e w' => e = .returned (.int .i64 (mostC s n)) ∧ Below w.heap.size w w' := by
  have HR := Lib.hid (fun u => refRight_any s n u)
  by_cases h : rightC s n = true
  · have hc : mostC s n = 32 * s.toNat := by rw [mostC, if_pos h]
    rw [hc]
    rw [h] at HR
    obtain ⟨S, N, rfl, rfl, b1, b2, b3, b4, b5⟩ := right_nat h
    rw [Int.toNat_natCast]
    have e1 : (32 : Int) * S = ((32 * S : Nat) : Int) := by simp
    have HE := Lib.hid e1
    have f1 : (S : Int) ≤ 64 := by omega
    clear h hc b1 b2 b3 b4 b5 e1
    go_enter Tryd.func15, Tryd.ntmps15
    go_wp2_with (go_at_call 9; refine (HR.out _).mono ?_; rintro e w1 ⟨rfl, hw1⟩; obtain ⟨c1, c2, hlt1, hb1⟩ := one_box hw1)
    go_ret
    exact ⟨ret_int HE.out, hb1⟩
  · have hc : mostC s n = 0 := by rw [mostC, if_neg h]
    have h' : rightC s n = false := by simpa using h
    rw [hc]
    rw [h'] at HR
    clear h h' hc
    go_enter Tryd.func15, Tryd.ntmps15
    go_wp2_with (go_at_call 9; refine (HR.out _).mono ?_; rintro e w1 ⟨rfl, hw1⟩; obtain ⟨c1, c2, hlt1, hb1⟩ := one_box hw1)
    go_ret
    exact ⟨rfl, hb1⟩

set_option maxRecDepth 100000 in
theorem refBase_any (s n : Int) (w : World) : Calls Tryd.prog 13 #[.agg #[.int .i64 s, .int .i64 n]] w fun e w' => e = .returned (.int .i64 (baseC s n)) ∧ Below w.heap.size w w' := by
  have HR := Lib.hid (fun u => refRuns_any s n u)
  unfold RGot at HR
  by_cases h : rightC s n = true
  · have hc : baseC s n = baseT s.toNat n.toNat := by rw [baseC, if_pos h]
    have hr : runsC s n = runsT s.toNat n.toNat := by rw [runsC, if_pos h]
    obtain ⟨l1, l2, l3⟩ := runsT_last s.toNat n.toNat
    rw [hr] at HR
    rw [hc, ← l3]
    generalize runsT s.toNat n.toNat = P at HR l1 l2 l3 ⊢
    have g1 : ((P.length : Int) == 0) = false := by rw [beq_eq_false_iff_ne]; omega
    have g1' : ¬ P.length = 0 := by omega
    have g1'' : ¬ P = [] := by rintro rfl; simp at g1'
    obtain ⟨k, hk⟩ : ∃ k, k = P.length - 1 := ⟨_, rfl⟩
    rw [← hk]
    have g2 : (P.length : Int) - 1 = (k : Int) := by omega
    have g2' : IntKind.i64.wrap ((P.length : Int) - 1) = (k : Int) := (wrap_id (by omega) (by omega)).trans g2
    have g3 : (k : Int) < (P.length : Int) := by omega
    have g4 : (0 : Int) ≤ (k : Int) := by omega
    have g5 : k < P.length := by omega
    obtain ⟨x, hx⟩ : ∃ x, x = (P.getD k (0, 0, 0)).1 := ⟨_, rfl⟩
    rw [← hx]
    have HX := Lib.hid hx
    have hP6 : (P.length : Int) ≤ 6 := by omega
    have hk6 : (k : Int) ≤ 6 := by omega
    clear h hc hr l2 l3 hk hx
    go_enter Tryd.func13, Tryd.ntmps13
    go_wp2_with fail
    refine (HR.out _).mono ?_
    rintro e w1 ⟨u, rfl, hb1, hu⟩
    obtain ⟨a, cap, rfl, -, -, hcc⟩ := hu
    obtain ⟨b, off, rfl, -, hc2⟩ := hcc (by rintro rfl; simp at g5)
    have hcell := hc2 k g5 0 _ rfl
    have hb : Below w.heap.size w w1 := (below_made w _).trans (hb1.mono (by have := size_alloc w (.cells #[.int .i64 s, .int .i64 n] 23); omega))
    rw [← HX.out, Nat.add_zero] at hcell
    clear hcc hc2 hb1
    go_wp2
    go_ret
    exact ⟨rfl, hb⟩
  · have hc : baseC s n = 0 := by rw [baseC, if_neg h]
    have hr : runsC s n = [] := by rw [runsC, if_neg h]
    rw [hr] at HR
    rw [hc]
    clear h hc hr
    go_enter Tryd.func13, Tryd.ntmps13
    go_wp2_with fail
    refine (HR.out _).mono ?_
    rintro e w1 ⟨u, rfl, hb1, hu⟩
    obtain ⟨a, cap, rfl, -, -, -⟩ := hu
    have hb : Below w.heap.size w w1 := (below_made w _).trans (hb1.mono (by have := size_alloc w (.cells #[.int .i64 s, .int .i64 n] 23); omega))
    go_wp2
    go_ret
    exact ⟨rfl, hb⟩

set_option maxRecDepth 100000 in
theorem refSize_any (s n : Int) (w : World) : Calls Tryd.prog 11 #[.agg #[.int .i64 s, .int .i64 n]] w fun e w' => e = .returned (.int .i64 (sizeC s n)) ∧ Below w.heap.size w w' := by
  have HR := Lib.hid (fun u => refRight_any s n u)
  by_cases h : rightC s n = true
  · rw [h] at HR
    have hc : sizeC s n = sizeT s.toNat n.toNat := by rw [sizeC, if_pos h]
    have hB : baseC s n = baseT s.toNat n.toNat := by rw [baseC, if_pos h]
    have hbs := fun u => refBase_any s n u
    rw [hB] at hbs
    have HB := Lib.hid hbs
    rw [hc]
    clear hB hbs
    obtain ⟨S, N, rfl, rfl, b1, b2, b3, b4, b5⟩ := right_nat h
    simp only [Int.toNat_natCast] at HB ⊢
    have hb16 := base_sixteen (s := S) b3
    have hend : endT S N ≤ 34000 := by unfold endT; omega
    have f1 : (S : Int) ≤ 64 := by omega
    have hsz : sizeT S N = baseT S N + 1024 * S := rfl
    rw [hsz]
    generalize baseT S N = B at HB hb16 ⊢
    have f2 : (B : Int) ≤ 34100 := by omega
    have HE : Hid ((B : Int) + 1024 * S = ((B + 1024 * S : Nat) : Int)) := by unfold Hid; omega
    clear hb16 hend hsz h hc b1 b2 b3 b4 b5
    go_enter Tryd.func11, Tryd.ntmps11
    go_wp2_with (go_at_call 9; refine (HR.out _).mono ?_; rintro e w1 ⟨rfl, hw1⟩; obtain ⟨c1, c2, hlt1, hb1⟩ := one_box hw1)
    have k1 := Kept.cell c1 hlt1
    have k2 := Kept.cell c2 hlt1
    refine wp_region_kept (by kernel_rfl) (by kernel_rfl) ?_
    repeat (go_big_quiet_step ((go_at_call 13; exact Calls.kept_of (HB.out _) (Nat.le_refl _))))
    refine wpQuiet_nil ?_
    intro _ hw'
    obtain ⟨kk, rfl⟩ := hw'
    have hb2 := hb1.trans (kk.below.mono hb1.size)
    go_wp2
    go_ret
    exact ⟨ret_int HE.out, hb2⟩
  · have hc : sizeC s n = 0 := by rw [sizeC, if_neg h]
    have h' : rightC s n = false := by simpa using h
    rw [hc]
    rw [h'] at HR
    clear h h' hc
    go_enter Tryd.func11, Tryd.ntmps11
    go_wp2_with (go_at_call 9; refine (HR.out _).mono ?_; rintro e w1 ⟨rfl, hw1⟩; obtain ⟨c1, c2, hlt1, hb1⟩ := one_box hw1)
    go_ret
    exact ⟨rfl, hb1⟩

set_option maxRecDepth 100000 in
theorem refHeadAt_any (s n i : Int) (w : World) (i1 : -9223372036854775808 ≤ i) (i2 : i ≤ 9223372036854775807) : Calls Tryd.prog 23 #[.agg #[.int .i64 s, .int .i64 n], .int .i64 i] w fun e w' => e = .returned (.int .i64 (headC s n i)) ∧ Below w.heap.size w w' := by
  have HR := Lib.hid (fun u => refRight_any s n u)
  by_cases h : rightC s n = true
  · rw [h] at HR
    by_cases hi : 0 ≤ i ∧ i < s
    · have hc : headC s n i = 128 + 16 * i.toNat := by rw [headC, if_pos ⟨h, hi.1, hi.2⟩]
      rw [hc]
      obtain ⟨S, N, rfl, rfl, b1, b2, b3, b4, b5⟩ := right_nat h
      obtain ⟨I, rfl⟩ := Int.eq_ofNat_of_zero_le hi.1
      simp only [Int.toNat_natCast]
      have g1 : ¬ (I : Int) < 0 := by omega
      have g2 : ¬ (S : Int) ≤ (I : Int) := by omega
      have HE : Hid ((128 : Int) + 16 * I = ((128 + 16 * I : Nat) : Int)) := by unfold Hid; omega
      have f1 : (I : Int) ≤ 64 := by omega
      clear h hc hi b1 b2 b3 b4 b5
      go_enter Tryd.func23, Tryd.ntmps23
      go_wp2_with (go_at_call 9; refine (HR.out _).mono ?_; rintro e w1 ⟨rfl, hw1⟩; obtain ⟨c1, c2, hlt1, hb1⟩ := one_box hw1)
      go_ret
      exact ⟨ret_int HE.out, hb1⟩
    · have hc : headC s n i = 0 := by rw [headC, if_neg (fun x => hi x.2)]
      rw [hc]
      have hcase : i < 0 ∨ (¬ i < 0 ∧ s ≤ i) := by omega
      clear h hc hi
      rcases hcase with g1 | ⟨g1, g2⟩
      · go_enter Tryd.func23, Tryd.ntmps23
        go_wp2_with (go_at_call 9; refine (HR.out _).mono ?_; rintro e w1 ⟨rfl, hw1⟩; obtain ⟨c1, c2, hlt1, hb1⟩ := one_box hw1)
        go_ret
        exact ⟨rfl, hb1⟩
      · go_enter Tryd.func23, Tryd.ntmps23
        go_wp2_with (go_at_call 9; refine (HR.out _).mono ?_; rintro e w1 ⟨rfl, hw1⟩; obtain ⟨c1, c2, hlt1, hb1⟩ := one_box hw1)
        go_ret
        exact ⟨rfl, hb1⟩
  · have hc : headC s n i = 0 := by rw [headC, if_neg (fun x => h x.1)]
    have h' : rightC s n = false := by simpa using h
    rw [hc]
    rw [h'] at HR
    clear h h' hc
    go_enter Tryd.func23, Tryd.ntmps23
    go_wp2_with (go_at_call 9; refine (HR.out _).mono ?_; rintro e w1 ⟨rfl, hw1⟩; obtain ⟨c1, c2, hlt1, hb1⟩ := one_box hw1)
    go_ret
    exact ⟨rfl, hb1⟩

set_option maxRecDepth 100000 in
theorem refSlotAt_any (s n i : Int) (w : World) (i1 : -9223372036854775808 ≤ i) (i2 : i ≤ 9223372036854775807) : Calls Tryd.prog 25 #[.agg #[.int .i64 s, .int .i64 n], .int .i64 i] w fun e w' => e = .returned (.int .i64 (slotC s n i)) ∧ Below w.heap.size w w' := by
  have HR := Lib.hid (fun u => refRight_any s n u)
  by_cases h : rightC s n = true
  · rw [h] at HR
    by_cases hi : 0 ≤ i ∧ i < n
    · have hc : slotC s n i = slT s.toNat + 4 * i.toNat := by rw [slotC, if_pos ⟨h, hi.1, hi.2⟩]
      rw [hc]
      obtain ⟨S, N, rfl, rfl, b1, b2, b3, b4, b5⟩ := right_nat h
      obtain ⟨I, rfl⟩ := Int.eq_ofNat_of_zero_le hi.1
      simp only [Int.toNat_natCast]
      have g1 : ¬ (I : Int) < 0 := by omega
      have g2 : ¬ (N : Int) ≤ (I : Int) := by omega
      have HE : Hid ((128 : Int) + 16 * S + 4 * I = ((slT S + 4 * I : Nat) : Int)) := by unfold Hid slT; omega
      have f1 : (I : Int) ≤ 8192 := by omega
      have f2 : (S : Int) ≤ 64 := by omega
      clear h hc hi b1 b2 b3 b4 b5
      go_enter Tryd.func25, Tryd.ntmps25
      go_wp2_with (go_at_call 9; refine (HR.out _).mono ?_; rintro e w1 ⟨rfl, hw1⟩; obtain ⟨c1, c2, hlt1, hb1⟩ := one_box hw1)
      go_ret
      exact ⟨ret_int HE.out, hb1⟩
    · have hc : slotC s n i = 0 := by rw [slotC, if_neg (fun x => hi x.2)]
      rw [hc]
      have hcase : i < 0 ∨ (¬ i < 0 ∧ n ≤ i) := by omega
      clear h hc hi
      rcases hcase with g1 | ⟨g1, g2⟩
      · go_enter Tryd.func25, Tryd.ntmps25
        go_wp2_with (go_at_call 9; refine (HR.out _).mono ?_; rintro e w1 ⟨rfl, hw1⟩; obtain ⟨c1, c2, hlt1, hb1⟩ := one_box hw1)
        go_ret
        exact ⟨rfl, hb1⟩
      · go_enter Tryd.func25, Tryd.ntmps25
        go_wp2_with (go_at_call 9; refine (HR.out _).mono ?_; rintro e w1 ⟨rfl, hw1⟩; obtain ⟨c1, c2, hlt1, hb1⟩ := one_box hw1)
        go_ret
        exact ⟨rfl, hb1⟩
  · have hc : slotC s n i = 0 := by rw [slotC, if_neg (fun x => h x.1)]
    have h' : rightC s n = false := by simpa using h
    rw [hc]
    rw [h'] at HR
    clear h h' hc
    go_enter Tryd.func25, Tryd.ntmps25
    go_wp2_with (go_at_call 9; refine (HR.out _).mono ?_; rintro e w1 ⟨rfl, hw1⟩; obtain ⟨c1, c2, hlt1, hb1⟩ := one_box hw1)
    go_ret
    exact ⟨rfl, hb1⟩

set_option maxRecDepth 100000 in
theorem refSlabAt_any (s n i : Int) (w : World) (i1 : -9223372036854775808 ≤ i) (i2 : i ≤ 9223372036854775807) : Calls Tryd.prog 27 #[.agg #[.int .i64 s, .int .i64 n], .int .i64 i] w fun e w' => e = .returned (.int .i64 (slabC s n i)) ∧ Below w.heap.size w w' := by
  have HR := Lib.hid (fun u => refRight_any s n u)
  by_cases h : rightC s n = true
  · rw [h] at HR
    by_cases hi : 0 ≤ i ∧ i < s
    · have hc : slabC s n i = baseT s.toNat n.toNat + 1024 * i.toNat := by rw [slabC, if_pos ⟨h, hi.1, hi.2⟩]
      rw [hc]
      have hB : baseC s n = baseT s.toNat n.toNat := by rw [baseC, if_pos h]
      have hbs := fun u => refBase_any s n u
      rw [hB] at hbs
      have HB := Lib.hid hbs
      clear hB hbs
      obtain ⟨S, N, rfl, rfl, b1, b2, b3, b4, b5⟩ := right_nat h
      obtain ⟨I, rfl⟩ := Int.eq_ofNat_of_zero_le hi.1
      simp only [Int.toNat_natCast]
      have g1 : ¬ (I : Int) < 0 := by omega
      have g2 : ¬ (S : Int) ≤ (I : Int) := by omega
      simp only [Int.toNat_natCast] at HB
      have hb16 := base_sixteen (s := S) b3
      have hend : endT S N ≤ 34000 := by unfold endT; omega
      have f1 : (I : Int) ≤ 64 := by omega
      generalize baseT S N = B at HB hb16 ⊢
      have f2 : (B : Int) ≤ 34100 := by omega
      have HE : Hid ((B : Int) + 1024 * I = ((B + 1024 * I : Nat) : Int)) := by unfold Hid; omega
      clear hb16 hend
      clear h hc hi b1 b2 b3 b4 b5
      go_enter Tryd.func27, Tryd.ntmps27
      go_wp2_with (first | (go_at_call 9; refine (HR.out _).mono ?_; rintro e w1 ⟨rfl, hw1⟩; obtain ⟨c1, c2, hlt1, hb1⟩ := one_box hw1) | (go_at_call 13; refine (HB.out _).mono ?_; rintro e w2 ⟨rfl, hw2⟩; have d1 := (hw2.cell (p := ⟨w.heap.size, 0, none⟩) hlt1).trans c1; have d2 := (hw2.cell (p := ⟨w.heap.size, 1, none⟩) hlt1).trans c2; have hb2 := hb1.trans (hw2.mono hb1.size)))
      go_ret
      exact ⟨ret_int HE.out, hb2⟩
    · have hc : slabC s n i = 0 := by rw [slabC, if_neg (fun x => hi x.2)]
      rw [hc]
      have hcase : i < 0 ∨ (¬ i < 0 ∧ s ≤ i) := by omega
      clear h hc hi
      rcases hcase with g1 | ⟨g1, g2⟩
      · go_enter Tryd.func27, Tryd.ntmps27
        go_wp2_with (go_at_call 9; refine (HR.out _).mono ?_; rintro e w1 ⟨rfl, hw1⟩; obtain ⟨c1, c2, hlt1, hb1⟩ := one_box hw1)
        go_ret
        exact ⟨rfl, hb1⟩
      · go_enter Tryd.func27, Tryd.ntmps27
        go_wp2_with (go_at_call 9; refine (HR.out _).mono ?_; rintro e w1 ⟨rfl, hw1⟩; obtain ⟨c1, c2, hlt1, hb1⟩ := one_box hw1)
        go_ret
        exact ⟨rfl, hb1⟩
  · have hc : slabC s n i = 0 := by rw [slabC, if_neg (fun x => h x.1)]
    have h' : rightC s n = false := by simpa using h
    rw [hc]
    rw [h'] at HR
    clear h h' hc
    go_enter Tryd.func27, Tryd.ntmps27
    go_wp2_with (go_at_call 9; refine (HR.out _).mono ?_; rintro e w1 ⟨rfl, hw1⟩; obtain ⟨c1, c2, hlt1, hb1⟩ := one_box hw1)
    go_ret
    exact ⟨rfl, hb1⟩

theorem inC_yes {s n : Int} {S N k : Nat} {a : Int} (h : rightC s n = true) (hs : s = S) (hn : n = N) (hk : k < S) (h1 : (baseT S N : Int) + 1024 * k ≤ a) (h2 : a < (baseT S N : Int) + 1024 * k + 1024) : inC s n a = (k, true) := by
  subst hs hn
  unfold inC
  simp only [Int.toNat_natCast]
  have hz : sizeT S N = baseT S N + 1024 * S := rfl
  rw [if_pos ⟨h, by omega, by omega⟩]
  congr 1
  omega
theorem inC_no {s n : Int} {S N : Nat} {a : Int} (hs : s = S) (hn : n = N) (h : ∀ k, k < S → ¬ ((baseT S N : Int) + 1024 * k ≤ a ∧ a < (baseT S N : Int) + 1024 * k + 1024)) : inC s n a = (0, false) := by
  subst hs hn
  unfold inC
  simp only [Int.toNat_natCast]
  have hz : sizeT S N = baseT S N + 1024 * S := rfl
  rw [if_neg]
  rintro ⟨-, h1, h2⟩
  exact h ((a - baseT S N) / 1024).toNat (by omega) (by omega)

set_option maxRecDepth 100000 in
set_option maxHeartbeats 2000000 in
theorem refSlab_any (s n a : Int) (w : World) (i1 : -9223372036854775808 ≤ a) (i2 : a ≤ 9223372036854775807) : Calls Tryd.prog 21 #[.agg #[.int .i64 s, .int .i64 n], .int .i64 a] w fun e w' => e = .returned (.tuple #[.int .i64 (inC s n a).1, .bool (inC s n a).2]) ∧ Below w.heap.size w w' := by
  have HR := Lib.hid (fun u => refRight_any s n u)
  obtain ⟨R, hR⟩ : ∃ R, R = inC s n a := ⟨_, rfl⟩
  rw [← hR]
  obtain ⟨c1, c2, hlt1, hb0⟩ := one_box (Below.refl (W1 w s n).heap.size (W1 w s n))
  unfold W1 at c1 c2 hlt1 hb0
  by_cases h : rightC s n = true
  · rw [h] at HR
    obtain ⟨S, N, rfl, rfl, b1, b2, b3, b4, b5⟩ := right_nat h
    have HP := Lib.hid (fun k u (hk : k < S) => show Calls Tryd.prog 27 #[.agg #[.int .i64 (S : Int), .int .i64 (N : Int)], .int .i64 (k : Int)] u fun e w' => e = .returned (.int .i64 ((baseT S N + 1024 * k : Nat) : Int)) ∧ Below u.heap.size u w' from by
      have := refSlabAt_any (S : Int) (N : Int) (k : Int) u (by omega) (by omega)
      rw [show slabC (S : Int) (N : Int) (k : Int) = baseT S N + 1024 * k by rw [slabC, if_pos ⟨h, by omega, by omega⟩]; simp] at this
      exact this)
    have HY := Lib.hid (fun k (hk : k < S) h1 h2 => hR.trans (inC_yes (k := k) (a := a) h rfl rfl hk h1 h2))
    have HN := Lib.hid (fun hh => hR.trans (inC_no (a := a) rfl rfl hh))
    have hb16 := base_sixteen (s := S) b3
    have hend : endT S N ≤ 34000 := by unfold endT; omega
    have f1 : (S : Int) ≤ 64 := by omega
    generalize baseT S N = B at HP HY HN hb16
    have f2 : (B : Int) ≤ 34100 := by omega
    have HC1 := Lib.hid c1
    have HC2 := Lib.hid c2
    clear hR h b1 b2 b3 b4 b5 hb16 hend c1 c2
    go_enter Tryd.func21, Tryd.ntmps21
    go_wp2
    go_loopw [6] (fun i wr => ∃ k : Nat, k ≤ S ∧ i = .int .i64 k ∧ Hid (∀ j, j < k → ¬ ((B : Int) + 1024 * j ≤ a ∧ a < (B : Int) + 1024 * j + 1024)) ∧ Hid (wr.cell? ⟨w.heap.size, 0, none⟩ = some (.int .i64 (S : Int))) ∧ Hid (wr.cell? ⟨w.heap.size, 1, none⟩ = some (.int .i64 (N : Int))) ∧ w.heap.size < wr.heap.size ∧ Below w.heap.size w wr) (fun i _ => S - (intOf i).toNat)
    case atStart => exact ⟨0, Nat.zero_le _, rfl, fun j hj => by omega, HC1, HC2, hlt1, hb0⟩
    case round =>
      clear hb0 hlt1
      obtain ⟨k, hk, rfl, HJ, HC1, HC2, hlt1, hb⟩ := hrel
      have c1 := HC1.out
      have c2 := HC2.out
      clear HC1 HC2
      by_cases hlt : k < S
      · have hlt2 : (k : Int) < (S : Int) := by omega
        have HPk := Lib.hid (fun u => HP.out k u hlt)
        obtain ⟨y, hy⟩ : ∃ y, y = B + 1024 * k := ⟨_, rfl⟩
        rw [← hy] at HPk
        have hy6 : (y : Int) ≤ 100000 := by omega
        by_cases hin : (y : Int) ≤ a ∧ a < (y : Int) + 1024
        · have HE := Lib.hid (HY.out k hlt (by omega) (by omega))
          obtain ⟨g1, g2⟩ := hin
          clear hy
          go_wp2_with (first | (go_at_call 9; refine (HR.out _).mono ?_; rintro e w1 ⟨rfl, hw1⟩; replace c1 := (hw1.cell (p := ⟨w.heap.size, 0, none⟩) hlt1).trans c1; replace c2 := (hw1.cell (p := ⟨w.heap.size, 1, none⟩) hlt1).trans c2; replace hb := hb.trans (hw1.mono hb.size); replace hlt1 := Nat.lt_of_lt_of_le hlt1 hw1.size; clear hw1) | (go_at_call 27; refine (HPk.out _).mono ?_; rintro e w1 ⟨rfl, hw1⟩; replace c1 := (hw1.cell (p := ⟨w.heap.size, 0, none⟩) hlt1).trans c1; replace c2 := (hw1.cell (p := ⟨w.heap.size, 1, none⟩) hlt1).trans c2; replace hb := hb.trans (hw1.mono hb.size); replace hlt1 := Nat.lt_of_lt_of_le hlt1 hw1.size; clear hw1))
          go_ret2
          exact ⟨by rw [HE.out]; rfl, hb⟩
        · have HJ2 : Hid (∀ j, j < k + 1 → ¬ ((B : Int) + 1024 * j ≤ a ∧ a < (B : Int) + 1024 * j + 1024)) := by
            intro j hj
            by_cases e : j = k
            · subst e; omega
            · exact HJ.out j (by omega)
          have hcase : ¬ (y : Int) ≤ a ∨ ((y : Int) ≤ a ∧ ¬ a < (y : Int) + 1024) := by omega
          clear hy hin HJ
          rcases hcase with g1 | ⟨g1, g2⟩
          · go_wp2_with (first | (go_at_call 9; refine (HR.out _).mono ?_; rintro e w1 ⟨rfl, hw1⟩; replace c1 := (hw1.cell (p := ⟨w.heap.size, 0, none⟩) hlt1).trans c1; replace c2 := (hw1.cell (p := ⟨w.heap.size, 1, none⟩) hlt1).trans c2; replace hb := hb.trans (hw1.mono hb.size); replace hlt1 := Nat.lt_of_lt_of_le hlt1 hw1.size; clear hw1) | (go_at_call 27; refine (HPk.out _).mono ?_; rintro e w1 ⟨rfl, hw1⟩; replace c1 := (hw1.cell (p := ⟨w.heap.size, 0, none⟩) hlt1).trans c1; replace c2 := (hw1.cell (p := ⟨w.heap.size, 1, none⟩) hlt1).trans c2; replace hb := hb.trans (hw1.mono hb.size); replace hlt1 := Nat.lt_of_lt_of_le hlt1 hw1.size; clear hw1))
            go_roundw
            case rel => exact ⟨k + 1, by omega, by go_num, HJ2, c1, c2, hlt1, hb⟩
            case measure => simp [intOf]; omega
          · go_wp2_with (first | (go_at_call 9; refine (HR.out _).mono ?_; rintro e w1 ⟨rfl, hw1⟩; replace c1 := (hw1.cell (p := ⟨w.heap.size, 0, none⟩) hlt1).trans c1; replace c2 := (hw1.cell (p := ⟨w.heap.size, 1, none⟩) hlt1).trans c2; replace hb := hb.trans (hw1.mono hb.size); replace hlt1 := Nat.lt_of_lt_of_le hlt1 hw1.size; clear hw1) | (go_at_call 27; refine (HPk.out _).mono ?_; rintro e w1 ⟨rfl, hw1⟩; replace c1 := (hw1.cell (p := ⟨w.heap.size, 0, none⟩) hlt1).trans c1; replace c2 := (hw1.cell (p := ⟨w.heap.size, 1, none⟩) hlt1).trans c2; replace hb := hb.trans (hw1.mono hb.size); replace hlt1 := Nat.lt_of_lt_of_le hlt1 hw1.size; clear hw1))
            go_roundw
            case rel => exact ⟨k + 1, by omega, by go_num, HJ2, c1, c2, hlt1, hb⟩
            case measure => simp [intOf]; omega
      · obtain rfl : k = S := by omega
        have HE := Lib.hid (HN.out HJ.out)
        go_wp2_with (go_at_call 9; refine (HR.out _).mono ?_; rintro e w1 ⟨rfl, hw1⟩; replace c1 := (hw1.cell (p := ⟨w.heap.size, 0, none⟩) hlt1).trans c1; replace c2 := (hw1.cell (p := ⟨w.heap.size, 1, none⟩) hlt1).trans c2; replace hb := hb.trans (hw1.mono hb.size); replace hlt1 := Nat.lt_of_lt_of_le hlt1 hw1.size; clear hw1)
        go_ret2
        exact ⟨by rw [HE.out]; rfl, hb⟩
  · have h' : rightC s n = false := by simpa using h
    have hc : R = (0, false) := by rw [hR, inC, if_neg (fun x => h x.1)]
    rw [hc]
    rw [h'] at HR
    clear h h' hc hR
    go_enter Tryd.func21, Tryd.ntmps21
    go_wp2
    refine wp_loop_rounds 1 ?_
    rw [rounds_succ]
    go_wp2_with (go_at_call 9; refine (HR.out _).mono ?_; rintro e w1 ⟨rfl, hw1⟩; have hb1 := hb0.trans (hw1.mono hb0.size))
    go_ret2
    exact ⟨rfl, hb1⟩
end Go.Proofs.YtemkmkkpamhfoaaDoor.Lay
