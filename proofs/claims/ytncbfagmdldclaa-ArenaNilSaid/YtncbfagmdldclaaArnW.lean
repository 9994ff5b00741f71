/- Contracts of the landed arena: its making, its length, what is read of it. -/
import Derived.Test.YtncbfagmdldclaaArnH
namespace Go.Proofs.Ytncbfagmdldclaa.Arn
open Go.RowKit Num
set_option linter.unusedVariables false

/-- The code's arena: a block with a slice of bytes, and that one's block. -/
structure Hn where
  g : Nat
  b : Nat
  n : Nat
def blkC (h : Hn) (k : Nat) : Prop := k = h.g ∨ k = h.b
def ArC (h : Hn) (w : World) (v : Value) (l : List Int) : Prop :=
  v = .pointer (some ⟨h.g, 0, none⟩) ∧ w.heap[h.g]? = some (.cells #[.slice (some ⟨h.b, 0, none⟩) l.length l.length] 57 (0, 0)) ∧ w.heap[h.b]? = some (.cells (vals l).toArray 5 (0, 0)) ∧ mayN l.length = true ∧ IsBytes l ∧ l.length = h.n
theorem ArC.lt {h : Hn} {w : World} {v : Value} {l : List Int} (ha : ArC h w v l) : ∀ k, blkC h k → k < w.heap.size := by
  obtain ⟨-, h1, h2, -⟩ := ha
  rintro k (rfl | rfl)
  · exact lt_of_block h1
  · exact lt_of_block h2
theorem ArC.stay {h : Hn} {w w' : World} {v : Value} {l : List Int} {N : Nat} {T : Nat → Prop} (ha : ArC h w v l) (hf : Fr N T w w') (hk : ∀ k, blkC h k → k < N ∧ ¬ T k) : ArC h w' v l := by
  obtain ⟨h0, h1, h2, h3⟩ := ha
  exact ⟨h0, (hf.block _ (hk _ (.inl rfl)).1 (hk _ (.inl rfl)).2).trans h1, (hf.block _ (hk _ (.inr rfl)).1 (hk _ (.inr rfl)).2).trans h2, h3⟩
theorem ArC.below {h : Hn} {w w' : World} {v : Value} {l : List Int} (ha : ArC h w v l) (hb : Below w.heap.size w w') : ArC h w' v l :=
  ha.stay (Fr.of_below (S := fun _ => False) hb) (fun k hk => ⟨ha.lt k hk, fun h => h⟩)
theorem ArC.row {h : Hn} {w : World} {v : Value} {l : List Int} (ha : ArC h w v l) : Row .u8 w (.slice (some ⟨h.b, 0, none⟩) l.length l.length) l := by
  obtain ⟨-, -, h2, h3, h4, -⟩ := ha
  have := mayN_bd h3
  exact row_of_block h2 h4 (by omega)
theorem ArC.len {h : Hn} {w : World} {v : Value} {l : List Int} (ha : ArC h w v l) : 16 ≤ l.length ∧ l.length ≤ 1048576 := by
  obtain ⟨-, -, -, h3, -⟩ := ha
  have := mayN_bd h3
  omega
theorem ArC.ne {h : Hn} {w : World} {v : Value} {l : List Int} (ha : ArC h w v l) : h.g ≠ h.b := by
  have hl := ha.len
  obtain ⟨-, h1, h2, -, -⟩ := ha
  intro e
  rw [e, h2] at h1
  injection h1 with h1
  injection h1 with h1
  have := congrArg Array.size h1
  simp [vals] at this
  omega

theorem sized_any (n : Int) (w : World) : Calls Try.prog 24 #[.int .i64 n] w fun e w' => e = .returned (.bool (mayN n)) ∧ w = w' := by
  by_cases h1 : 16 ≤ n
  · by_cases h2 : n ≤ 1048576
    · go_enter Try.func24, Try.ntmps24
      go_wp2
      go_ret
      exact ⟨ret_bool (by simp only [mayN, h1, h2, decide_true, Bool.true_and]; exact Bool.eq_iff_iff.2 (by simp)), rfl⟩
    · go_enter Try.func24, Try.ntmps24
      go_wp2
      go_ret
      exact ⟨ret_bool (by simp [mayN]; omega), rfl⟩
  · go_enter Try.func24, Try.ntmps24
    go_wp2
    go_ret
    exact ⟨ret_bool (by simp [mayN]; omega), rfl⟩

set_option maxRecDepth 100000 in
theorem cloneA_any (v : Value) (l : List Int) (w : World) (hr : Row .u8 w v l) (h : l.length ≤ 1000000000) :
    Calls Try.prog 33 #[v] w fun e w' => e = .returned (.slice (some ⟨w.heap.size, 0, none⟩) l.length l.length) ∧ w' = w.alloc (.cells (vals l).toArray 5) := by
  obtain ⟨i0, hi, hz0, hz1, hz2⟩ := info_parts infoB
  have HB := Lib.hid hr.bytes
  obtain ⟨a, cap, rfl, q2, q3, q4, q5⟩ := hr
  have HQ := Lib.hid q5
  clear q4 q5
  by_cases hn : l = []
  · subst hn
    have H0 : Hid (w.alloc (.cells (madeCells #[.int .u8 0] 0) 5) = w.alloc (.cells (vals []).toArray 5)) := by
      unfold Hid; rw [madeCells_one]; rfl
    go_enter Try.func33, Try.ntmps33
    go_wp2_with (first | (refine wpList_make_row rfl (.tmp 5) (.tmp 5) 32 rfl 5 i0 (.int .u8 0) 1 Try.underlying32 hi hz0 hz1 hz2 .i64 .i64 0 rfl rfl (by omega) (by omega) ?_) | (refine wpList_copy_nothing rfl (.tmp 7) (.tmp 8) 32 32 rfl 5 Try.underlying32 (by kernel_rfl) _ _ _ _ _ _ rfl rfl rfl ?_))
    go_wp2
    go_ret
    exact ⟨rfl, H0.out⟩
  · obtain ⟨b, off, rfl, hlb, hc⟩ := HQ.out hn
    have HN : Hid ((w.alloc (.cells (madeCells #[.int .u8 0] l.length) 5)).setRow w.heap.size (vals l).toArray = w.alloc (.cells (vals l).toArray 5)) := setRow_alloc _ _ _ _
    have HS : Hid (∀ j u, (vals l)[j]? = some u → (w.alloc (.cells (madeCells #[.int .u8 0] l.length) 5)).cell? ((⟨b, off, none⟩ : Addr).add j) = some u) := by
      intro j u hj
      obtain ⟨hj2, -⟩ := List.getElem?_eq_some_iff.1 hj
      rw [vals_length] at hj2
      rw [vals_get _ _ hj2] at hj
      rw [Addr_add, ← hj]
      exact ((below_made w _).cell (p := ⟨b, off + j, none⟩) hlb).trans (hc j hj2)
    have HR : Hid (((madeCells #[.int .u8 0] l.length).toList.take 0 ++ (vals l ++ (madeCells #[.int .u8 0] l.length).toList.drop (0 + (vals l).length))).toArray = (vals l).toArray) := by
      have : (madeCells #[Value.int .u8 0] l.length).toList.length = l.length := by simp [size_madeCells1]
      unfold Hid
      rw [List.drop_eq_nil_of_le (by rw [this, vals_length]; omega)]
      simp
    have HF : Hid (0 + (vals l).length ≤ (madeCells #[Value.int .u8 0] l.length).size) := by unfold Hid; rw [vals_length, size_madeCells1]; omega
    have HL : Hid ((vals l).length = Nat.min l.length l.length) := by unfold Hid; rw [vals_length]; simp
    clear hc hn
    go_enter Try.func33, Try.ntmps33
    go_wp2_with (first | (refine wpList_make_row rfl (.tmp 5) (.tmp 5) 32 rfl 5 i0 (.int .u8 0) 1 Try.underlying32 hi hz0 hz1 hz2 .i64 .i64 l.length rfl rfl (by omega) (by omega) ?_) | (refine wpList_copy_row rfl (.tmp 7) (.tmp 8) 32 32 rfl 5 Try.underlying32 (by kernel_rfl) w.heap.size 0 l.length l.length ⟨b, off, none⟩ l.length cap rfl rfl (madeCells #[.int .u8 0] l.length) 5 (heap_alloc_new w _) (vals l) HL.out HS.out HF.out (vals_oneCell l) (vals l).toArray HR.out _ HN.out ?_))
    go_wp2
    go_ret
    exact ⟨rfl, rfl⟩

theorem newRow_made (w : World) (l : List Int) (hb : IsBytes l) (hl : l.length ≤ 1000000000) : NewRow w.heap.size (w.alloc (.cells (vals l).toArray 5)) (.slice (some ⟨w.heap.size, 0, none⟩) l.length l.length) l := by
  refine ⟨row_of_block (heap_alloc_new w _) hb (by omega), ?_⟩
  intro b off n c e hne
  injection e with e1 e2 e3
  injection e1 with e1
  injection e1 with e1 e4 _
  subst e1 e4
  have hg := heap_alloc_new w (.cells (vals l).toArray 5)
  exact ⟨Nat.le_refl _, fun i hi => by unfold World.frozen?; simp only [hg]; simp⟩

theorem arC_made (w : World) (l : List Int) (hm : mayN l.length = true) (hb : IsBytes l) :
    ArC ⟨w.heap.size + 1, w.heap.size, l.length⟩ ((w.alloc (.cells (vals l).toArray 5)).alloc (.cells #[.slice (some ⟨w.heap.size, 0, none⟩) l.length l.length] 57)) (.pointer (some ⟨w.heap.size + 1, 0, none⟩)) l := by
  have hz := size_alloc w (.cells (vals l).toArray 5)
  have h1 := heap_alloc_new (w.alloc (.cells (vals l).toArray 5)) (.cells #[.slice (some ⟨w.heap.size, 0, none⟩) l.length l.length] 57)
  rw [hz] at h1
  refine ⟨rfl, h1, ?_, hm, hb, rfl⟩
  exact ((below_made (w.alloc (.cells (vals l).toArray 5)) _).block _ (show w.heap.size < _ by omega)).trans (heap_alloc_new w _)

theorem zeros_cells (n : Nat) : madeCells #[Value.int .u8 0] n = (vals (List.replicate n 0)).toArray := by
  rw [madeCells_one]; simp [vals]

set_option maxRecDepth 100000 in
theorem newC_yes (n : Nat) (w : World) (h : mayN n = true) : Calls Try.prog 9 #[.int .i64 (n : Int)] w fun e w' => ∃ v h, e = .returned v ∧ ArC h w' v (List.replicate n 0) ∧ Below w.heap.size w w' ∧ ∀ k, blkC h k → w.heap.size ≤ k := by
  obtain ⟨i0, hi, hz0, hz1, hz2⟩ := info_parts infoB
  obtain ⟨b1, b2, -⟩ := mayN_bd h
  have HM := Lib.hid (sized_any n w)
  rw [h] at HM
  have HA := Lib.hid (arC_made w (List.replicate n 0) (by rw [List.length_replicate]; exact h) (zeros_bytes n))
  have hb := ((Below.refl w.heap.size w).alloc (Nat.le_refl _) (.cells (madeCells #[Value.int .u8 0] n) 5)).alloc (le_alloc _ (Nat.le_refl _)) (.cells #[.slice (some ⟨w.heap.size, 0, none⟩) n n] 57)
  have HB := Lib.hid hb
  rw [← zeros_cells, List.length_replicate] at HA
  clear h hb
  go_enter Try.func9, Try.ntmps9
  go_wp2_with fail
  refine HM.out.mono ?_
  rintro e w' ⟨rfl, rfl⟩
  have hz : (w.alloc (.cells (madeCells #[.int .u8 0] n) 5)).heap.size = w.heap.size + 1 := Array.size_push _
  go_wp2_with (refine wpList_make_row rfl (.tmp 6) (.tmp 6) 32 rfl 5 i0 (.int .u8 0) 1 Try.underlying32 hi hz0 hz1 hz2 .i64 .i64 n rfl rfl (by omega) (by omega) ?_)
  go_ret
  exact ⟨_, _, rfl, HA.out, HB.out, by rintro k (rfl | rfl) <;> simp⟩

theorem newC_no (n : Int) (w : World) (h : mayN n = false) : Calls Try.prog 9 #[.int .i64 n] w fun e w' => e = .returned (.pointer none) ∧ Below w.heap.size w w' := by
  have HM := Lib.hid (sized_any n w)
  rw [h] at HM
  clear h
  go_enter Try.func9, Try.ntmps9
  go_wp2_with fail
  refine HM.out.mono ?_
  rintro e w' ⟨rfl, rfl⟩
  go_wp2
  go_ret
  exact ⟨rfl, Below.refl _ _⟩

set_option maxRecDepth 100000 in
theorem ofC_yes (u : Value) (l : List Int) (w : World) (hr : Row .u8 w u l) (h : mayN l.length = true) : Calls Try.prog 14 #[u] w fun e w' => ∃ v h, e = .returned v ∧ ArC h w' v l ∧ Below w.heap.size w w' ∧ ∀ k, blkC h k → w.heap.size ≤ k := by
  obtain ⟨b1, b2, -⟩ := mayN_bd h
  have HM := Lib.hid (sized_any (l.length : Int) w)
  rw [h] at HM
  have HC := Lib.hid (cloneA_any u l w hr (by omega))
  have HA := Lib.hid (arC_made w l h hr.bytes)
  have HB := Lib.hid (((Below.refl w.heap.size w).alloc (Nat.le_refl _) (.cells (vals l).toArray 5)).alloc (le_alloc _ (Nat.le_refl _)) (.cells #[.slice (some ⟨w.heap.size, 0, none⟩) l.length l.length] 57))
  have hz : (w.alloc (.cells (vals l).toArray 5)).heap.size = w.heap.size + 1 := Array.size_push _
  obtain ⟨ad, cap, rfl, -, -, -, -⟩ := hr
  clear h
  go_enter Try.func14, Try.ntmps14
  go_wp2_with fail
  refine HM.out.mono ?_
  rintro e w' ⟨rfl, rfl⟩
  go_wp2_with fail
  refine HC.out.mono ?_
  rintro e w' ⟨rfl, rfl⟩
  go_wp2
  go_ret
  exact ⟨_, _, rfl, HA.out, HB.out, by rintro k (rfl | rfl) <;> simp⟩

theorem ofC_no (u : Value) (l : List Int) (w : World) (hr : Row .u8 w u l) (h : mayN l.length = false) : Calls Try.prog 14 #[u] w fun e w' => e = .returned (.pointer none) ∧ Below w.heap.size w w' := by
  have HM := Lib.hid (sized_any (l.length : Int) w)
  rw [h] at HM
  obtain ⟨ad, cap, rfl, -, -, -, -⟩ := hr
  clear h
  go_enter Try.func14, Try.ntmps14
  go_wp2_with fail
  refine HM.out.mono ?_
  rintro e w' ⟨rfl, rfl⟩
  go_wp2
  go_ret
  exact ⟨rfl, Below.refl _ _⟩

theorem madeC_any (h : Hn) (v : Value) (l : List Int) (w : World) (ha : ArC h w v l) : Calls Try.prog 32 #[v] w fun e w' => e = .returned (.bool true) ∧ w = w' := by
  have hl := ha.len
  obtain ⟨rfl, h1, -, -, -⟩ := ha
  have c1 := cell_of_one h1
  have hp : (0 : Int) < (l.length : Int) := by omega
  clear h1
  go_enter Try.func32, Try.ntmps32
  go_wp2
  go_ret
  exact ⟨ret_bool (by simpa using hp), rfl⟩

theorem lenC_any (h : Hn) (v : Value) (l : List Int) (w : World) (ha : ArC h w v l) : Calls Try.prog 13 #[v] w fun e w' => e = .returned (.int .i64 (l.length : Int)) ∧ Below w.heap.size w w' := by
  have HM := Lib.hid (madeC_any h v l w ha)
  obtain ⟨rfl, h1, -, -, -⟩ := ha
  have c1 := cell_of_one h1
  clear h1
  go_enter Try.func13, Try.ntmps13
  go_wp2_with fail
  refine HM.out.mono ?_
  rintro e w' ⟨rfl, rfl⟩
  go_wp2
  go_ret
  exact ⟨rfl, Below.refl _ _⟩

theorem imageC_exact (h : Hn) (v : Value) (l : List Int) (w : World) (ha : ArC h w v l) : Calls Try.prog 12 #[v] w fun e w' => e = .returned (.slice (some ⟨w.heap.size, 0, none⟩) l.length l.length) ∧ w' = w.alloc (.cells (vals l).toArray 5) := by
  have HM := Lib.hid (madeC_any h v l w ha)
  have hl := ha.len
  have HC := Lib.hid (cloneA_any _ l w ha.row (by omega))
  obtain ⟨rfl, h1, -, -, -⟩ := ha
  have c1 := cell_of_one h1
  clear h1
  go_enter Try.func12, Try.ntmps12
  go_wp2_with fail
  refine HM.out.mono ?_
  rintro e w' ⟨rfl, rfl⟩
  go_wp2_with fail
  refine HC.out.mono ?_
  rintro e w' ⟨rfl, rfl⟩
  go_wp2
  go_ret
  exact ⟨rfl, rfl⟩

theorem imageC_any (h : Hn) (v : Value) (l : List Int) (w : World) (ha : ArC h w v l) : Calls Try.prog 12 #[v] w fun e w' => ∃ u, e = .returned u ∧ Below w.heap.size w w' ∧ NewRow w.heap.size w' u l := by
  refine (imageC_exact h v l w ha).mono ?_
  rintro e w' ⟨rfl, rfl⟩
  exact ⟨_, rfl, below_made _ _, newRow_made w l ha.2.2.2.2.1 (by have := ha.len; omega)⟩

theorem getC_any (h : Hn) (v : Value) (l : List Int) (a x : Int) (w : World) (ha : ArC h w v l) : Calls Try.prog 18 #[v, .int .i64 a, .int .i64 x] w fun e w' => e = .returned (.tuple #[.int .u64 (ldv l a x).1, .int .i64 (ldv l a x).2]) ∧ Below w.heap.size w w' := by
  have HM := Lib.hid (madeC_any h v l w ha)
  have HL := Lib.hid (load_any _ a x l w ha.row)
  obtain ⟨rfl, h1, -, -, -⟩ := ha
  have c1 := cell_of_one h1
  obtain ⟨p, q, hpq⟩ : ∃ p q, ldv l a x = (p, q) := ⟨_, _, rfl⟩
  rw [hpq] at HL ⊢
  clear h1 hpq
  go_enter Try.func18, Try.ntmps18
  go_wp2_with fail
  refine HM.out.mono ?_
  rintro e w' ⟨rfl, rfl⟩
  go_wp2_with fail
  refine HL.out.mono ?_
  rintro e w1 ⟨rfl, hb⟩
  go_wp2
  go_ret2
  exact ⟨rfl, hb⟩

/-- Where a view begins. -/
def vwA (a m : Nat) : Nat := if m = 0 then 0 else a
set_option maxRecDepth 100000 in
theorem viewC_yes (h : Hn) (v : Value) (l : List Int) (a m : Nat) (w : World) (ha : ArC h w v l) (hf : a + m ≤ l.length) : Calls Try.prog 16 #[v, .int .i64 a, .int .i64 m] w fun e w' => e = .returned (.tuple #[.slice (some ⟨h.b, vwA a m, none⟩) m m, .int .i64 0]) ∧ w = w' := by
  have HM := Lib.hid (madeC_any h v l w ha)
  have hl := ha.len
  obtain ⟨rfl, h1, -, -, -⟩ := ha
  have c1 := cell_of_one h1
  have e0 : (0 : Int) ≤ (a : Int) := by omega
  have e1 : (0 : Int) ≤ (m : Int) := by omega
  obtain ⟨d, hd⟩ : ∃ d : Nat, d = l.length - a := ⟨_, rfl⟩
  have w1 : IntKind.i64.wrap ((l.length : Int) - (a : Int)) = (d : Int) := (wrap_id (by omega) (by omega)).trans (by omega)
  have e2 : (m : Int) ≤ (d : Int) := by omega
  obtain ⟨s, hs⟩ : ∃ s : Nat, s = a + m := ⟨_, rfl⟩
  have w2 : IntKind.i64.wrap ((a : Int) + (m : Int)) = (s : Int) := (wrap_id (by omega) (by omega)).trans (by omega)
  have e3 : (a : Int) ≤ (s : Int) := by omega
  have e4 : (s : Int) ≤ (l.length : Int) := by omega
  have hsub : s - a = m := by omega
  have g0 : decide ((a : Int) < 0) = false := by rw [decide_eq_false_iff_not]; omega
  have g1 : decide ((m : Int) < 0) = false := by rw [decide_eq_false_iff_not]; omega
  have g2 : decide ((d : Int) < (m : Int)) = false := by rw [decide_eq_false_iff_not]; omega
  have g3 : ¬ d < m := by omega
  have g4 : decide (d < m) = false := by rw [decide_eq_false_iff_not]; omega
  by_cases hm : m = 0
  · subst hm
    obtain rfl : s = a := by omega
    clear h1 hd hs hsub
    go_enter Try.func16, Try.ntmps16
    go_wp2_with fail
    refine HM.out.mono ?_
    rintro e w' ⟨rfl, rfl⟩
    go_wp2
    go_ret2
    exact ⟨rfl, rfl⟩
  · have hv : vwA a m = a := by rw [vwA, if_neg hm]
    rw [hv]
    have e5 : ¬ s = a := by omega
    have e6 : ¬ s - a = 0 := by omega
    clear h1 hd hs hv
    go_enter Try.func16, Try.ntmps16
    go_wp2_with fail
    refine HM.out.mono ?_
    rintro e w' ⟨rfl, rfl⟩
    go_wp2
    go_ret2
    exact ⟨rfl, rfl⟩

theorem viewC_no (h : Hn) (v : Value) (l : List Int) (a m : Int) (w : World) (ha : ArC h w v l) (h64 : is64 a) (hf : fitB l.length a m = false) : Calls Try.prog 16 #[v, .int .i64 a, .int .i64 m] w fun e w' => e = .returned (.tuple #[.slice none 0 0, .int .i64 6]) ∧ w = w' := by
  have HM := Lib.hid (madeC_any h v l w ha)
  have hl := ha.len
  have hnf := fitB_not hf
  unfold is64 at h64
  obtain ⟨rfl, h1, -⟩ := ha
  have c1 := cell_of_one h1
  by_cases a0 : a < 0
  · clear h1 hnf hf
    go_enter Try.func16, Try.ntmps16
    go_wp2_with fail
    refine HM.out.mono ?_
    rintro e w' ⟨rfl, rfl⟩
    go_wp2
    go_ret2
    exact ⟨rfl, rfl⟩
  · have a1 : 0 ≤ a := by omega
    by_cases m0 : m < 0
    · clear h1 hnf hf
      go_enter Try.func16, Try.ntmps16
      go_wp2_with fail
      refine HM.out.mono ?_
      rintro e w' ⟨rfl, rfl⟩
      go_wp2
      go_ret2
      exact ⟨rfl, rfl⟩
    · have m1 : 0 ≤ m := by omega
      obtain ⟨d, hd⟩ : ∃ d : Int, d = (l.length : Int) - a := ⟨_, rfl⟩
      have w1 : IntKind.i64.wrap ((l.length : Int) - a) = d := (wrap_id (by omega) (by omega)).trans hd.symm
      have e2 : d < m := by omega
      have g0 : decide (a < 0) = false := by rw [decide_eq_false_iff_not]; omega
      have g1 : decide (m < 0) = false := by rw [decide_eq_false_iff_not]; omega
      have g2 : decide (d < m) = true := by rw [decide_eq_true_iff]; omega
      clear h1 hnf hf hd
      go_enter Try.func16, Try.ntmps16
      go_wp2_with fail
      refine HM.out.mono ?_
      rintro e w' ⟨rfl, rfl⟩
      go_wp2
      go_ret2
      exact ⟨rfl, rfl⟩

theorem heap_setCell_own {w : World} {g o : Nat} {c : Array Value} {t : TypeId} {fr : Nat × Nat} (hg : w.heap[g]? = some (.cells c t fr)) (u : Value) : (w.setCell ⟨g, o, none⟩ u).heap[g]? = some (.cells (c.setIfInBounds o u) t fr) := by
  have hlt : g < w.heap.size := (Array.getElem?_eq_some_iff.1 hg).1
  have hv : w.heap[g] = .cells c t fr := (Array.getElem?_eq_some_iff.1 hg).2
  unfold World.setCell
  rw [Array.getElem?_eq_getElem (by simpa using hlt), Array.getElem_modify]
  simp [hv]
theorem vals_set (l : List Int) (i : Nat) (y : Int) : (vals l).toArray.setIfInBounds i (.int .u8 y) = (vals (l.set i y)).toArray := by
  simp [vals, List.map_set]
theorem set_bytesC {l : List Int} (h : IsBytes l) (k : Nat) (y : Int) (h0 : 0 ≤ y) (h1 : y < 256) : IsBytes (l.set k y) :=
  IsBytes.of_mem fun x hx => by
    rcases List.mem_or_eq_of_mem_set hx with hx | rfl
    · exact h.mem hx
    · exact ⟨h0, h1⟩
theorem ArC.set {h : Hn} {w : World} {v : Value} {l : List Int} (ha : ArC h w v l) (i : Nat) (y : Int) (h0 : 0 ≤ y) (h1 : y < 256) : ArC h (w.setCell ⟨h.b, i, none⟩ (.int .u8 y)) v (l.set i y) := by
  have hne := ha.ne
  obtain ⟨h0', h1', h2', h3', h4', h5'⟩ := ha
  refine ⟨h0', ?_, ?_, by rw [List.length_set]; exact h3', set_bytesC h4' _ _ h0 h1, by rw [List.length_set]; exact h5'⟩
  · rw [List.length_set, Below.heap_setCell _ _ _ _ hne]; exact h1'
  · rw [heap_setCell_own h2', vals_set]
theorem ArC.view {h : Hn} {w : World} {v : Value} {l : List Int} (ha : ArC h w v l) (a m : Nat) (hf : a + m ≤ l.length) : ViewAt blkC ArC w v h l a m (some ⟨h.b, vwA a m, none⟩) := by
  have hl := ha.len
  have hlen : ((l.drop a).take m).length = m := by rw [List.length_take, List.length_drop]; omega
  refine ⟨⟨_, m, by rw [hlen], by omega, by omega, ?_, ?_⟩, ?_⟩
  · intro i hi
    have := part_bytes a m ha.2.2.2.2.1 i
    exact WalkArith.wf_u8 (by omega)
  · intro hne
    have hm : ¬ m = 0 := by rintro rfl; simp at hne
    refine ⟨h.b, vwA a m, rfl, ha.lt _ (.inr rfl), fun i hi => ?_⟩
    rw [hlen] at hi
    rw [vwA, if_neg hm, cell_block ha.2.2.1, List.getElem?_toArray, vals_get _ _ (by omega), take_getD _ _ _ hi, drop_getD]
  · intro hm
    refine ⟨h.b, a, by rw [vwA, if_neg (by omega)], .inr rfl, fun w' l' ha' i hi => ?_⟩
    have hll : l'.length = l.length := ha'.2.2.2.2.2.trans ha.2.2.2.2.2.symm
    have hg := ha'.2.2.1
    refine ⟨by unfold World.frozen?; simp only [hg]; simp, ⟨_, by rw [cell_block hg, List.getElem?_toArray, vals_get _ _ (by omega)]⟩, fun y h0 h1 => ha'.set _ y h0 h1⟩
theorem viewC_any (h : Hn) (v : Value) (l : List Int) (a m : Int) (w : World) (ha : ArC h w v l) (h64 : is64 a) : Calls Try.prog 16 #[v, .int .i64 a, .int .i64 m] w fun e w' => Below w.heap.size w w' ∧
    ((fitB l.length a m = true ∧ ∃ x, e = .returned (.tuple #[.slice x m.toNat m.toNat, .int .i64 0]) ∧ ViewAt blkC ArC w' v h l a.toNat m.toNat x) ∨ (fitB l.length a m = false ∧ e = .returned (.tuple #[.slice none 0 0, .int .i64 6]))) := by
  by_cases hf : fitB l.length a m = true
  · obtain ⟨x, y, rfl, rfl, hxy⟩ := fitB_nat hf
    refine (viewC_yes h v l x y w ha hxy).mono ?_
    rintro e w' ⟨rfl, rfl⟩
    exact ⟨Below.refl _ _, .inl ⟨hf, _, rfl, ha.view x y hxy⟩⟩
  · have hf' : fitB l.length a m = false := by simpa using hf
    refine (viewC_no h v l a m w ha h64 hf').mono ?_
    rintro e w' ⟨rfl, rfl⟩
    exact ⟨Below.refl _ _, .inr ⟨hf', rfl⟩⟩

theorem readC_any (h : Hn) (v : Value) (l : List Int) (a m : Int) (w : World) (ha : ArC h w v l) (h64 : is64 a) : Calls Try.prog 19 #[v, .int .i64 a, .int .i64 m] w fun e w' => ∃ u, e = .returned (.tuple #[u, .int .i64 (reaA l a m).2]) ∧ Below w.heap.size w w' ∧ NewRow w.heap.size w' u (reaA l a m).1 := by
  have hl := ha.len
  by_cases hf : fitB l.length a m = true
  · obtain ⟨x, y, rfl, rfl, hxy⟩ := fitB_nat hf
    have hr : reaA l x y = ((l.drop x).take y, 0) := by rw [reaA, if_pos hf]; rfl
    rw [hr]
    have HV := Lib.hid (viewC_yes h v l x y w ha hxy)
    have hlen : ((l.drop x).take y).length = y := by rw [List.length_take, List.length_drop]; omega
    have hrow := (ha.view x y hxy).1
    have HC := Lib.hid (cloneA_any _ _ w hrow (by omega))
    have HN := Lib.hid (newRow_made w _ (part_bytes x y ha.2.2.2.2.1) (by omega))
    obtain ⟨ad, cap, he, -, -, -, -⟩ := hrow
    obtain ⟨P, hP⟩ : ∃ P, P = (l.drop x).take y := ⟨_, rfl⟩
    rw [← hP] at HC HN hlen ⊢
    rw [hlen] at HC HN
    obtain ⟨rfl, h1, -⟩ := ha
    clear h1 hP he hr hf hlen
    go_enter Try.func19, Try.ntmps19
    go_wp2_with fail
    refine HV.out.mono ?_
    rintro e w' ⟨rfl, rfl⟩
    go_wp2_with fail
    refine HC.out.mono ?_
    rintro e w' ⟨rfl, rfl⟩
    go_wp2
    go_ret2
    exact ⟨_, rfl, below_made _ _, HN.out⟩
  · have hf' : fitB l.length a m = false := by simpa using hf
    have hr : reaA l a m = ([], 6) := by rw [reaA, if_neg hf]
    rw [hr]
    have HV := Lib.hid (viewC_no h v l a m w ha h64 hf')
    obtain ⟨rfl, h1, -⟩ := ha
    clear h1 hr hf hf'
    go_enter Try.func19, Try.ntmps19
    go_wp2_with fail
    refine HV.out.mono ?_
    rintro e w' ⟨rfl, rfl⟩
    go_wp2
    go_ret2
    exact ⟨_, rfl, Below.refl _ _, Row.nil _ _, fun _ _ _ _ _ hne => absurd rfl hne⟩
end Go.Proofs.Ytncbfagmdldclaa.Arn
