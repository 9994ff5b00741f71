/- Contracts of the landed arena: its making, its length, what is read of it. -/
import Derived.Test.YtkknegnipodcnaaDoorArnH
namespace Go.Proofs.YtkknegnipodcnaaDoor.Arn
open Go.RowKit Num
set_option linter.unusedVariables false

/-- The code's arena: a block with a slice of bytes, and that one's block. -/
structure Hn where
  g : Nat
  b : Nat
  n : Nat
def blkC (h : Hn) (k : Nat) : Prop := k = h.g ∨ k = h.b
def ArC (h : Hn) (w : World) (v : Value) (l : List Int) : Prop :=
  v = .pointer (some ⟨h.g, 0, none⟩) ∧ w.heap[h.g]? = some (.cells #[.slice (some ⟨h.b, 0, none⟩) l.length l.length] 111 (0, 0)) ∧ w.heap[h.b]? = some (.cells (vals l).toArray 5 (0, 0)) ∧ mayN l.length = true ∧ IsBytes l ∧ l.length = h.n
theorem ArC.lt {h : Hn} {w : World} {v : Value} {l : List Int} (ha : ArC h w v l) : ∀ k, blkC h k → k < w.heap.size := by
  obtain ⟨-, h1, h2, -⟩ := ha
  rintro k (rfl | rfl)
  · exact lt_of_block h1
  · exact lt_of_block h2
theorem ArC.stay {h : Hn} {w w' : World} {v : Value} {l : List Int} {N : Nat} {T : Nat → Prop} (ha : ArC h w v l) (hf : Fr N T w w') (hk : ∀ k, blkC h k → k < N ∧ ¬ T k) : ArC h w' v l := by
  obtain ⟨h0, h1, h2, h3⟩ := ha
  exact ⟨h0, (hf.block _ (hk _ (.inl rfl)).1 (hk _ (.inl rfl)).2).trans h1, (hf.block _ (hk _ (.inr rfl)).1 (hk _ (.inr rfl)).2).trans h2, h3⟩
theorem ArC.below {h : Hn} {w w' : World} {v : Value} {l : List Int} (ha : ArC h w v l) (hb : Below w.heap.size w w') : ArC h w' v l :=
  ha.stay (Fr.of_below (S := fun _ => False) hb) (fun k hk => ⟨ha.lt k hk, fun h => h⟩)
theorem ArC.row {h : Hn} {w : World} {v : Value} {l : List Int} (ha : ArC h w v l) : Row .u8 w (.slice (some ⟨h.b, 0, none⟩) l.length l.length) l := by
  obtain ⟨-, -, h2, h3, h4, -⟩ := ha
  have := mayN_bd h3
  exact row_of_block h2 h4 (by omega)
theorem ArC.len {h : Hn} {w : World} {v : Value} {l : List Int} (ha : ArC h w v l) : 16 ≤ l.length ∧ l.length ≤ 1048576 := by
  obtain ⟨-, -, -, h3, -⟩ := ha
  have := mayN_bd h3
  omega
theorem ArC.ne {h : Hn} {w : World} {v : Value} {l : List Int} (ha : ArC h w v l) : h.g ≠ h.b := by
  have hl := ha.len
  obtain ⟨-, h1, h2, -, -⟩ := ha
  intro e
  rw [e, h2] at h1
  injection h1 with h1
  injection h1 with h1
  have := congrArg Array.size h1
  simp [vals] at this
  omega

theorem sized_any (n : Int) (w : World) : Calls Tryd.prog 64 #[.int .i64 n] w fun e w' => e = .returned (.bool (mayN n)) ∧ w = w' := by
  by_cases h1 : 16 ≤ n
  · by_cases h2 : n ≤ 1048576
    · go_enter Tryd.func64, Tryd.ntmps64
      go_wp2
      go_ret
      exact ⟨ret_bool (by simp only [mayN, h1, h2, decide_true, Bool.true_and]; exact Bool.eq_iff_iff.2 (by simp)), rfl⟩
    · go_enter Tryd.func64, Tryd.ntmps64
      go_wp2
      go_ret
      exact ⟨ret_bool (by simp [mayN]; omega), rfl⟩
  · go_enter Tryd.func64, Tryd.ntmps64
    go_wp2
    go_ret
    exact ⟨ret_bool (by simp [mayN]; omega), rfl⟩

theorem newRow_made (w : World) (l : List Int) (hb : IsBytes l) (hl : l.length ≤ 1000000000) : NewRow w.heap.size (w.alloc (.cells (vals l).toArray 5)) (.slice (some ⟨w.heap.size, 0, none⟩) l.length l.length) l := by
  refine ⟨row_of_block (heap_alloc_new w _) hb (by omega), ?_⟩
  intro b off n c e hne
  injection e with e1 e2 e3
  injection e1 with e1
  injection e1 with e1 e4 _
  subst e1 e4
  have hg := heap_alloc_new w (.cells (vals l).toArray 5)
  exact ⟨Nat.le_refl _, fun i hi => by unfold World.frozen?; simp only [hg]; simp⟩

theorem arC_made (w : World) (l : List Int) (hm : mayN l.length = true) (hb : IsBytes l) :
    ArC ⟨w.heap.size + 1, w.heap.size, l.length⟩ ((w.alloc (.cells (vals l).toArray 5)).alloc (.cells #[.slice (some ⟨w.heap.size, 0, none⟩) l.length l.length] 111)) (.pointer (some ⟨w.heap.size + 1, 0, none⟩)) l := by
  have hz := size_alloc w (.cells (vals l).toArray 5)
  have h1 := heap_alloc_new (w.alloc (.cells (vals l).toArray 5)) (.cells #[.slice (some ⟨w.heap.size, 0, none⟩) l.length l.length] 111)
  rw [hz] at h1
  refine ⟨rfl, h1, ?_, hm, hb, rfl⟩
  exact ((below_made (w.alloc (.cells (vals l).toArray 5)) _).block _ (show w.heap.size < _ by omega)).trans (heap_alloc_new w _)

theorem zeros_cells (n : Nat) : madeCells #[Value.int .u8 0] n = (vals (List.replicate n 0)).toArray := by
  rw [madeCells_one]; simp [vals]

set_option maxRecDepth 100000 in
theorem newC_yes (n : Nat) (w : World) (h : mayN n = true) : Calls Tryd.prog 39 #[.int .i64 (n : Int)] w fun e w' => ∃ v h, e = .returned v ∧ ArC h w' v (List.replicate n 0) ∧ Below w.heap.size w w' ∧ ∀ k, blkC h k → w.heap.size ≤ k := by
  obtain ⟨i0, hi, hz0, hz1, hz2⟩ := info_parts infoB
  obtain ⟨b1, b2, -⟩ := mayN_bd h
  have HM := Lib.hid (sized_any n w)
  rw [h] at HM
  have HA := Lib.hid (arC_made w (List.replicate n 0) (by rw [List.length_replicate]; exact h) (zeros_bytes n))
  have hb := ((Below.refl w.heap.size w).alloc (Nat.le_refl _) (.cells (madeCells #[Value.int .u8 0] n) 5)).alloc (le_alloc _ (Nat.le_refl _)) (.cells #[.slice (some ⟨w.heap.size, 0, none⟩) n n] 111)
  have HB := Lib.hid hb
  rw [← zeros_cells, List.length_replicate] at HA
  clear h hb
  go_enter Tryd.func39, Tryd.ntmps39
  go_wp2_with fail
  refine HM.out.mono ?_
  rintro e w' ⟨rfl, rfl⟩
  have hz : (w.alloc (.cells (madeCells #[.int .u8 0] n) 5)).heap.size = w.heap.size + 1 := Array.size_push _
  go_wp2_with (refine wpList_make_row rfl (.tmp 6) (.tmp 6) 27 rfl 5 i0 (.int .u8 0) 1 Tryd.underlying27 hi hz0 hz1 hz2 .i64 .i64 n rfl rfl (by omega) (by omega) ?_)
  go_ret
  exact ⟨_, _, rfl, HA.out, HB.out, by rintro k (rfl | rfl) <;> simp⟩

theorem newC_no (n : Int) (w : World) (h : mayN n = false) : Calls Tryd.prog 39 #[.int .i64 n] w fun e w' => e = .returned (.pointer none) ∧ Below w.heap.size w w' := by
  have HM := Lib.hid (sized_any n w)
  rw [h] at HM
  clear h
  go_enter Tryd.func39, Tryd.ntmps39
  go_wp2_with fail
  refine HM.out.mono ?_
  rintro e w' ⟨rfl, rfl⟩
  go_wp2
  go_ret
  exact ⟨rfl, Below.refl _ _⟩

theorem madeC_any (h : Hn) (v : Value) (l : List Int) (w : World) (ha : ArC h w v l) : Calls Tryd.prog 66 #[v] w fun e w' => e = .returned (.bool true) ∧ w = w' := by
  have hl := ha.len
  obtain ⟨rfl, h1, -, -, -⟩ := ha
  have c1 := cell_of_one h1
  have hp : (0 : Int) < (l.length : Int) := by omega
  clear h1
  go_enter Tryd.func66, Tryd.ntmps66
  go_wp2
  go_ret
  exact ⟨ret_bool (by simpa using hp), rfl⟩

theorem lenC_any (h : Hn) (v : Value) (l : List Int) (w : World) (ha : ArC h w v l) : Calls Tryd.prog 62 #[v] w fun e w' => e = .returned (.int .i64 (l.length : Int)) ∧ Below w.heap.size w w' := by
  have HM := Lib.hid (madeC_any h v l w ha)
  obtain ⟨rfl, h1, -, -, -⟩ := ha
  have c1 := cell_of_one h1
  clear h1
  go_enter Tryd.func62, Tryd.ntmps62
  go_wp2_with fail
  refine HM.out.mono ?_
  rintro e w' ⟨rfl, rfl⟩
  go_wp2
  go_ret
  exact ⟨rfl, Below.refl _ _⟩

theorem getC_any (h : Hn) (v : Value) (l : List Int) (a x : Int) (w : World) (ha : ArC h w v l) : Calls Tryd.prog 76 #[v, .int .i64 a, .int .i64 x] w fun e w' => e = .returned (.tuple #[.int .u64 (ldv l a x).1, .int .i64 (ldv l a x).2]) ∧ Below w.heap.size w w' := by
  have HM := Lib.hid (madeC_any h v l w ha)
  have HL := Lib.hid (load_any _ a x l w ha.row)
  obtain ⟨rfl, h1, -, -, -⟩ := ha
  have c1 := cell_of_one h1
  obtain ⟨p, q, hpq⟩ : ∃ p q, ldv l a x = (p, q) := ⟨_, _, rfl⟩
  rw [hpq] at HL ⊢
  clear h1 hpq
  go_enter Tryd.func76, Tryd.ntmps76
  go_wp2_with fail
  refine HM.out.mono ?_
  rintro e w' ⟨rfl, rfl⟩
  go_wp2_with fail
  refine HL.out.mono ?_
  rintro e w1 ⟨rfl, hb⟩
  go_wp2
  go_ret2
  exact ⟨rfl, hb⟩

/-- Where a view begins. -/
def vwA (a m : Nat) : Nat := if m = 0 then 0 else a
set_option maxRecDepth 100000 in
theorem viewC_yes (h : Hn) (v : Value) (l : List Int) (a m : Nat) (w : World) (ha : ArC h w v l) (hf : a + m ≤ l.length) : Calls Tryd.prog 82 #[v, .int .i64 a, .int .i64 m] w fun e w' => e = .returned (.tuple #[.slice (some ⟨h.b, vwA a m, none⟩) m m, .int .i64 0]) ∧ w = w' := by
  have HM := Lib.hid (madeC_any h v l w ha)
  have hl := ha.len
  obtain ⟨rfl, h1, -, -, -⟩ := ha
  have c1 := cell_of_one h1
  have e0 : (0 : Int) ≤ (a : Int) := by omega
  have e1 : (0 : Int) ≤ (m : Int) := by omega
  obtain ⟨d, hd⟩ : ∃ d : Nat, d = l.length - a := ⟨_, rfl⟩
  have w1 : IntKind.i64.wrap ((l.length : Int) - (a : Int)) = (d : Int) := (wrap_id (by omega) (by omega)).trans (by omega)
  have e2 : (m : Int) ≤ (d : Int) := by omega
  obtain ⟨s, hs⟩ : ∃ s : Nat, s = a + m := ⟨_, rfl⟩
  have w2 : IntKind.i64.wrap ((a : Int) + (m : Int)) = (s : Int) := (wrap_id (by omega) (by omega)).trans (by omega)
  have e3 : (a : Int) ≤ (s : Int) := by omega
  have e4 : (s : Int) ≤ (l.length : Int) := by omega
  have hsub : s - a = m := by omega
  have g0 : decide ((a : Int) < 0) = false := by rw [decide_eq_false_iff_not]; omega
  have g1 : decide ((m : Int) < 0) = false := by rw [decide_eq_false_iff_not]; omega
  have g2 : decide ((d : Int) < (m : Int)) = false := by rw [decide_eq_false_iff_not]; omega
  have g3 : ¬ d < m := by omega
  have g4 : decide (d < m) = false := by rw [decide_eq_false_iff_not]; omega
  by_cases hm : m = 0
  · subst hm
    obtain rfl : s = a := by omega
    clear h1 hd hs hsub
    go_enter Tryd.func82, Tryd.ntmps82
    go_wp2_with fail
    refine HM.out.mono ?_
    rintro e w' ⟨rfl, rfl⟩
    go_wp2
    go_ret2
    exact ⟨rfl, rfl⟩
  · have hv : vwA a m = a := by rw [vwA, if_neg hm]
    rw [hv]
    have e5 : ¬ s = a := by omega
    have e6 : ¬ s - a = 0 := by omega
    clear h1 hd hs hv
    go_enter Tryd.func82, Tryd.ntmps82
    go_wp2_with fail
    refine HM.out.mono ?_
    rintro e w' ⟨rfl, rfl⟩
    go_wp2
    go_ret2
    exact ⟨rfl, rfl⟩

theorem viewC_no (h : Hn) (v : Value) (l : List Int) (a m : Int) (w : World) (ha : ArC h w v l) (h64 : is64 a) (hf : fitB l.length a m = false) : Calls Tryd.prog 82 #[v, .int .i64 a, .int .i64 m] w fun e w' => e = .returned (.tuple #[.slice none 0 0, .int .i64 6]) ∧ w = w' := by
  have HM := Lib.hid (madeC_any h v l w ha)
  have hl := ha.len
  have hnf := fitB_not hf
  unfold is64 at h64
  obtain ⟨rfl, h1, -⟩ := ha
  have c1 := cell_of_one h1
  by_cases a0 : a < 0
  · clear h1 hnf hf
    go_enter Tryd.func82, Tryd.ntmps82
    go_wp2_with fail
    refine HM.out.mono ?_
    rintro e w' ⟨rfl, rfl⟩
    go_wp2
    go_ret2
    exact ⟨rfl, rfl⟩
  · have a1 : 0 ≤ a := by omega
    by_cases m0 : m < 0
    · clear h1 hnf hf
      go_enter Tryd.func82, Tryd.ntmps82
      go_wp2_with fail
      refine HM.out.mono ?_
      rintro e w' ⟨rfl, rfl⟩
      go_wp2
      go_ret2
      exact ⟨rfl, rfl⟩
    · have m1 : 0 ≤ m := by omega
      obtain ⟨d, hd⟩ : ∃ d : Int, d = (l.length : Int) - a := ⟨_, rfl⟩
      have w1 : IntKind.i64.wrap ((l.length : Int) - a) = d := (wrap_id (by omega) (by omega)).trans hd.symm
      have e2 : d < m := by omega
      have g0 : decide (a < 0) = false := by rw [decide_eq_false_iff_not]; omega
      have g1 : decide (m < 0) = false := by rw [decide_eq_false_iff_not]; omega
      have g2 : decide (d < m) = true := by rw [decide_eq_true_iff]; omega
      clear h1 hnf hf hd
      go_enter Tryd.func82, Tryd.ntmps82
      go_wp2_with fail
      refine HM.out.mono ?_
      rintro e w' ⟨rfl, rfl⟩
      go_wp2
      go_ret2
      exact ⟨rfl, rfl⟩

theorem heap_setCell_own {w : World} {g o : Nat} {c : Array Value} {t : TypeId} {fr : Nat × Nat} (hg : w.heap[g]? = some (.cells c t fr)) (u : Value) : (w.setCell ⟨g, o, none⟩ u).heap[g]? = some (.cells (c.setIfInBounds o u) t fr) := by
  have hlt : g < w.heap.size := (Array.getElem?_eq_some_iff.1 hg).1
  have hv : w.heap[g] = .cells c t fr := (Array.getElem?_eq_some_iff.1 hg).2
  unfold World.setCell
  rw [Array.getElem?_eq_getElem (by simpa using hlt), Array.getElem_modify]
  simp [hv]
theorem vals_set (l : List Int) (i : Nat) (y : Int) : (vals l).toArray.setIfInBounds i (.int .u8 y) = (vals (l.set i y)).toArray := by
  simp [vals, List.map_set]
theorem set_bytesC {l : List Int} (h : IsBytes l) (k : Nat) (y : Int) (h0 : 0 ≤ y) (h1 : y < 256) : IsBytes (l.set k y) :=
  IsBytes.of_mem fun x hx => by
    rcases List.mem_or_eq_of_mem_set hx with hx | rfl
    · exact h.mem hx
    · exact ⟨h0, h1⟩
theorem ArC.set {h : Hn} {w : World} {v : Value} {l : List Int} (ha : ArC h w v l) (i : Nat) (y : Int) (h0 : 0 ≤ y) (h1 : y < 256) : ArC h (w.setCell ⟨h.b, i, none⟩ (.int .u8 y)) v (l.set i y) := by
  have hne := ha.ne
  obtain ⟨h0', h1', h2', h3', h4', h5'⟩ := ha
  refine ⟨h0', ?_, ?_, by rw [List.length_set]; exact h3', set_bytesC h4' _ _ h0 h1, by rw [List.length_set]; exact h5'⟩
  · rw [List.length_set, Below.heap_setCell _ _ _ _ hne]; exact h1'
  · rw [heap_setCell_own h2', vals_set]
theorem ArC.view {h : Hn} {w : World} {v : Value} {l : List Int} (ha : ArC h w v l) (a m : Nat) (hf : a + m ≤ l.length) : ViewAt blkC ArC w v h l a m (some ⟨h.b, vwA a m, none⟩) := by
  have hl := ha.len
  have hlen : ((l.drop a).take m).length = m := by rw [List.length_take, List.length_drop]; omega
  refine ⟨⟨_, m, by rw [hlen], by omega, by omega, ?_, ?_⟩, ?_⟩
  · intro i hi
    have := part_bytes a m ha.2.2.2.2.1 i
    exact WalkArith.wf_u8 (by omega)
  · intro hne
    have hm : ¬ m = 0 := by rintro rfl; simp at hne
    refine ⟨h.b, vwA a m, rfl, ha.lt _ (.inr rfl), fun i hi => ?_⟩
    rw [hlen] at hi
    rw [vwA, if_neg hm, cell_block ha.2.2.1, List.getElem?_toArray, vals_get _ _ (by omega), take_getD _ _ _ hi, drop_getD]
  · intro hm
    refine ⟨h.b, a, by rw [vwA, if_neg (by omega)], .inr rfl, fun w' l' ha' i hi => ?_⟩
    have hll : l'.length = l.length := ha'.2.2.2.2.2.trans ha.2.2.2.2.2.symm
    have hg := ha'.2.2.1
    refine ⟨by unfold World.frozen?; simp only [hg]; simp, ⟨_, by rw [cell_block hg, List.getElem?_toArray, vals_get _ _ (by omega)]⟩, fun y h0 h1 => ha'.set _ y h0 h1⟩
theorem viewC_any (h : Hn) (v : Value) (l : List Int) (a m : Int) (w : World) (ha : ArC h w v l) (h64 : is64 a) : Calls Tryd.prog 82 #[v, .int .i64 a, .int .i64 m] w fun e w' => Below w.heap.size w w' ∧
    ((fitB l.length a m = true ∧ ∃ x, e = .returned (.tuple #[.slice x m.toNat m.toNat, .int .i64 0]) ∧ ViewAt blkC ArC w' v h l a.toNat m.toNat x) ∨ (fitB l.length a m = false ∧ e = .returned (.tuple #[.slice none 0 0, .int .i64 6]))) := by
  by_cases hf : fitB l.length a m = true
  · obtain ⟨x, y, rfl, rfl, hxy⟩ := fitB_nat hf
    refine (viewC_yes h v l x y w ha hxy).mono ?_
    rintro e w' ⟨rfl, rfl⟩
    exact ⟨Below.refl _ _, .inl ⟨hf, _, rfl, ha.view x y hxy⟩⟩
  · have hf' : fitB l.length a m = false := by simpa using hf
    refine (viewC_no h v l a m w ha h64 hf').mono ?_
    rintro e w' ⟨rfl, rfl⟩
    exact ⟨Below.refl _ _, .inr ⟨hf', rfl⟩⟩

end Go.Proofs.YtkknegnipodcnaaDoor.Arn
