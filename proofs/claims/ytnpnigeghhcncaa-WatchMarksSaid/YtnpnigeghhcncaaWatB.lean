/- Contracts of the landed watch: its making, parts, counters; runs. -/
import Derived.Test.YtnpnigeghhcncaaWatA
namespace Go.Proofs.Ytnpnigeghhcncaa.Wat
open Go.RowKit Num Arn
set_option linter.unusedVariables false

/-- A watch: a block with a slice of kinds and two counters, and the kinds' block. T: whose. -/
structure Hw where
  g : Nat
  b : Nat
def blkW (h : Hw) (k : Nat) : Prop := k = h.g ∨ k = h.b
def WaT (T : TypeId) (h : Hw) (w : World) (v : Value) (x : List Int) (lk ft : Nat) : Prop :=
  v = .pointer (some ⟨h.g, 0, none⟩) ∧ w.heap[h.g]? = some (.cells #[.slice (some ⟨h.b, 0, none⟩) x.length x.length, .int .i64 (lk : Int), .int .i64 (ft : Int)] T (0, 0)) ∧
    w.heap[h.b]? = some (.cells (vals x).toArray 5 (0, 0)) ∧ mayW x.length = true ∧ IsKinds x
theorem WaT.lt {T : TypeId} {h : Hw} {w : World} {v : Value} {x : List Int} {lk ft : Nat} (ha : WaT T h w v x lk ft) : ∀ k, blkW h k → k < w.heap.size := by
  obtain ⟨-, h1, h2, -⟩ := ha
  rintro k (rfl | rfl)
  · exact lt_of_block h1
  · exact lt_of_block h2
theorem WaT.stay {T : TypeId} {h : Hw} {w w' : World} {v : Value} {x : List Int} {lk ft N : Nat} {S : Nat → Prop} (ha : WaT T h w v x lk ft) (hf : Fr N S w w') (hk : ∀ k, blkW h k → k < N ∧ ¬ S k) : WaT T h w' v x lk ft := by
  obtain ⟨h0, h1, h2, h3⟩ := ha
  exact ⟨h0, (hf.block _ (hk _ (.inl rfl)).1 (hk _ (.inl rfl)).2).trans h1, (hf.block _ (hk _ (.inr rfl)).1 (hk _ (.inr rfl)).2).trans h2, h3⟩
theorem WaT.below {T : TypeId} {h : Hw} {w w' : World} {v : Value} {x : List Int} {lk ft : Nat} (ha : WaT T h w v x lk ft) (hb : Below w.heap.size w w') : WaT T h w' v x lk ft :=
  ha.stay (Fr.of_below (S := fun _ => False) hb) (fun k hk => ⟨ha.lt k hk, fun h => h⟩)
theorem WaT.len {T : TypeId} {h : Hw} {w : World} {v : Value} {x : List Int} {lk ft : Nat} (ha : WaT T h w v x lk ft) : 4 ≤ x.length ∧ x.length ≤ 1048576 := by
  obtain ⟨-, -, -, h3, -⟩ := ha
  have := mayW_bd h3
  omega
theorem WaT.row {T : TypeId} {h : Hw} {w : World} {v : Value} {x : List Int} {lk ft : Nat} (ha : WaT T h w v x lk ft) : Row .u8 w (.slice (some ⟨h.b, 0, none⟩) x.length x.length) x := by
  have hl := ha.len
  obtain ⟨-, -, h2, h3, h4⟩ := ha
  exact row_of_block h2 h4.bytes (by omega)
theorem WaT.ne {T : TypeId} {h : Hw} {w : World} {v : Value} {x : List Int} {lk ft : Nat} (ha : WaT T h w v x lk ft) : h.g ≠ h.b := by
  have hl := ha.len
  obtain ⟨-, h1, h2, -, -⟩ := ha
  intro e
  rw [e, h2] at h1
  injection h1 with h1
  injection h1 with h1
  have := congrArg Array.size h1
  simp [vals] at this
  omega
theorem WaT.cells {T : TypeId} {h : Hw} {w : World} {v : Value} {x : List Int} {lk ft : Nat} (ha : WaT T h w v x lk ft) :
    w.cell? ⟨h.g, 0, none⟩ = some (.slice (some ⟨h.b, 0, none⟩) x.length x.length) ∧ w.cell? ⟨h.g, 1, none⟩ = some (.int .i64 (lk : Int)) ∧ w.cell? ⟨h.g, 2, none⟩ = some (.int .i64 (ft : Int)) :=
  ⟨(cell_block ha.2.1 0).trans rfl, (cell_block ha.2.1 1).trans rfl, (cell_block ha.2.1 2).trans rfl⟩
/-- A part of a block's kinds. -/
theorem WaT.part {T : TypeId} {h : Hw} {w : World} {v : Value} {x : List Int} {lk ft : Nat} (ha : WaT T h w v x lk ft) (a n o c : Nat) (ho : n ≠ 0 → o = a) (hc : n ≤ c) (hc2 : c ≤ 1048576) (hf : a + n ≤ x.length) : Row .u8 w (.slice (some ⟨h.b, o, none⟩) n c) ((x.drop a).take n) := by
  have hl : ((x.drop a).take n).length = n := by rw [List.length_take, List.length_drop]; omega
  obtain ⟨ad, cap, e, -, -, q4, q5⟩ := ha.row
  injection e with e1 e2 e3
  have hx : x ≠ [] := by
    have := ha.len
    rintro rfl
    simp at this
  obtain ⟨b, off, rfl, hlt, hcell⟩ := q5 hx
  injection e1 with e1
  injection e1 with e1 e4 _
  subst e1 e4
  have hg : ∀ i, i < n → ((x.drop a).take n).getD i 0 = x.getD (a + i) 0 := fun i hi => by simp [List.getD, hi]
  refine ⟨_, c, by rw [hl], by rw [hl]; exact hc, by omega, fun i hi => ?_, fun hne => ⟨_, _, rfl, hlt, fun i hi => ?_⟩⟩
  · rw [hl] at hi
    rw [hg i hi]
    exact q4 _ (by omega)
  · rw [hl] at hi
    rw [ho (by omega), hg i hi]
    have := hcell (a + i) (by omega)
    rw [Nat.zero_add] at this
    exact this

abbrev WaC (h : Hw) (w : World) (v : Value) (x : List Int) (lk ft : Nat) : Prop := WaT 51 h w v x lk ft

theorem waT_made (T : TypeId) (w : World) (x : List Int) (hm : mayW x.length = true) (hb : IsKinds x) :
    WaT T ⟨w.heap.size + 1, w.heap.size⟩ ((w.alloc (.cells (vals x).toArray 5)).alloc (.cells #[.slice (some ⟨w.heap.size, 0, none⟩) x.length x.length, .int .i64 0, .int .i64 0] T)) (.pointer (some ⟨w.heap.size + 1, 0, none⟩)) x 0 0 := by
  have hz := size_alloc w (.cells (vals x).toArray 5)
  have h1 := heap_alloc_new (w.alloc (.cells (vals x).toArray 5)) (.cells #[.slice (some ⟨w.heap.size, 0, none⟩) x.length x.length, .int .i64 0, .int .i64 0] T)
  rw [hz] at h1
  refine ⟨rfl, h1, ?_, hm, hb⟩
  exact ((below_made (w.alloc (.cells (vals x).toArray 5)) _).block _ (show w.heap.size < _ by omega)).trans (heap_alloc_new w _)
theorem infoB : (Try.prog.info? 5).map (fun i => (i.zero, i.size, i.bytes)) = some (some (.int .u8 0), 1, 1) := by kernel_rfl
theorem zeros_cells (n : Nat) : madeCells #[Value.int .u8 0] n = (vals (List.replicate n 0)).toArray := by
  rw [madeCells_one]; simp [vals]

set_option maxRecDepth 100000 in
theorem new_yes (n : Nat) (w : World) (h : mayW n = true) : Calls Try.prog 9 #[.int .i64 (n : Int)] w fun e w' => ∃ v h, e = .returned v ∧ WaC h w' v (List.replicate n 0) 0 0 ∧ Below w.heap.size w w' ∧ ∀ k, blkW h k → w.heap.size ≤ k := by
  obtain ⟨i0, hi, hz0, hz1, hz2⟩ := info_parts infoB
  obtain ⟨b1, b2, b3⟩ := mayW_bd h
  have HA := Lib.hid (waT_made 51 w (List.replicate n 0) (by rw [List.length_replicate]; exact h) (kinds_zeros n))
  have HB := Lib.hid (((Below.refl w.heap.size w).alloc (Nat.le_refl _) (.cells (madeCells #[Value.int .u8 0] n) 5)).alloc (le_alloc _ (Nat.le_refl _)) (.cells #[.slice (some ⟨w.heap.size, 0, none⟩) n n, .int .i64 0, .int .i64 0] 51))
  rw [← zeros_cells, List.length_replicate] at HA
  have hz : (w.alloc (.cells (madeCells #[.int .u8 0] n) 5)).heap.size = w.heap.size + 1 := Array.size_push _
  have g0 : ¬ (n : Int) < 4 := by omega
  have g1 : decide ((1048576 : Int) < (n : Int)) = false := by rw [decide_eq_false_iff_not]; omega
  have g2 : (n : Int) % 4 = 0 := b3
  have g3 : Int.tmod (n : Int) 4 = 0 := by rw [Int.tmod_eq_emod_of_nonneg (by omega)]; exact b3
  clear h b3
  go_enter Try.func9, Try.ntmps9
  go_wp2_with (refine wpList_make_row rfl (.tmp 14) (.tmp 14) 37 rfl 5 i0 (.int .u8 0) 1 Try.underlying37 hi hz0 hz1 hz2 .i64 .i64 n rfl rfl (by omega) (by omega) ?_)
  go_ret
  exact ⟨_, rfl, _, HA.out, HB.out, by rintro k (rfl | rfl) <;> simp⟩

theorem new_no (n : Int) (w : World) (h : mayW n = false) : Calls Try.prog 9 #[.int .i64 n] w fun e w' => e = .returned (.pointer none) ∧ w = w' := by
  by_cases h1 : n < 4
  · go_enter Try.func9, Try.ntmps9
    go_wp2
    go_ret
    exact ⟨rfl, rfl⟩
  · by_cases h2 : 1048576 < n
    · go_enter Try.func9, Try.ntmps9
      go_wp2
      go_ret
      exact ⟨rfl, rfl⟩
    · have h3 : ¬ n % 4 = 0 := by
        intro h3
        simp [mayW] at h
        omega
      have h4 : ¬ Int.tmod n 4 = 0 := by rw [Int.tmod_eq_emod_of_nonneg (by omega)]; exact h3
      clear h
      go_enter Try.func9, Try.ntmps9
      go_wp2
      go_ret
      exact ⟨rfl, rfl⟩

theorem made_any (h : Hw) (v : Value) (x : List Int) (lk ft : Nat) (w : World) (ha : WaC h w v x lk ft) : Calls Try.prog 25 #[v] w fun e w' => e = .returned (.bool true) ∧ w = w' := by
  have hl := ha.len
  obtain ⟨c0, -, -⟩ := ha.cells
  obtain ⟨rfl, -⟩ := ha
  have hp : (0 : Int) < (x.length : Int) := by omega
  go_enter Try.func25, Try.ntmps25
  go_wp2
  go_ret
  exact ⟨ret_bool (by simpa using hp), rfl⟩
theorem looks_any (h : Hw) (v : Value) (x : List Int) (lk ft : Nat) (w : World) (ha : WaC h w v x lk ft) : Calls Try.prog 19 #[v] w fun e w' => e = .returned (.int .i64 (lk : Int)) ∧ w = w' := by
  have HM := Lib.hid (made_any h v x lk ft w ha)
  obtain ⟨-, c1, -⟩ := ha.cells
  obtain ⟨rfl, -⟩ := ha
  go_enter Try.func19, Try.ntmps19
  go_wp2_with fail
  refine HM.out.mono ?_
  rintro e w' ⟨rfl, rfl⟩
  go_wp2
  go_ret
  exact ⟨rfl, rfl⟩
theorem faults_any (h : Hw) (v : Value) (x : List Int) (lk ft : Nat) (w : World) (ha : WaC h w v x lk ft) : Calls Try.prog 20 #[v] w fun e w' => e = .returned (.int .i64 (ft : Int)) ∧ w = w' := by
  have HM := Lib.hid (made_any h v x lk ft w ha)
  obtain ⟨-, -, c2⟩ := ha.cells
  obtain ⟨rfl, -⟩ := ha
  go_enter Try.func20, Try.ntmps20
  go_wp2_with fail
  refine HM.out.mono ?_
  rintro e w' ⟨rfl, rfl⟩
  go_wp2
  go_ret
  exact ⟨rfl, rfl⟩

/-- Where a part begins. -/
def ptA (l a : Nat) : Nat := if l = a then 0 else a
set_option maxRecDepth 100000 in
theorem part_yes (h : Hw) (v : Value) (x : List Int) (lk ft a n : Nat) (w : World) (ha : WaC h w v x lk ft) (hf : a + n ≤ x.length) :
    Calls Try.prog 28 #[v, .int .i64 (a : Int), .int .i64 (n : Int)] w fun e w' => e = .returned (.tuple #[.slice (some ⟨h.b, ptA x.length a, none⟩) n (x.length - a), .bool true]) ∧ w = w' := by
  have hl := ha.len
  obtain ⟨c0, -, -⟩ := ha.cells
  obtain ⟨rfl, -⟩ := ha
  have e0 : (0 : Int) ≤ (a : Int) := by omega
  have e1 : (0 : Int) ≤ (n : Int) := by omega
  obtain ⟨d, hd⟩ : ∃ d : Nat, d = x.length - a := ⟨_, rfl⟩
  have w1 : IntKind.i64.wrap ((x.length : Int) - (a : Int)) = (d : Int) := (wrap_id (by omega) (by omega)).trans (by omega)
  obtain ⟨s, hs⟩ : ∃ s : Nat, s = a + n := ⟨_, rfl⟩
  have w2 : IntKind.i64.wrap ((a : Int) + (n : Int)) = (s : Int) := (wrap_id (by omega) (by omega)).trans (by omega)
  have e3 : (a : Int) ≤ (s : Int) := by omega
  have e4 : (s : Int) ≤ (x.length : Int) := by omega
  have g0 : ¬ ((a : Int) < 0) := by omega
  have g1 : decide ((n : Int) < 0) = false := by rw [decide_eq_false_iff_not]; omega
  have g2 : decide ((d : Int) < (n : Int)) = false := by rw [decide_eq_false_iff_not]; omega
  have g4 : decide (d < n) = false := by rw [decide_eq_false_iff_not]; omega
  have hsub : s - a = n := by omega
  by_cases hc : x.length = a
  · obtain rfl : n = 0 := by omega
    obtain rfl : s = a := by omega
    have hpt : ptA x.length s = 0 := by rw [ptA, if_pos hc]
    rw [hpt, ← hc, Nat.sub_self]
    subst hc
    clear hd hs hsub hpt
    go_enter Try.func28, Try.ntmps28
    go_wp2
    go_ret2
    exact ⟨rfl, rfl⟩
  · have hpt : ptA x.length a = a := by rw [ptA, if_neg hc]
    rw [hpt]
    clear hd hs hpt
    go_enter Try.func28, Try.ntmps28
    go_wp2
    go_ret2
    exact ⟨rfl, rfl⟩
theorem part_no (h : Hw) (v : Value) (x : List Int) (lk ft : Nat) (a n : Int) (w : World) (ha : WaC h w v x lk ft) (h64 : is64 a) (hf : fitB x.length a n = false) :
    Calls Try.prog 28 #[v, .int .i64 a, .int .i64 n] w fun e w' => e = .returned (.tuple #[.slice none 0 0, .bool false]) ∧ w = w' := by
  have hl := ha.len
  have hnf := fitB_not hf
  unfold is64 at h64
  obtain ⟨c0, -, -⟩ := ha.cells
  obtain ⟨rfl, -⟩ := ha
  by_cases a0 : a < 0
  · clear hnf hf
    go_enter Try.func28, Try.ntmps28
    go_wp2
    go_ret2
    exact ⟨rfl, rfl⟩
  · have a1 : 0 ≤ a := by omega
    by_cases m0 : n < 0
    · clear hnf hf
      go_enter Try.func28, Try.ntmps28
      go_wp2
      go_ret2
      exact ⟨rfl, rfl⟩
    · have m1 : 0 ≤ n := by omega
      obtain ⟨d, hd⟩ : ∃ d : Int, d = (x.length : Int) - a := ⟨_, rfl⟩
      have w1 : IntKind.i64.wrap ((x.length : Int) - a) = d := (wrap_id (by omega) (by omega)).trans hd.symm
      have e2 : d < n := by omega
      have g1 : decide (n < 0) = false := by rw [decide_eq_false_iff_not]; omega
      have g2 : decide (d < n) = true := by rw [decide_eq_true_eq]; exact e2
      clear hnf hf hd
      go_enter Try.func28, Try.ntmps28
      go_wp2
      go_ret2
      exact ⟨rfl, rfl⟩

theorem runs_any (ad : Option Addr) (len cap : Nat) (w : World) : Calls Try.prog 29 #[.slice ad len cap] w fun e w' => e = .returned (.func (.func 31) #[] #[.pointer (some ⟨w.heap.size, 0, none⟩)]) ∧ w' = w.alloc (.cells #[.slice ad len cap] 37) := by
  go_enter Try.func29, Try.ntmps29
  go_wp2
  go_ret
  exact ⟨rfl, rfl⟩
end Go.Proofs.Ytnpnigeghhcncaa.Wat
