/- Contracts of the document's watch. -/
import Derived.Test.YtnpnigeghhcncaaWatD
namespace Go.Proofs.Ytnpnigeghhcncaa.Wat
open Go.RowKit Num Arn
set_option linter.unusedVariables false

abbrev WaR (h : Hw) (w : World) (v : Value) (x : List Int) (lk ft : Nat) : Prop := WaT 39 h w v x lk ft

theorem refMay_any (n : Int) (w : World) : Calls Try.prog 24 #[.int .i64 n] w fun e w' => e = .returned (.bool (mayW n)) ∧ w = w' := by
  have HT := Lib.hid (tmod_zero n 4)
  by_cases h1 : 4 ≤ n
  · by_cases h2 : n ≤ 1048576
    · go_enter Try.func24, Try.ntmps24
      go_wp2
      go_ret
      exact ⟨ret_bool (by rw [Bool.eq_iff_iff]; simp [mayW, h1, h2]), rfl⟩
    · go_enter Try.func24, Try.ntmps24
      go_wp2
      go_ret
      exact ⟨ret_bool (by simp [mayW]; omega), rfl⟩
  · go_enter Try.func24, Try.ntmps24
    go_wp2
    go_ret
    exact ⟨ret_bool (by simp [mayW]; omega), rfl⟩

theorem refNew_no (n : Int) (w : World) (h : mayW n = false) : Calls Try.prog 10 #[.int .i64 n] w fun e w' => e = .returned (.pointer none) ∧ w = w' := by
  have HM := Lib.hid (refMay_any n w)
  rw [h] at HM
  clear h
  go_enter Try.func10, Try.ntmps10
  go_wp2_with fail
  refine HM.out.mono ?_
  rintro e w' ⟨rfl, rfl⟩
  go_wp2
  go_ret
  exact ⟨rfl, rfl⟩

set_option maxRecDepth 100000 in
theorem refNew_yes (n : Nat) (w : World) (h : mayW n = true) : Calls Try.prog 10 #[.int .i64 (n : Int)] w fun e w' => ∃ v h, e = .returned v ∧ WaR h w' v (List.replicate n 0) 0 0 ∧ Below w.heap.size w w' ∧ ∀ k, blkW h k → w.heap.size ≤ k := by
  obtain ⟨i0, hi, hz0, hz1, hz2⟩ := info_parts infoB
  obtain ⟨b1, b2, b3⟩ := mayW_bd h
  have HM := Lib.hid (refMay_any n w)
  rw [h] at HM
  have HA := Lib.hid (waT_made 39 w (List.replicate n 0) (by rw [List.length_replicate]; exact h) (kinds_zeros n))
  have HB := Lib.hid (((Below.refl w.heap.size w).alloc (Nat.le_refl _) (.cells (madeCells #[Value.int .u8 0] n) 5)).alloc (le_alloc _ (Nat.le_refl _)) (.cells #[.slice (some ⟨w.heap.size, 0, none⟩) n n, .int .i64 0, .int .i64 0] 39))
  rw [← zeros_cells, List.length_replicate] at HA
  have hz : (w.alloc (.cells (madeCells #[.int .u8 0] n) 5)).heap.size = w.heap.size + 1 := Array.size_push _
  clear h b3
  go_enter Try.func10, Try.ntmps10
  go_wp2_with fail
  refine HM.out.mono ?_
  rintro e w' ⟨rfl, rfl⟩
  go_wp2_with (refine wpList_make_row rfl (.tmp 6) (.tmp 6) 37 rfl 5 i0 (.int .u8 0) 1 Try.underlying37 hi hz0 hz1 hz2 .i64 .i64 n rfl rfl (by omega) (by omega) ?_)
  go_ret
  exact ⟨_, _, rfl, HA.out, HB.out, by rintro k (rfl | rfl) <;> simp⟩

theorem refFits_any (h : Hw) (v : Value) (x : List Int) (lk ft : Nat) (a m : Int) (w : World) (ha : WaR h w v x lk ft) :
    Calls Try.prog 27 #[v, .int .i64 a, .int .i64 m] w fun e w' => e = .returned (.bool (fitB x.length a m)) ∧ w = w' := by
  have hl := ha.len
  obtain ⟨c0, -, -⟩ := ha.cells
  obtain ⟨rfl, -⟩ := ha
  by_cases h1 : 0 ≤ a
  · by_cases hm : 0 ≤ m
    · by_cases hal : a ≤ x.length
      · have hw : IntKind.i64.wrap ((x.length : Int) - a) = (x.length : Int) - a := wrap_id (by omega) (by omega)
        have HE : Hid (fitB x.length a m = decide (m ≤ (x.length : Int) - a)) := by simp [Hid, fitB, h1, hm, hal]
        obtain ⟨d, hd⟩ : ∃ d, d = (x.length : Int) - a := ⟨_, rfl⟩
        have hd' := hd.symm
        rw [← hd] at HE
        clear hd
        go_enter Try.func27, Try.ntmps27
        go_wp2
        go_ret
        exact ⟨ret_bool HE.out.symm, rfl⟩
      · have HE : Hid (fitB x.length a m = false) := by simp [Hid, fitB]; omega
        go_enter Try.func27, Try.ntmps27
        go_wp2
        go_ret
        exact ⟨ret_bool HE.out.symm, rfl⟩
    · have HE : Hid (fitB x.length a m = false) := by simp [Hid, fitB]; omega
      go_enter Try.func27, Try.ntmps27
      go_wp2
      go_ret
      exact ⟨ret_bool HE.out.symm, rfl⟩
  · have HE : Hid (fitB x.length a m = false) := by simp [Hid, fitB]; omega
    go_enter Try.func27, Try.ntmps27
    go_wp2
    go_ret
    exact ⟨ret_bool HE.out.symm, rfl⟩

theorem wrL_next (x : List Int) (a : Nat) (M : List Int) (y : Int) (h : a + M.length < x.length) : (wrL x a M).set (a + M.length) y = wrL x a (M ++ [y]) := by
  unfold wrL
  rw [List.set_append_right _ _ (by rw [List.length_take]; omega), List.length_take, Nat.min_eq_left (by omega), show a + M.length - a = M.length by omega, List.set_append_right _ _ (Nat.le_refl _), Nat.sub_self, List.drop_eq_getElem_cons h, List.set_cons_zero, List.length_append, List.length_singleton, List.append_assoc]
  rfl

set_option maxRecDepth 100000 in
set_option maxHeartbeats 400000 in
theorem refMark_any (h : Hw) (v : Value) (x : List Int) (lk ft : Nat) (a n k : Int) (w : World) (ha : WaR h w v x lk ft) :
    Calls Try.prog 18 #[v, .int .i64 a, .int .i64 n, .int .i64 k] w (Marked 39 h w v lk ft (mrkA x a n k)) := by
  have hl := ha.len
  have HF := Lib.hid (refFits_any h v x lk ft a n w ha)
  have HSame : Hid (∀ e, Marked 39 h w v lk ft (x, e) (.returned (.int .i64 e)) w) := fun e => ⟨rfl, ha, Fr.refl _ _ _⟩
  have hmk := mrkA_kinds ha.2.2.2.2 a n k
  have hv := ha.1
  subst hv
  by_cases k0 : k < 0
  · have hr : mrkA x a n k = (x, 2) := by rw [mrkA, if_pos (.inl k0)]
    rw [hr]
    clear hr hmk ha
    go_enter Try.func18, Try.ntmps18
    go_wp2
    go_ret
    exact HSame.out 2
  · by_cases k8 : 8 < k
    · have hr : mrkA x a n k = (x, 2) := by rw [mrkA, if_pos (.inr k8)]
      rw [hr]
      clear hr hmk ha
      go_enter Try.func18, Try.ntmps18
      go_wp2
      go_ret
      exact HSame.out 2
    · have d8 : decide ((8 : Int) < k) = false := by rw [decide_eq_false_iff_not]; omega
      have hwk : IntKind.u8.wrap k = k := by simp [IntKind.wrap, IntKind.bits, IntKind.signed]; omega
      by_cases hf : fitB x.length a n = true
      · rw [hf] at HF
        obtain ⟨p, q, rfl, rfl, hpq⟩ := fitB_nat hf
        by_cases ha4 : (p : Int) % 4 = 0
        · have ta : Int.tmod (p : Int) 4 = 0 := (tmod_zero _ _).2 ha4
          by_cases hq4 : (q : Int) % 4 = 0
          · have tq : Int.tmod (q : Int) 4 = 0 := (tmod_zero _ _).2 hq4
            have hr : mrkA x p q k = (wrL x p (List.replicate q k), 0) := by
              rw [mrkA, if_neg (by omega), if_neg (by rw [hf]; decide), if_neg (by omega)]
              rfl
            rw [hr] at hmk ⊢
            have HA := Lib.hid ha
            have HK := Lib.hid hmk
            have hg1 := ha.lt h.g (.inl rfl)
            have hne := ha.ne
            obtain ⟨c0, -, -⟩ := ha.cells
            have hb0 := ha.2.2.1
            have HB0 := Lib.hid hb0
            clear hr hmk ha hf ha4 hq4 hb0 c0
            go_enter Try.func18, Try.ntmps18
            go_wp2_with fail
            refine HF.out.mono ?_
            rintro e w' ⟨rfl, rfl⟩
            go_wp2
            go_loopw [9] (fun i wr => ∃ m : Nat, m ≤ q ∧ i = .int .i64 m ∧ Hid (wr.heap[h.b]? = some (.cells (vals (wrL x p (List.replicate m k))).toArray 5 (0, 0))) ∧ Hid (Fr w.heap.size (fun m => m = h.b) w wr)) (fun i _ => q - (intOf i).toNat)
            case atStart => exact ⟨0, Nat.zero_le _, rfl, by rw [List.replicate_zero, wrL_nil]; exact HB0.out, Fr.refl _ _ _⟩
            case round =>
              obtain ⟨m, hm, rfl, HH, HFr⟩ := hrel
              by_cases hlt : m < q
              · have hlt1 : (m : Int) < (q : Int) := by omega
                have hlt0 : (0 : Int) ≤ (m : Int) := by omega
                obtain ⟨c0, -, -⟩ := HA.out.cells
                have c0' := HFr.out.cell c0 hg1 hne
                obtain ⟨L, hL⟩ : ∃ L, L = wrL x p (List.replicate m k) := ⟨_, rfl⟩
                have hLl : L.length = x.length := by rw [hL]; exact wrL_length _ _ _ (by rw [List.length_replicate]; omega)
                have hblk := HH.out
                rw [← hL] at hblk
                obtain ⟨s, hs⟩ : ∃ s : Nat, s = p + m := ⟨_, rfl⟩
                have hs1 : (s : Int) < (x.length : Int) := by omega
                have hs0 : (0 : Int) ≤ (s : Int) := by omega
                have hcell : wr.cell? ⟨h.b, s, none⟩ = some (.int .u8 (L.getD s 0)) := by
                  rw [cell_block hblk, List.getElem?_toArray, vals_get _ _ (by omega)]
                have hfr := frozen_block hblk s
                have HN : Hid ((wr.setCell ⟨h.b, s, none⟩ (.int .u8 k)).heap[h.b]? = some (.cells (vals (wrL x p (List.replicate (m + 1) k))).toArray 5 (0, 0))) := by
                  have h1 := heap_setCell_own (o := s) hblk (.int .u8 k)
                  have h2 := wrL_next x p (List.replicate m k) k (by rw [List.length_replicate]; omega)
                  rw [List.length_replicate, ← List.replicate_succ', ← hL, ← hs] at h2
                  rw [vals_set, h2] at h1
                  exact h1
                have HFN : Hid (Fr w.heap.size (fun m => m = h.b) w (wr.setCell ⟨h.b, s, none⟩ (.int .u8 k))) := HFr.out.setCell (.inr rfl) _
                obtain ⟨hw1, hw2⟩ : IntKind.i64.wrap ((p : Int) + (m : Int)) = (s : Int) ∧ wrap64 ((p : Int) + (m : Int)) = (s : Int) := ⟨(wrap_id (by omega) (by omega)).trans (by omega), (IntWalk.wrap64_in _ (by omega)).trans (by omega)⟩
                clear hblk hL hLl HH HFr c0 hs
                go_wp2
                go_roundw
                case rel => exact ⟨m + 1, by omega, by go_num, HN.out, HFN.out⟩
                case measure => simp [intOf]; omega
              · obtain rfl : m = q := by omega
                have HZ : Hid (Marked 39 h w (.pointer (some ⟨h.g, 0, none⟩)) lk ft (wrL x p (List.replicate m k), 0) (.returned (.int .i64 0)) wr) := by
                  have hml : (wrL x p (List.replicate m k)).length = x.length := wrL_length _ _ _ (by rw [List.length_replicate]; omega)
                  obtain ⟨a0, a1, a2, a3, a4⟩ := HA.out
                  refine ⟨rfl, ⟨rfl, ?_, HH.out, ?_, HK.out⟩, HFr.out.mono (Nat.le_refl _) (fun m _ hm => .inr hm)⟩
                  · simp only []
                    rw [hml]
                    exact (HFr.out.block _ hg1 hne).trans a1
                  · simp only []
                    rw [hml]
                    exact a3
                go_wp2
                go_ret
                exact HZ.out
          · have tq : ¬ Int.tmod (q : Int) 4 = 0 := fun e => hq4 ((tmod_zero _ _).1 e)
            have hr : mrkA x p q k = (x, 9) := by
              rw [mrkA, if_neg (by omega), if_neg (by rw [hf]; decide), if_pos (.inr hq4)]
            rw [hr]
            clear hr hmk ha hf
            go_enter Try.func18, Try.ntmps18
            go_wp2_with fail
            refine HF.out.mono ?_
            rintro e w' ⟨rfl, rfl⟩
            go_wp2
            go_ret
            exact HSame.out 9
        · have ta : ¬ Int.tmod (p : Int) 4 = 0 := fun e => ha4 ((tmod_zero _ _).1 e)
          have hr : mrkA x p q k = (x, 9) := by
            rw [mrkA, if_neg (by omega), if_neg (by rw [hf]; decide), if_pos (.inl ha4)]
          rw [hr]
          clear hr hmk ha hf
          go_enter Try.func18, Try.ntmps18
          go_wp2_with fail
          refine HF.out.mono ?_
          rintro e w' ⟨rfl, rfl⟩
          go_wp2
          go_ret
          exact HSame.out 9
      · have hf' : fitB x.length a n = false := by simpa using hf
        have hr : mrkA x a n k = (x, 6) := by rw [mrkA, if_neg (by omega), if_pos hf']
        rw [hr]
        rw [hf'] at HF
        clear hr hmk ha hf hf'
        go_enter Try.func18, Try.ntmps18
        go_wp2_with fail
        refine HF.out.mono ?_
        rintro e w' ⟨rfl, rfl⟩
        go_wp2
        go_ret
        exact HSame.out 6
end Go.Proofs.Ytnpnigeghhcncaa.Wat
