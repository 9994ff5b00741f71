/- Contracts of the document's arena: Zero, Move, Has. -/
import Derived.Test.YtncbfagmdldclaaArnB
namespace Go.Proofs.Ytncbfagmdldclaa.Arn
open Go.RowKit Num
set_option linter.unusedVariables false

theorem WroteA.from {w w1 : World} {v : Value} {g b : Nat} {r : List Int × Int} {e : Ending} {w' : World} (h : WroteA w1 v g b r e w') (hb : Below w.heap.size w w1) : WroteA w v g b r e w' := by
  obtain ⟨h1, b', h2, h3, h4⟩ := h
  refine ⟨h1, b', h2, ?_, (Fr.of_below hb).trans (h4.mono hb.size (fun _ _ h => h))⟩
  rcases h3 with h | h
  · exact .inl h
  · exact .inr (Nat.le_trans hb.size h)
theorem RefA.below {w w' : World} {v : Value} {l : List Int} {g b : Nat} (h : RefA w v l g b) (hb : Below w.heap.size w w') : RefA w' v l g b :=
  h.fr (Fr.of_below (S := fun _ => False) hb) ⟨h.lt.1, fun h => h⟩ ⟨h.lt.2, fun h => h⟩

set_option maxRecDepth 100000 in
set_option maxHeartbeats 2000000 in
theorem refZero_any (v : Value) (l : List Int) (g b : Nat) (a m : Int) (w : World) (hr : RefA w v l g b) :
    Calls Try.prog 28 #[v, .int .i64 a, .int .i64 m] w (WroteA w v g b (zerA l a m)) := by
  have HF := Lib.hid (refFits_any v l g b a m w hr)
  obtain ⟨i0, hi, hz0, hz1, hz2⟩ := info_parts infoB
  have HRA := Lib.hid hr
  obtain ⟨off, n, c, rfl, -, -, -, h5, h6⟩ := hr
  by_cases hf : fitB l.length a m = true
  · rw [hf] at HF
    obtain ⟨x, y, rfl, rfl, hxy⟩ := fitB_nat hf
    have hal := below_made w (.cells (madeCells #[.int .u8 0] y) 5)
    have hw : wriA l x (List.replicate y 0) = zerA l x y := by
      rw [wriA, List.length_replicate, if_pos hf, zerA, if_pos hf]
      rfl
    have HW := Lib.hid (refWrite_any _ _ l (List.replicate y 0) g b x (w.alloc (.cells (madeCells #[.int .u8 0] y) 5)) (HRA.out.below hal) (row_zeros w y 5 (by omega)) (by rw [List.length_replicate]; omega))
    rw [hw] at HW
    have HAl := Lib.hid hal
    clear hf hw hal
    go_enter Try.func28, Try.ntmps28
    go_wp2_with fail
    refine HF.out.mono ?_
    rintro e w' ⟨rfl, rfl⟩
    go_wp2_with (refine wpList_make_row rfl (.tmp 14) (.tmp 14) 32 rfl 5 i0 (.int .u8 0) 1 Try.underlying32 hi hz0 hz1 hz2 .i64 .i64 y rfl rfl (by omega) (by omega) ?_)
    go_wp2_with fail
    refine HW.out.mono ?_
    rintro e w1 hwr
    have HE := Lib.hid (hwr.from HAl.out)
    obtain ⟨rfl, -⟩ := hwr
    go_wp2
    go_ret
    exact HE.out
  · have hf' : fitB l.length a m = false := by simpa using hf
    rw [hf'] at HF
    have hre : zerA l a m = (l, 6) := by rw [zerA, if_neg hf]
    rw [hre]
    clear hf hf' hre
    go_enter Try.func28, Try.ntmps28
    go_wp2_with fail
    refine HF.out.mono ?_
    rintro e w' ⟨rfl, rfl⟩
    go_wp2
    go_ret
    exact ⟨rfl, b, HRA.out, .inl rfl, Fr.refl _ _ _⟩

set_option maxRecDepth 100000 in
set_option maxHeartbeats 2000000 in
theorem refMove_any (v : Value) (l : List Int) (g b : Nat) (f t m : Int) (w : World) (hr : RefA w v l g b) :
    Calls Try.prog 29 #[v, .int .i64 f, .int .i64 t, .int .i64 m] w (WroteA w v g b (movA l f t m)) := by
  have HR := Lib.hid (refRead_any v l g b f m w hr)
  have HRA := Lib.hid hr
  have HF := Lib.hid (fun (u : World) (hu : RefA u v l g b) => refFits_any v l g b t m u hu)
  have HW := Lib.hid (fun (u : World) (q : Value) (X : List Int) (hu : RefA u v l g b) (hq : Row .u8 u q X) (hx : X.length ≤ 1000000) => refWrite_any v q l X g b t u hu hq hx)
  unfold ReadGot at HR
  obtain ⟨off, n, c, rfl, -, -, -, h5, h6⟩ := hr
  by_cases hf : fitB l.length f m = true
  · have hre : reaA l f m = ((l.drop f.toNat).take m.toNat, 0) := by rw [reaA, if_pos hf]
    rw [hre] at HR
    by_cases ht : fitB l.length t m = true
    · rw [ht] at HF
      obtain ⟨x, y, rfl, rfl, hxy⟩ := fitB_nat hf
      simp only [Int.toNat_natCast] at HR
      have hxl : ((l.drop x).take y).length = y := by rw [List.length_take, List.length_drop]; omega
      have hw : wriA l t ((l.drop x).take y) = movA l x t y := by
        rw [wriA, hxl, if_pos ht, movA, hf, ht]
        rfl
      obtain ⟨X, hX⟩ : ∃ X, X = (l.drop x).take y := ⟨_, rfl⟩
      rw [← hX] at HR hxl hw
      have HWw := Lib.hid hw
      have HXl := Lib.hid hxl
      clear hf ht hre hX hw hxl
      go_enter Try.func29, Try.ntmps29
      go_wp2_with fail
      refine HR.out.mono ?_
      rintro e w1 ⟨u, rfl, hb1, hrow⟩
      have HRA1 := Lib.hid (HRA.out.below hb1)
      have HB1 := Lib.hid hb1
      have HRow := Lib.hid hrow
      obtain ⟨a1, c1, rfl, -, -, -, -⟩ := hrow
      clear hb1
      go_wp2_with fail
      refine (HF.out _ HRA1.out).mono ?_
      rintro e w' ⟨rfl, rfl⟩
      go_wp2_with fail
      refine (HW.out _ _ X HRA1.out HRow.out (by have := HXl.out; omega)).mono ?_
      rintro e w2 hwr
      rw [HWw.out] at hwr
      have HE := Lib.hid (hwr.from HB1.out)
      obtain ⟨rfl, -⟩ := hwr
      go_wp2
      go_ret
      exact HE.out
    · have ht' : fitB l.length t m = false := by simpa using ht
      rw [ht'] at HF
      have hmo : movA l f t m = (l, 6) := by rw [movA, ht']; simp
      rw [hmo]
      clear hf ht ht' hre hmo HW
      go_enter Try.func29, Try.ntmps29
      go_wp2_with fail
      refine HR.out.mono ?_
      rintro e w1 ⟨u, rfl, hb1, hrow⟩
      have HRA1 := Lib.hid (HRA.out.below hb1)
      have HB1 := Lib.hid hb1
      clear hb1 hrow
      go_wp2_with fail
      refine (HF.out _ HRA1.out).mono ?_
      rintro e w' ⟨rfl, rfl⟩
      go_wp2
      go_ret
      exact ⟨rfl, b, HRA1.out, .inl rfl, Fr.of_below HB1.out⟩
  · have hf' : fitB l.length f m = false := by simpa using hf
    have hre : reaA l f m = ([], 6) := by rw [reaA, if_neg hf]
    have hmo : movA l f t m = (l, 6) := by rw [movA, hf']; simp
    rw [hre] at HR
    rw [hmo]
    clear hf hf' hre hmo HW HF
    go_enter Try.func29, Try.ntmps29
    go_wp2_with fail
    refine HR.out.mono ?_
    rintro e w1 ⟨u, rfl, hb1, hrow⟩
    have HRA1 := Lib.hid (HRA.out.below hb1)
    have HB1 := Lib.hid hb1
    clear hb1 hrow
    go_wp2
    go_ret
    exact ⟨rfl, b, HRA1.out, .inl rfl, Fr.of_below HB1.out⟩

theorem hasA_step (l X : List Int) (k : Nat) (h : k + X.length ≤ l.length) (he : ((l.drop k).take X.length == X) = false) (hk : (List.range k).all (fun i => !((l.drop i).take X.length == X)) = true) : (List.range (k + 1)).all (fun i => !((l.drop i).take X.length == X)) = true := by
  rw [List.range_succ, List.all_append, hk]
  simp [he]
theorem hasA_yes (l X : List Int) (k : Nat) (h : k + X.length ≤ l.length) (he : ((l.drop k).take X.length == X) = true) : hasA l X = true := by
  rw [hasA, List.any_eq_true]
  exact ⟨k, by simp; omega, he⟩
theorem hasA_no (l X : List Int) (k : Nat) (h : l.length < k + X.length) (hk : (List.range k).all (fun i => !((l.drop i).take X.length == X)) = true) : hasA l X = false := by
  rw [hasA, List.any_eq_false]
  intro i hi
  rw [List.all_eq_true] at hk
  have := hk i (by simp at hi ⊢; omega)
  simpa using this

set_option maxRecDepth 100000 in
set_option maxHeartbeats 2000000 in
theorem refHas_any (v u : Value) (l X : List Int) (g b : Nat) (w : World) (hr : RefA w v l g b) (hx : Row .u8 w u X) (hxl : X.length ≤ 1000000) :
    Calls Try.prog 30 #[v, u] w fun e w' => e = .returned (.bool (hasA l X)) ∧ Below w.heap.size w w' := by
  obtain ⟨off, n, c, rfl, h2, h3, h4, h5, h6⟩ := hr
  have c1 := cell_of_one h2
  have HR := Lib.hid h3
  have HX := Lib.hid hx
  obtain ⟨ad, cap, he, p2, p3, -, -⟩ := h3
  injection he with e1 e2 e3
  subst e1 e2 e3
  obtain ⟨adx, capx, rfl, -, -, -, -⟩ := hx
  have hx63 : (X.length : Int) ≤ 1000000 := by omega
  clear h2
  go_enter Try.func30, Try.ntmps30
  go_wp2
  go_loopw [5] (fun i wr => ∃ k : Nat, k ≤ l.length + 1 ∧ i = .int .i64 k ∧ Hid ((List.range k).all (fun i => !((l.drop i).take X.length == X)) = true) ∧ Hid (Below w.heap.size w wr)) (fun i _ => l.length + 1 - (intOf i).toNat)
  case atStart => exact ⟨0, by omega, rfl, rfl, Below.refl _ _⟩
  case round =>
    obtain ⟨k, hk, rfl, HA, HW⟩ := hrel
    have hbel := HW.out
    have hsz := hbel.size
    have c2 := (hbel.cell (p := ⟨g, 0, none⟩) (World.block_lt_of_cell? w _ c1)).trans c1
    by_cases hlt : k + X.length ≤ l.length
    · have hw : IntKind.i64.wrap ((k : Int) + (X.length : Int)) = ((k + X.length : Nat) : Int) := (wrap_id (by omega) (by omega)).trans (by omega)
      obtain ⟨s, hs⟩ : ∃ s, s = k + X.length := ⟨_, rfl⟩
      rw [← hs] at hw
      have hsl : (s : Int) ≤ (l.length : Int) := by omega
      have hsc : (s : Int) ≤ (c : Int) := by omega
      have hks : (k : Int) ≤ (s : Int) := by omega
      have hk0 : (0 : Int) ≤ (k : Int) := by omega
      have hsk : s - k = X.length := by omega
      have hrow := HR.out.mono hbel (Nat.le_refl _)
      have hxr := HX.out.mono hbel (Nat.le_refl _)
      have hbyP : IsBytes ((l.drop k).take X.length) := part_bytes k X.length hrow.bytes
      have hbyX : IsBytes X := hxr.bytes
      have hq := strOfNums_toList_beq hbyP hbyX
      obtain ⟨P, hP⟩ : ∃ P, P = (l.drop k).take X.length := ⟨_, rfl⟩
      have hS := hasA_step l X k hlt
      have hY := hasA_yes l X k hlt
      rw [← hP] at hq hS hY hbyP
      obtain ⟨S1, hS1⟩ : ∃ S, S = strOfNums P := ⟨_, rfl⟩
      obtain ⟨S2, hS2⟩ : ∃ S, S = strOfNums X := ⟨_, rfl⟩
      rw [← hS1, ← hS2] at hq
      have k1 := Kept.cell c2 (show g < wr.heap.size by have := World.block_lt_of_cell? w _ c1; simp only [] at this; omega)
      have kc1 : ∀ k : Kept wr.heap.size wr, (convert 32 9 (.slice adx X.length capx)).run Try.prog k.w = .ok (.string S2) k.w := fun k => by
        rw [hS2]
        exact Row.string (P := Try.prog) (hxr.mono k.below (Nat.le_refl _)) 32 9 5 Try.underlying32 Try.underlying5 Try.underlying9
      have HSt := Lib.hid (fun (h : (P == X) = false) => hS h HA.out)
      have HYe := Lib.hid hY
      obtain ⟨q, hqq⟩ : ∃ q, q = (P == X) := ⟨_, rfl⟩
      rw [← hqq] at hq HSt HYe
      by_cases hck : c = k
      · have hX0 : X = [] := List.eq_nil_of_length_eq_zero (by omega)
        have kc2 : ∀ k' : Kept wr.heap.size wr, (convert 32 9 (.slice (some ⟨b, off, none⟩) X.length 0)).run Try.prog k'.w = .ok (.string S1) k'.w := fun k' => by
          rw [hS1]
          refine Row.string (P := Try.prog) ?_ 32 9 5 Try.underlying32 Try.underlying5 Try.underlying9
          have hP0 : P = [] := by rw [hP, hX0]; rfl
          rw [hP0]
          exact ⟨_, 0, by rw [hX0], Nat.le_refl _, by omega, fun i hi => by simp at hi, fun h => absurd rfl h⟩
        have hqt : q = true := by rw [hqq, hP, hX0]; rfl
        have HYt := Lib.hid (HYe.out hqt)
        rw [hqt] at hq
        subst hck
        clear hlt hrow hxr hbyP hbyX hP hS hY hS1 hS2 hs hqq HA hbel hX0 HSt HYe hqt
        go_wp2_with fail
        refine wp_region_kept (by kernel_rfl) (by kernel_rfl) ?_
        repeat (go_big_quiet_step (fail))
        refine wpQuiet_nil ?_
        intro _ hw'
        obtain ⟨kk, rfl⟩ := hw'
        have hb2 := HW.out.trans (kk.below.mono hsz)
        go_wp2
        go_ret
        exact ⟨ret_bool HYt.out.symm, hb2⟩
      · have kc2 : ∀ k' : Kept wr.heap.size wr, (convert 32 9 (.slice (some ⟨b, off + k, none⟩) X.length (c - k))).run Try.prog k'.w = .ok (.string S1) k'.w := fun k' => by
          rw [hS1, hP, ← hsk]
          exact Row.string (P := Try.prog) (Row.cutA (hrow.mono k'.below (Nat.le_refl _)) (by omega) (by omega) _ _ _ rfl rfl (.inl rfl)) 32 9 5 Try.underlying32 Try.underlying5 Try.underlying9
        clear hlt hrow hxr hbyP hbyX hP hS hY hS1 hS2 hs hqq HA hbel
        cases q
        · go_wp2_with fail
          refine wp_region_kept (by kernel_rfl) (by kernel_rfl) ?_
          repeat (go_big_quiet_step (fail))
          refine wpQuiet_nil ?_
          intro _ hw'
          obtain ⟨kk, rfl⟩ := hw'
          have hb2 := HW.out.trans (kk.below.mono hsz)
          go_wp2
          go_roundw
          case rel => exact ⟨k + 1, by omega, by go_num, HSt.out (by simp), hb2⟩
          case measure => simp [intOf]; omega
        · go_wp2_with fail
          refine wp_region_kept (by kernel_rfl) (by kernel_rfl) ?_
          repeat (go_big_quiet_step (fail))
          refine wpQuiet_nil ?_
          intro _ hw'
          obtain ⟨kk, rfl⟩ := hw'
          have hb2 := HW.out.trans (kk.below.mono hsz)
          go_wp2
          go_ret
          exact ⟨ret_bool (HYe.out (by simp)).symm, hb2⟩
    · have hno := hasA_no l X k (by omega) HA.out
      have HN := Lib.hid hno
      have hlt2 : (l.length : Int) < (k : Int) + (X.length : Int) := by omega
      clear hno HA
      go_wp2
      go_ret
      exact ⟨ret_bool HN.out.symm, HW.out⟩
end Go.Proofs.Ytncbfagmdldclaa.Arn
