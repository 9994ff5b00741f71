/- Contracts of the landed functions of records: readEnds, Unpack. -/
import Derived.Test.YtbjdlfeipidlbaaRecS
namespace Go.Proofs.Ytbjdlfeipidlbaa.Rec
open Go.RowKit
set_option linter.unusedVariables false

/-- Why ends can't be read. -/
def rdE (l : List Int) : Int :=
  if l.length < 2 then 3 else if l.getD 0 0 = 0 ∨ 16 < l.getD 0 0 ∨ ¬ l.getD 1 0 = 0 then 4
  else if l.length < 2 + 2 * (l.getD 0 0).toNat then 3 else if rises 0 (endsOf l (l.getD 0 0).toNat) = false then 4 else 0
theorem unp_rd (l : List Int) (h : rdE l ≠ 0) : unpV l = ([], rdE l) := by
  revert h
  unfold rdE unpV
  (repeat' split) <;> simp_all
theorem rd_ok (l : List Int) (hb : ∀ i, 0 ≤ l.getD i 0 ∧ l.getD i 0 < 256) (h : rdE l = 0) : ∃ n : Nat, l.getD 0 0 = n ∧ 1 ≤ n ∧ n ≤ 16 ∧ 2 + 2 * n ≤ l.length ∧ rises 0 (endsOf l n) = true ∧
    unpV l = if fillE l.length (2 + 2 * n + endAt l (n - 1)) = 0 then (cutP (l.drop (2 + 2 * n)) 0 (endsOf l n), 0) else ([], fillE l.length (2 + 2 * n + endAt l (n - 1))) := by
  have hb0 := hb 0
  obtain ⟨n, hn⟩ := Int.eq_ofNat_of_zero_le hb0.1
  revert h
  unfold rdE
  rw [hn, Int.toNat_natCast]
  split
  · simp
  split
  · simp
  split
  · simp
  split
  · simp
  rename_i h1 h2 h3 h4
  intro _
  refine ⟨n, rfl, by omega, by omega, by omega, by simpa using h4, ?_⟩
  unfold unpV fillE
  rw [hn, Int.toNat_natCast, if_neg h1, if_neg h2, if_neg h3, if_neg h4]
  by_cases h5 : l.length < 2 + 2 * n + endAt l (n - 1)
  · rw [if_pos h5, if_pos h5, if_neg (by omega)]
  · rw [if_neg h5, if_neg h5]
    by_cases h6 : 2 + 2 * n + endAt l (n - 1) < l.length ∨ 480 < l.length
    · rw [if_pos h6, if_pos h6, if_neg (by omega)]
    · rw [if_neg h6, if_neg h6, if_pos rfl]

theorem ldv_end (l : List Int) (hb : ∀ i, 0 ≤ l.getD i 0 ∧ l.getD i 0 < 256) (i a : Nat) (ha : a = 2 + 2 * i) (h : a + 2 ≤ l.length) : Num.ldv l a 2 = (((endAt l i : Nat) : Int), 0) := by
  have h1 : Num.isW 2 = true := by decide
  have h2 : Num.plc l.length a 2 = 0 := by unfold Num.plc; rw [if_neg (by omega), if_pos (by omega)]
  unfold Num.ldv
  rw [if_pos h1, if_pos h2, Int.toNat_natCast, show (2 : Int).toNat = 1 + 1 from rfl, Num.take_drop_cons l a 1 (by omega), Num.take_drop_cons l (a + 1) 0 (by omega), List.take_zero]
  simp only [Num.le]
  have e := (endAt_bd hb i).1
  rw [show 2 + 2 * i = a by omega, show 3 + 2 * i = a + 1 by omega] at e
  rw [e]
  simp

theorem ends_step (l : List Int) (k E : Nat) (hE : E = endAt l k) (i : Nat) : (if i = k then Value.int .i64 (E : Int) else Value.int .i64 ((if i < k then endAt l i else 0 : Nat) : Int)) = Value.int .i64 ((if i < k + 1 then endAt l i else 0 : Nat) : Int) := by
  by_cases e : i = k
  · subst e
    rw [if_pos rfl, if_pos (Nat.lt_succ_self i), hE]
  · rw [if_neg e]
    by_cases e2 : i < k
    · rw [if_pos e2, if_pos (show i < k + 1 by omega)]
    · rw [if_neg e2, if_neg (show ¬ i < k + 1 by omega)]

/-- What comes of reading ends. -/
def RGot (w : World) (l : List Int) (e : Ending) (w' : World) : Prop :=
  ∃ u, e = .returned (.tuple #[u, .int .i64 (rdE l)]) ∧ Below w.heap.size w w' ∧ (∃ a n c, u = .slice a n c) ∧ (rdE l = 0 → Row .i64 w' u (ints (endsOf l (l.getD 0 0).toNat)))
theorem RGot.fail {w w' : World} {l : List Int} {c : Int} (h : rdE l = c) (hc : c ≠ 0) (hb : Below w.heap.size w w') : RGot w l (.returned (.tuple #[.slice none 0 0, .int .i64 c])) w' :=
  ⟨_, by rw [h], hb, ⟨_, _, _, rfl⟩, fun h0 => absurd (h.symm.trans h0) hc⟩

set_option maxRecDepth 100000 in
set_option maxHeartbeats 2000000 in
theorem readEnds_any (v : Value) (l : List Int) (w : World) (hr : Row .u8 w v l) (hl : l.length ≤ 1000000000) :
    Calls Try.prog 32 #[v] w (RGot w l) := by
  obtain ⟨iN, hiN, hzN0, hzN1, hzN2⟩ := info_parts infoInt
  have HB := Lib.hid hr.bytes
  have HRow := Lib.hid hr
  obtain ⟨ad, cap, rfl, q2, q3, q4, q5⟩ := hr
  have HQ := Lib.hid q5
  clear q4 q5
  by_cases h2 : l.length < 2
  · have HE := Lib.hid (RGot.fail (w := w) (w' := w) (l := l) (c := 3) (by rw [rdE, if_pos h2]) (by decide) (Below.refl _ _))
    have i2 : (l.length : Int) < 2 := by omega
    clear h2
    go_enter Try.func32, Try.ntmps32
    go_wp2
    go_ret2
    exact HE.out
  · have i2 : ¬ (l.length : Int) < 2 := by omega
    obtain ⟨b, off, rfl, hlb, hc⟩ := HQ.out (by rintro rfl; simp at h2)
    have hc0 := hc 0 (by omega)
    have hc1 := hc 1 (by omega)
    rw [Nat.add_zero] at hc0
    have hb0 := HB.out 0
    have hb1 := HB.out 1
    obtain ⟨n, hn⟩ := Int.eq_ofNat_of_zero_le hb0.1
    obtain ⟨m, hm⟩ := Int.eq_ofNat_of_zero_le hb1.1
    have nb : (n : Int) < 256 := by omega
    have mb : (m : Int) < 256 := by omega
    rw [hn] at hc0
    rw [hm] at hc1
    have i0 : (0 : Int) < (l.length : Int) := by omega
    have i1 : (1 : Int) < (l.length : Int) := by omega
    have HI := Lib.hid (fun w0 => isCount_any (n : Int) w0)
    clear hc
    by_cases hf : l.getD 0 0 = 0 ∨ 16 < l.getD 0 0 ∨ ¬ l.getD 1 0 = 0
    · have HE := Lib.hid (RGot.fail (w := w) (w' := w) (l := l) (c := 4) (by rw [rdE, if_neg h2, if_pos hf]) (by decide) (Below.refl _ _))
      rw [hn, hm] at hf
      have hcase : (decide ((1 : Int) ≤ n) && decide ((n : Int) ≤ 16)) = false ∨ ((decide ((1 : Int) ≤ n) && decide ((n : Int) ≤ 16)) = true ∧ ((m : Int) != 0) = true) := by
        rw [Bool.and_eq_false_iff, decide_eq_false_iff_not, decide_eq_false_iff_not, Bool.and_eq_true, decide_eq_true_eq, decide_eq_true_eq, bne_iff_ne]
        omega
      clear h2 hf hn hm hb0 hb1
      rcases hcase with h1 | ⟨h1, h3⟩
      all_goals
        rw [h1] at HI
        clear h1
        go_enter Try.func32, Try.ntmps32
        go_wp2_with fail
        refine (HI.out _).mono ?_
        rintro e w' ⟨rfl, rfl⟩
        go_wp2
        go_ret2
        exact HE.out
    · have hn1 : 1 ≤ n ∧ n ≤ 16 ∧ m = 0 := by
        rw [hn, hm] at hf
        have : (m : Int) = 0 := Decidable.byContradiction fun e => hf (.inr (.inr e))
        omega
      obtain ⟨n1, n2, rfl⟩ := hn1
      have h1 : (decide ((1 : Int) ≤ n) && decide ((n : Int) ≤ 16)) = true := by
        rw [Bool.and_eq_true, decide_eq_true_eq, decide_eq_true_eq]; omega
      rw [h1] at HI
      obtain ⟨s, hs⟩ : ∃ s, s = 2 + 2 * n := ⟨_, rfl⟩
      have HA := Lib.hid (fun w0 => endAt_any n s w0 (by omega) hs.symm)
      have hs2 : s ≤ 34 := by omega
      by_cases h3 : l.length < 2 + 2 * n
      · have HE := Lib.hid (RGot.fail (w := w) (w' := w) (l := l) (c := 3) (by rw [rdE, if_neg h2, if_neg hf, hn, Int.toNat_natCast, if_pos h3]) (by decide) (Below.refl _ _))
        have j3 : (l.length : Int) < s := by omega
        clear h2 h3 hf hn hm hb0 hb1 h1 hs
        go_enter Try.func32, Try.ntmps32
        go_wp2_with fail
        refine (HI.out _).mono ?_
        rintro e w' ⟨rfl, rfl⟩
        go_wp2_with fail
        refine (HA.out _).mono ?_
        rintro e w' ⟨rfl, rfl⟩
        go_wp2
        go_ret2
        exact HE.out
      · have j3 : ¬ (l.length : Int) < s := by omega
        have HE1 : Hid (rises 0 (endsOf l n) = false → rdE l = 4) := fun h => by rw [rdE, if_neg h2, if_neg hf, hn, Int.toNat_natCast, if_neg h3, if_pos h]
        have HE0 : Hid (rises 0 (endsOf l n) = true → rdE l = 0) := fun h => by rw [rdE, if_neg h2, if_neg hf, hn, Int.toNat_natCast, if_neg h3, if_neg (by rw [h]; simp)]
        have HN := Lib.hid hn
        have HLEN : Hid (2 + 2 * n ≤ l.length) := by unfold Hid; omega
        clear h2 h3 hf hn hm hb0 hb1 h1 hs
        go_enter Try.func32, Try.ntmps32
        go_wp2_with fail
        refine (HI.out _).mono ?_
        rintro e w' ⟨rfl, rfl⟩
        go_wp2_with fail
        refine (HA.out _).mono ?_
        rintro e w' ⟨rfl, rfl⟩
        go_wp2_with (refine wpList_make_row rfl (.tmp 30) (.tmp 30) 57 rfl 3 iN (.int .i64 0) 8 Try.underlying57 hiN hzN0 hzN1 hzN2 .i64 .i64 n rfl rfl (by omega) (by omega) ?_)
        have HM : Hid (CellsAt (w.alloc (.cells (madeCells #[.int .i64 0] n) 3)) w.heap.size n (fun i => .int .i64 ((if i < 0 then endAt l i else 0 : Nat) : Int))) :=
          (CellsAt.made w (.int .i64 0) n 3).ext (fun i hi => by simp)
        have HB0 : Hid (Below w.heap.size w (w.alloc (.cells (madeCells #[.int .i64 0] n) 3))) := below_made w _
        obtain ⟨w0, hw0⟩ : ∃ w0, w0 = w.alloc (.cells (madeCells #[.int .i64 0] n) 3) := ⟨_, rfl⟩
        rw [← hw0] at HM HB0 ⊢
        clear hw0
        go_wp2
        go_loopw [34] (fun i wr => ∃ k : Nat, k ≤ n ∧ i = .int .i64 k ∧ Hid (CellsAt wr w.heap.size n (fun i => .int .i64 ((if i < k then endAt l i else 0 : Nat) : Int))) ∧ Hid (Below w.heap.size w wr)) (fun i _ => n - (intOf i).toNat)
        case atStart => exact ⟨0, Nat.zero_le _, rfl, HM.out, HB0.out⟩
        case round =>
          obtain ⟨k, hk, rfl, HC, HBl⟩ := hrel
          by_cases hlt : k < n
          · have hlt1 : (k : Int) < (n : Int) := by omega
            obtain ⟨q, hq⟩ : ∃ q, q = 2 + 2 * k := ⟨_, rfl⟩
            have HA2 := Lib.hid (fun w0 => endAt_any k q w0 (by omega) hq.symm)
            have hld := ldv_end l HB.out k q hq (by have := HLEN.out; omega)
            have HRw := Lib.hid (HRow.out.mono HBl.out (Nat.le_refl _))
            have HLd := Lib.hid (Num.load_any _ q 2 l wr HRw.out)
            rw [hld] at HLd
            have hE2 := (endAt_bd HB.out k).2
            obtain ⟨E, hE⟩ : ∃ E, E = endAt l k := ⟨_, rfl⟩
            rw [← hE] at HLd hE2
            have HEk := Lib.hid hE
            have hq2 : q ≤ 34 := by omega
            clear hq hld hE HM HB0
            go_wp2_with fail
            refine (HA2.out _).mono ?_
            rintro e w' ⟨rfl, rfl⟩
            go_wp2_with fail
            refine HLd.out.mono ?_
            rintro e w1 ⟨rfl, hb1⟩
            have HC1 := Lib.hid (HC.out.mono hb1 (Nat.le_refl _))
            have HB1 : Hid (Below w.heap.size w w1) := HBl.out.trans (hb1.mono HBl.out.size)
            obtain ⟨d1, d2⟩ := HC1.out.2 k hlt
            have hl1 := HC1.out.1
            have HC2 := Lib.hid ((HC1.out.set k hlt (.int .i64 (E : Int))).ext (V' := fun i => .int .i64 ((if i < k + 1 then endAt l i else 0 : Nat) : Int)) (fun i _ => ends_step l k E HEk.out i))
            have HB2 : Hid (Below w.heap.size w (w1.setCell ⟨w.heap.size, k, none⟩ (.int .i64 (E : Int)))) := HB1.out.setCell (Nat.le_refl _) _
            have hE3 : (E : Int) < 65536 := by omega
            clear hb1 HC HBl HLd HRw HEk
            go_wp2
            go_roundw
            case rel => exact ⟨k + 1, by omega, by go_num, HC2, HB2⟩
            case measure => simp [intOf]; omega
          · have hkn : k = n := by omega
            subst hkn
            have hrow : Row .i64 wr (.slice (some ⟨w.heap.size, 0, none⟩) k k) (ints (endsOf l k)) := by
              have hlen : (ints (endsOf l k)).length = k := by rw [ints_length, endsOf_length]
              refine ⟨_, k, by rw [hlen], by rw [hlen]; exact Nat.le_refl _, by omega, fun i hi => ?_, fun _ => ⟨w.heap.size, 0, rfl, HC.out.1, fun i hi => ?_⟩⟩
              · rw [hlen] at hi
                rw [ints_get _ _ (by rw [endsOf_length]; exact hi), endsOf_get _ _ _ hi]
                have := (endAt_bd HB.out i).2
                exact WalkArith.wf_i64 (by omega)
              · rw [hlen] at hi
                rw [Nat.zero_add, (HC.out.2 i hi).1, ints_get _ _ (by rw [endsOf_length]; exact hi), endsOf_get _ _ _ hi]
                simp only [if_pos hi]
            have HS := Lib.hid (isSorted_any _ _ wr hrow (by rw [endsOf_length]; omega))
            have HRW := Lib.hid hrow
            by_cases hri : rises 0 (endsOf l k) = true
            · rw [hri] at HS
              have hE0 := HE0.out hri
              have HEnd : Hid (∀ w', Below wr.heap.size wr w' → RGot w l (.returned (.tuple #[.slice (some ⟨w.heap.size, 0, none⟩) k k, .int .i64 0])) w') := by
                intro w' h
                refine ⟨_, by rw [hE0], HBl.out.trans (h.mono HBl.out.size), ⟨_, _, _, rfl⟩, fun _ => ?_⟩
                rw [HN.out, Int.toNat_natCast]
                exact HRW.out.mono h (Nat.le_refl _)
              clear hri hE0 hrow
              go_wp2_with fail
              refine HS.out.mono ?_
              rintro e w2 ⟨rfl, hm2⟩
              have HB2 := Lib.hid (below_drawn (Below.refl wr.heap.size wr) hm2)
              clear hm2
              go_wp2
              go_ret2
              exact HEnd.out _ HB2.out
            · have hri2 : rises 0 (endsOf l k) = false := by simpa using hri
              rw [hri2] at HS
              have hE0 := HE1.out hri2
              have HEnd : Hid (∀ w', Below wr.heap.size wr w' → RGot w l (.returned (.tuple #[.slice none 0 0, .int .i64 4])) w') := by
                intro w' h
                exact RGot.fail hE0 (by decide) (HBl.out.trans (h.mono HBl.out.size))
              clear hri hri2 hE0 hrow
              go_wp2_with fail
              refine HS.out.mono ?_
              rintro e w2 ⟨rfl, hm2⟩
              have HB2 := Lib.hid (below_drawn (Below.refl wr.heap.size wr) hm2)
              clear hm2
              go_wp2
              go_ret2
              exact HEnd.out _ HB2.out
end Go.Proofs.Ytbjdlfeipidlbaa.Rec
