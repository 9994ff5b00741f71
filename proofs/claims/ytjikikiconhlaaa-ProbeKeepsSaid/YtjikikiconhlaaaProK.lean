/- The statements ProbeDistance, ProbeNear, ProbeBack. -/
import Derived.Test.YtjikikiconhlaaaProJ
namespace Go.Proofs.Ytjikikiconhlaaa.Pro
open Go.RowKit
set_option linter.unusedVariables false

theorem wrap_hi {x : Int} (h1 : 9223372036854775807 < x) (h2 : x ≤ 18446744073709551614) : IntKind.i64.wrap x = x - 18446744073709551616 := by
  rw [IntWalk.i64_left]
  unfold wrap64
  omega
theorem wrap_lo {x : Int} (h1 : x < -9223372036854775808) (h2 : -18446744073709551616 ≤ x) : IntKind.i64.wrap x = x + 18446744073709551616 := by
  rw [IntWalk.i64_left]
  unfold wrap64
  omega
set_option maxRecDepth 100000 in
theorem rdist_any (n h a : Int) (w : World) (h1 : -9223372036854775808 ≤ n) (h2 : n ≤ 9223372036854775807) : Calls Try.prog 22 #[.int .i64 n, .int .i64 h, .int .i64 a] w fun e w' => e = .returned (.int .i64 (dI n h a)) ∧ w = w' := by
  by_cases g1 : h < 0
  · have E := Lib.hid (show dI n h a = 0 from if_neg (by omega))
    go_enter Try.func22, Try.ntmps22
    go_wp2
    go_ret
    exact ⟨ret_int E.out.symm, rfl⟩
  · by_cases g2 : n ≤ h
    · have E := Lib.hid (show dI n h a = 0 from if_neg (by omega))
      go_enter Try.func22, Try.ntmps22
      go_wp2
      go_ret
      exact ⟨ret_int E.out.symm, rfl⟩
    · by_cases g3 : a < 0
      · have E := Lib.hid (show dI n h a = 0 from if_neg (by omega))
        go_enter Try.func22, Try.ntmps22
        go_wp2
        go_ret
        exact ⟨ret_int E.out.symm, rfl⟩
      · by_cases g4 : n ≤ a
        · have E := Lib.hid (show dI n h a = 0 from if_neg (by omega))
          go_enter Try.func22, Try.ntmps22
          go_wp2
          go_ret
          exact ⟨ret_int E.out.symm, rfl⟩
        · have E0 : dI n h a = if a < h then a - h + n else a - h := if_pos (by omega)
          by_cases g5 : h ≤ a
          · have E := Lib.hid (E0.trans (if_neg (by omega)))
            have w1 : IntKind.i64.wrap (a - h) = a - h := wrap_id (by omega) (by omega)
            clear E0
            go_enter Try.func22, Try.ntmps22
            go_wp2
            go_ret
            exact ⟨ret_int E.out.symm, rfl⟩
          · have E := Lib.hid (E0.trans (if_pos (by omega)))
            clear E0
            by_cases g6 : a + n ≤ 9223372036854775807
            · have w1 : IntKind.i64.wrap (a + n) = a + n := wrap_id (by omega) (by omega)
              have w2 : IntKind.i64.wrap (a + n - h) = a - h + n := (wrap_id (by omega) (by omega)).trans (by omega)
              go_enter Try.func22, Try.ntmps22
              go_wp2
              go_ret
              refine ⟨ret_int ?_, rfl⟩
              rw [E.out]
              try omega
            · obtain ⟨s, hs⟩ : ∃ s, s = a + n - 18446744073709551616 := ⟨_, rfl⟩
              have w1 : IntKind.i64.wrap (a + n) = s := (wrap_hi (by omega) (by omega)).trans hs.symm
              have w2 : IntKind.i64.wrap (s - h) = a - h + n := (wrap_lo (by omega) (by omega)).trans (by omega)
              clear hs
              go_enter Try.func22, Try.ntmps22
              go_wp2
              go_ret
              refine ⟨ret_int ?_, rfl⟩
              rw [E.out]
theorem probeDistance_walk (n h a : Int) (w : World) (h1 : -9223372036854775808 ≤ n) (h2 : n ≤ 9223372036854775807) : Calls Try.prog 4 #[.int .i64 n, .int .i64 h, .int .i64 a] w fun e w' => e = .returned (.bool true) ∧ Below w.heap.size w w' := by
  have H1 := Lib.hid (dist_any n h a w h1 h2)
  have H2 := Lib.hid (rdist_any n h a w h1 h2)
  have H3 := Lib.hid (probes_any w)
  generalize dI n h a = d at *
  have hd : (d == d) = true := by simp
  go_enter Try.func4, Try.ntmps4
  go_wp2_with fail
  refine H1.out.mono ?_
  rintro e w1 ⟨rfl, rfl⟩
  go_wp2_with fail
  refine H2.out.mono ?_
  rintro e w1 ⟨rfl, rfl⟩
  go_wp2_with fail
  refine H3.out.mono ?_
  rintro e w1 ⟨rfl, hb⟩
  go_wp2
  go_ret
  exact ⟨rfl, hb⟩

theorem near_at {T : List Cel} (H : RTf T.length (gt T)) {i : Nat} (hi : i < T.length) (hne : (gt T i).1 ≠ 0) : ∃ h d : Nat, (gt T i).2 = h ∧ h < T.length ∧ d < T.length ∧ ps T.length h 0 = h ∧ ps T.length h d = i ∧
    ∀ j, j < d → ps T.length h j ≠ i ∧ (gt T (ps T.length h j)).1 ≠ 0 ∧ (j : Int) ≤ fr T (ps T.length h j) ∧ dI T.length h (ps T.length h j : Nat) = j ∧ (ps T.length h j + 1) % T.length = ps T.length h (j + 1) := by
  obtain ⟨h, d, e1, e2, hh, hd, hps, -⟩ := far_nat H hi hne
  refine ⟨h, d, e1, hh, hd, ps_zero hh, hps, fun j hj => ⟨fun q => ?_, ?_, ?_, dI_ps hh (by omega), ?_⟩⟩
  · have := off_ps (i := j) hh (by omega)
    rw [q, ← hps, off_ps hh hd] at this
    omega
  · have := (chain H hi hne e1 e2 (d - j) (by omega)).1
    rwa [show d - (d - j) = j by omega] at this
  · have := (chain H hi hne e1 e2 (d - j) (by omega)).2
    rw [show d - (d - j) = j by omega] at this
    show (j : Int) ≤ frf T.length (gt T) (ps T.length h j)
    omega
  · have hq := ps_lt (i := j) hh (by omega)
    rw [mod_ps hq (by omega)]
    unfold ps at *
    (repeat' split) <;> omega
/-- The steps from h on to where a value says. -/
def offI (n h : Nat) (v : Value) : Nat := off n h (intOf v).toNat
theorem dist_at (n h a x y z : Int) (w : World) (h1 : -9223372036854775808 ≤ n) (h2 : n ≤ 9223372036854775807) (hx : x = n) (hy : y = h) (hz : z = a) : Calls Try.prog 21 #[.int .i64 x, .int .i64 y, .int .i64 z] w fun e w' => e = .returned (.int .i64 (dI n h a)) ∧ w' = w := by
  subst hx hy hz
  exact (dist_any x y z w h1 h2).mono fun _ _ ⟨a, b⟩ => ⟨a, b.symm⟩

set_option maxRecDepth 100000 in
set_option maxHeartbeats 1000000 in
theorem probeNear_walk (u : Value) (T : List Cel) (w : World) (hr : CRow w u T) (hu : WU T) : Calls Try.prog 7 #[u] w fun e w' => e = .returned (.bool true) ∧ Below w.heap.size w w' := by
  by_cases h80 : 80 < T.length
  · obtain ⟨a, c, rfl, -, -⟩ := hr.slice
    have H3 := Lib.hid (probes_any w)
    have hq : ((T.length : Int) > 80) := by omega
    clear hr
    go_enter Try.func7, Try.ntmps7
    go_wp2_with fail
    refine H3.out.mono ?_
    rintro e w1 ⟨rfl, hb⟩
    go_wp2
    go_ret
    exact ⟨rfl, hb⟩
  · have HO := Lib.hid (own_any u T w hr (by omega))
    have HT := Lib.hid (fun v W (h : CRow W v T) => right_any v T W h (by omega) hu)
    have HPr := Lib.hid probes_any
    have hq : ¬ ((T.length : Int) > 80) := by omega
    obtain ⟨a, c, rfl, -, -⟩ := hr.slice
    clear hr
    cases hrc : RC T with
    | false =>
      rw [hrc] at HT
      clear hrc
      go_enter Try.func7, Try.ntmps7
      go_wp2_with fail
      refine HO.out.mono ?_
      rintro e w1 ⟨v, rfl, hv, hb1⟩
      have HV := Lib.hid hv
      have HB1 := Lib.hid hb1
      clear hv hb1
      go_wp2_with fail
      refine (HT.out _ _ HV.out).mono ?_
      rintro e w2 ⟨rfl, hb2⟩
      have HB2 := Lib.hid (HB1.out.trans (hb2.mono HB1.out.size))
      clear hb2
      go_wp2_with fail
      refine (HPr.out _).mono ?_
      rintro e w3 ⟨rfl, hb3⟩
      go_wp2
      go_ret
      exact ⟨rfl, HB2.out.trans (hb3.mono HB2.out.size)⟩
    | true =>
      rw [hrc] at HT
      have H := rc_rtf hrc
      have h0 := H.pos
      have HNr := Lib.hid (fun i hi hne => near_at H (i := i) hi hne)
      have HD1 : Hid (∀ (p : Nat) x y z W, x = (T.length : Int) → y = (gt T p).2 → z = (p : Int) → Calls Try.prog 21 #[.int .i64 x, .int .i64 y, .int .i64 z] W fun e w' => e = .returned (.int .i64 (fr T p)) ∧ w' = W) := fun p x y z W h1 h2 h3 => dist_at T.length (gt T p).2 p x y z W (by omega) (by omega) h1 h2 h3
      have HD2 := Lib.hid (fun (h : Nat) (p : Nat) x y z W h1 h2 h3 => dist_at T.length h p x y z W (by omega) (by omega) h1 h2 h3)
      clear hrc H
      go_enter Try.func7, Try.ntmps7
      go_wp2_with fail
      refine HO.out.mono ?_
      rintro e w1 ⟨v, rfl, hv, hb1⟩
      have HV := Lib.hid hv
      have HB1 := Lib.hid hb1
      clear hv hb1
      go_wp2_with fail
      refine (HT.out _ _ HV.out).mono ?_
      rintro e w2 ⟨rfl, hb2⟩
      have HB2 := Lib.hid (HB1.out.trans (hb2.mono HB1.out.size))
      have hV2 := HV.out.mono hb2 (Nat.le_refl _)
      clear hb2
      obtain ⟨b, off, c', rfl, s1, s2, hblt, hc⟩ := hV2.open h0
      have HC := Lib.hid hc
      clear hc hV2
      go_wp2
      go_loopw [4, 5] (fun i a5 wr => ∃ k : Nat, k ≤ T.length ∧ i = .int .i64 k ∧ Hid (Below w2.heap.size w2 wr)) (fun i _ _ => T.length - (intOf i).toNat)
      case atStart => exact ⟨0, Nat.zero_le _, rfl, Below.refl _ _⟩
      case round =>
        obtain ⟨k, hk, rfl, HB⟩ := hrel
        by_cases hlt : k < T.length
        · have hlt1 : (k : Int) < (T.length : Int) := by omega
          obtain ⟨d1, d2⟩ := HC.out k hlt
          have c1 := (HB.out.cell (p := ⟨b, off + k * 2, none⟩) hblt).trans d1
          have c2 := (HB.out.cell (p := ⟨b, off + k * 2 + 1, none⟩) hblt).trans d2
          have HNk := Lib.hid (HNr.out k hlt)
          generalize (gt T k).1 = x at *
          generalize (gt T k).2 = y at *
          by_cases hx : x = 0
          · subst hx
            clear HNk
            go_wp2
            go_roundw
            case rel => exact ⟨k + 1, by omega, by go_num, HB⟩
            case measure => simp [intOf]; omega
          · have hx1 : (x == 0) = false := by simp [hx]
            obtain ⟨h, d, rfl, hh, hdn, e0, ed, hj⟩ := HNk.out hx
            have HJ := Lib.hid hj
            have HE := Lib.hid ed
            have HE0 := Lib.hid e0
            have HD2h := Lib.hid (HD2.out h)
            clear hj e0 ed HNk c1 c2
            have c1 := (HB.out.cell (p := ⟨b, off + k * 2, none⟩) hblt).trans d1
            have c2 := (HB.out.cell (p := ⟨b, off + k * 2 + 1, none⟩) hblt).trans d2
            go_wp2
            go_loopw [5] (fun a5 wq => ∃ j : Nat, j ≤ d ∧ Hid (a5 = .int .i64 (ps T.length h j : Nat)) ∧ Hid (Below w2.heap.size w2 wq)) (fun a5 _ => d - offI T.length h a5)
            case atStart => exact ⟨0, Nat.zero_le _, by unfold Hid; rw [HE0.out], HB⟩
            case round =>
              obtain ⟨j, hjd, ha, HBq⟩ := hrel
              have ha2 := ha.out
              subst ha2
              clear ha c1 c2
              by_cases hjl : j < d
              · obtain ⟨r1, r2, r3, r4, r5⟩ := HJ.out j hjl
                have o1 := off_ps (i := j) hh (by omega)
                have o2 := off_ps (i := j + 1) hh (by omega)
                have pl := ps_lt (i := j) hh (by omega)
                have HD1p := Lib.hid (HD1.out (ps T.length h j))
                have HD2p := Lib.hid (HD2h.out (ps T.length h j))
                rw [r4] at HD2p
                obtain ⟨e1, e2⟩ := HC.out (ps T.length h j) pl
                have c3 := (HBq.out.cell (p := ⟨b, off + ps T.length h j * 2, none⟩) hblt).trans e1
                have c4 := (HBq.out.cell (p := ⟨b, off + ps T.length h j * 2 + 1, none⟩) hblt).trans e2
                have c5 := (HBq.out.cell (p := ⟨b, off + k * 2 + 1, none⟩) hblt).trans d2
                have r6 : (((ps T.length h j : Nat) : Int) + 1) % (T.length : Int) = (ps T.length h (j + 1) : Nat) := by rw [← r5, Int.natCast_emod]; rfl
                have HQ : Hid (∀ q, q = ps T.length h (j + 1) → T.length = T.length) := fun _ _ => rfl
                generalize (gt T (ps T.length h j)).1 = xp at *
                generalize (gt T (ps T.length h j)).2 = yp at *
                generalize fr T (ps T.length h j) = F at *
                generalize hpq : ps T.length h j = p at *
                generalize hpr : ps T.length h (j + 1) = q at *
                have HO2 := Lib.hid o2
                have HO1 := Lib.hid o1
                have HPR := Lib.hid hpr
                clear hpq hpr e1 e2 o1 o2 r4 r5 d1 d2
                have r7 : ((p : Int) != (k : Int)) = true := by simp; omega
                have r8 : (xp == 0) = false := by simp [r2]
                have r9 : ¬ (F < (j : Int)) := by omega
                have r10 : (p : Int) < (T.length : Int) := by omega
                have r12 : decide (F < (j : Int)) = false := by simp; omega
                go_wp2_with fail
                go_quiet ((first | (go_at_call 21; exact Calls.quiet_of_same (HD1p.out _ _ _ _ (by rfl) (by rfl) (by rfl))) | (go_at_call 21; exact Calls.quiet_of_same (HD2p.out _ _ _ _ (by rfl) (by rfl) (by rfl)))))
                go_wp2
                have HB2q : Hid (Below w2.heap.size w2 (wr.drewN nq)) := below_drewN HBq.out _
                rw [r6]
                go_roundw
                case rel => exact ⟨j + 1, by omega, by unfold Hid; rw [HPR.out], HB2q⟩
                case measure =>
                  have a1 := HO1.out
                  have a2 := HO2.out
                  simp [offI, intOf]
                  omega
              · obtain rfl : j = d := by omega
                have e := HE.out
                rw [e]
                have c1 := (HBq.out.cell (p := ⟨b, off + k * 2, none⟩) hblt).trans d1
                have r7 : ((k : Int) != (k : Int)) = false := by simp
                go_wp2
                go_roundw
                case rel => exact ⟨k + 1, by omega, by go_num, HBq⟩
                case measure => simp [intOf]; omega
        · obtain rfl : k = T.length := by omega
          go_wp2_with fail
          refine (HPr.out _).mono ?_
          rintro e w3 ⟨rfl, hb3⟩
          have HB3 := Lib.hid (HB.out.trans (hb3.mono HB.out.size))
          go_wp2
          go_ret
          exact ⟨rfl, HB2.out.trans (HB3.out.mono HB2.out.size)⟩
end Go.Proofs.Ytjikikiconhlaaa.Pro
