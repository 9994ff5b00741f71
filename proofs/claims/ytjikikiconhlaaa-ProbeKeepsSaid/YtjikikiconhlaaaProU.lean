/- The document's probe: Insert with its errors, Delete, Longest. -/
import Derived.Test.YtjikikiconhlaaaProT
namespace Go.Proofs.Ytjikikiconhlaaa.Pro
open Go.RowKit
set_option linter.unusedVariables false

theorem na_no {T : List Cel} {x y : Int} (h : naC T (x, y) = false) : x = 0 ∨ (x ≠ 0 ∧ y < 0) ∨ (x ≠ 0 ∧ ¬ y < 0 ∧ (T.length : Int) ≤ y) := by
  unfold naC at h
  simp only [decide_eq_false_iff_not] at h
  omega
theorem any_em {T : List Cel} (h : RC T = true) : (T.any fun a => decide (a.1 = 0)) = T.any emC := by
  have H := rc_rtf h
  rw [Bool.eq_iff_iff, List.any_eq_true, List.any_eq_true]
  constructor
  · rintro ⟨c, hc, h1⟩
    obtain ⟨i, hi, rfl⟩ := List.getElem_of_mem hc
    refine ⟨_, hc, ?_⟩
    have := (em_iff H hi).2 (by simp [gt, List.getD, hi]; simpa using h1)
    simpa [gt, List.getD, hi] using this
  · rintro ⟨c, hc, h1⟩
    exact ⟨c, hc, by rw [(emC_iff c).1 h1]; rfl⟩
set_option maxRecDepth 100000 in
theorem rInsert_any (u : Value) (T : List Cel) (x y : Int) (w : World) (hr : CRow w u T) (hn : T.length ≤ 1000) :
    Calls Try.prog 13 #[u, .int .u32 x, .int .i64 y] w (InsR w (rI T (x, y)) (eI T (x, y))) := by
  cases hna : naC T (x, y) with
  | false =>
    have E : eI T (x, y) = 2 := by rw [eI, if_neg (by simp [ckC, hna])]; simp [ckC, hna]
    have E2 : rI T (x, y) = [] := by rw [rI, if_neg (by omega)]
    rw [E, E2]
    obtain ⟨a, c, rfl, -, -⟩ := hr.slice
    clear hr E E2
    rcases na_no hna with h | ⟨h, h'⟩ | ⟨h, h', h''⟩
    · have hx1 : (x == 0) = true := by simp [h]
      clear h hna
      go_enter Try.func13, Try.ntmps13
      go_wp2
      go_ret2
      exact ⟨_, rfl, Below.refl _ _, CRow.nil _⟩
    · have hx1 : (x == 0) = false := by simp [h]
      clear h hna
      go_enter Try.func13, Try.ntmps13
      go_wp2
      go_ret2
      exact ⟨_, rfl, Below.refl _ _, CRow.nil _⟩
    · have hx1 : (x == 0) = false := by simp [h]
      have hy1 : y ≥ (T.length : Int) := h''
      clear h hna
      go_enter Try.func13, Try.ntmps13
      go_wp2
      go_ret2
      exact ⟨_, rfl, Below.refl _ _, CRow.nil _⟩
  | true =>
    obtain ⟨h, rfl, hh⟩ := na_home hna
    have hx : x ≠ 0 := (of_decide_eq_true hna).1
    have hx1 : (x == 0) = false := by simp [hx]
    have hh1 : ¬ ((h : Int) ≥ (T.length : Int)) := by omega
    have HT := Lib.hid (rright_any u T w hr hn)
    have HH := Lib.hid (fun W (hW : Below w.heap.size w W) z => has_any u T z W (hr.mono hW (Nat.le_refl _)) hn)
    by_cases he : eI T (x, (h : Int)) = 0
    · have E2 : rI T (x, (h : Int)) = insT T (x, (h : Int)) h := by rw [rI, if_pos he]; simp
      rw [E2, he]
      exact rInsert_ok u T x h w hr hn he
    · have E2 : rI T (x, (h : Int)) = [] := by rw [rI, if_neg he]
      rw [E2]
      cases hrc : RC T with
      | false =>
        have E : eI T (x, (h : Int)) = 4 := by rw [eI, if_neg (by simp [ckC, hna, hrc])]; simp [ckC, hna, hrc]
        rw [E]
        rw [hrc] at HT
        obtain ⟨a, c, rfl, -, -⟩ := hr.slice
        clear hr E E2 he HH hrc hna hx
        go_enter Try.func13, Try.ntmps13
        go_wp2_with fail
        refine HT.out.mono ?_
        rintro e w1 ⟨rfl, hb1⟩
        go_wp2
        go_ret2
        exact ⟨_, rfl, hb1, CRow.nil _⟩
      | true =>
        have hck : ckC T (x, (h : Int)) = 0 := by simp [ckC, hna, hrc]
        rw [hrc] at HT
        have HHx := Lib.hid (fun W hW => HH.out W hW x)
        cases ha : T.any (fun a => decide (a.1 = x)) with
        | true =>
          have E : eI T (x, (h : Int)) = 8 := by rw [eI, if_pos hck, if_pos ha]
          rw [E]
          rw [ha] at HHx
          obtain ⟨a, c, rfl, -, -⟩ := hr.slice
          clear hr E E2 he HH hrc hna hx ha hck
          go_enter Try.func13, Try.ntmps13
          go_wp2_with fail
          refine HT.out.mono ?_
          rintro e w1 ⟨rfl, hb1⟩
          have HB1 := Lib.hid hb1
          clear hb1
          go_wp2_with fail
          refine (HHx.out _ HB1.out).mono ?_
          rintro e w2 ⟨rfl, rfl⟩
          go_wp2
          go_ret2
          exact ⟨_, rfl, HB1.out, CRow.nil _⟩
        | false =>
          have hem : T.any emC = false := by
            cases q : T.any emC with
            | false => rfl
            | true => exact absurd (by rw [eI, if_pos hck]; simp [ha, q]) he
          have E : eI T (x, (h : Int)) = 5 := by rw [eI, if_pos hck]; simp [ha, hem]
          rw [E]
          rw [ha] at HHx
          have HH0 := Lib.hid (fun W hW => HH.out W hW 0)
          rw [any_em hrc, hem] at HH0
          obtain ⟨a, c, rfl, -, -⟩ := hr.slice
          clear hr E E2 he HH hrc hna hx ha hck hem
          go_enter Try.func13, Try.ntmps13
          go_wp2_with fail
          refine HT.out.mono ?_
          rintro e w1 ⟨rfl, hb1⟩
          have HB1 := Lib.hid hb1
          clear hb1
          go_wp2_with fail
          refine (HHx.out _ HB1.out).mono ?_
          rintro e w2 ⟨rfl, rfl⟩
          go_wp2_with fail
          refine (HH0.out _ HB1.out).mono ?_
          rintro e w2 ⟨rfl, rfl⟩
          go_wp2
          go_ret2
          exact ⟨_, rfl, HB1.out, CRow.nil _⟩

theorem car_here {T : List Cel} {p j : Nat} (hp : p < T.length) (hj : j + 1 < T.length) : gt (carT (T.set p (0, 0)) (ps T.length p) j) (ps T.length p j) = (0, 0) ∧ gt (carT (T.set p (0, 0)) (ps T.length p) j) (ps T.length p (j + 1)) = gt T (ps T.length p (j + 1)) := by
  have l1 := ps_lt (i := j) hp (by omega)
  have l2 := ps_lt (i := j + 1) hp (by omega)
  rw [car_fore T p hp j (by omega) _ l1, car_fore T p hp j (by omega) _ l2, delf_b (off_ps hp (by omega)), delf_c (by rw [off_ps hp hj]; omega)]
  exact ⟨rfl, rfl⟩
set_option maxRecDepth 100000 in
set_option maxHeartbeats 2000000 in
theorem rDelete_ok (u : Value) (T : List Cel) (x : Int) (h p : Nat) (w : World) (hr : CRow w u T) (hn : T.length ≤ 1000) (hh : h < T.length) (hx : x ≠ 0) (hrc : RC T = true) (hf : FiC T (x, (h : Int)) = (p, true)) (hpn : p < T.length) :
    Calls Try.prog 15 #[u, .int .u32 x, .int .i64 (h : Int)] w (InsR w (delT T p) 0) := by
  have H := rc_rtf hrc
  have hx1 : (x == 0) = false := by simp [hx]
  have hh1 : ¬ ((h : Int) ≥ (T.length : Int)) := by omega
  have hpi : (p : Int) < (T.length : Int) := by omega
  have HT := Lib.hid (rright_any u T w hr hn)
  rw [hrc] at HT
  have HFi := Lib.hid (fun W (hW : Below w.heap.size w W) => rFind_any u T x h W (hr.mono hW (Nat.le_refl _)) hn)
  rw [hf] at HFi
  have D := he_del H hpn
  have E : delT T p = carT (T.set p (0, 0)) (ps T.length p) (heK (T.set p (0, 0)) (p + 1)) := rfl
  rw [E]
  have HRl := Lib.hid (carT_length (T.set p (0, 0)) (ps T.length p))
  rw [List.length_set] at HRl
  have HHr := Lib.hid (fun j hj => car_here (T := T) (p := p) (j := j) hpn hj)
  have HSw := Lib.hid (fun (W : World) (g j : Nat) (hW : TA W g (carT (T.set p (0, 0)) (ps T.length p) j)) (h1 : ps T.length p j < T.length) (h2 : ps T.length p (j + 1) < T.length) => hW.swp (ps T.length p j) (ps T.length p (j + 1)) (by rw [HRl.out]; exact h1) (by rw [HRl.out]; exact h2))
  have HSt := Lib.hid (fun (W : World) (g : Nat) (hW : TA W g T) => hW.set p hpn ((0 : Int), (0 : Int)))
  have HNx : Hid (∀ j, swp (carT (T.set p (0, 0)) (ps T.length p) j) (ps T.length p j) (ps T.length p (j + 1)) = carT (T.set p (0, 0)) (ps T.length p) (j + 1)) := fun j => rfl
  have HC0 : Hid (T.set p (0, 0) = carT (T.set p (0, 0)) (ps T.length p) 0) := rfl
  have HD := Lib.hid D
  have hmn := D.mn
  have HFr : Hid (∀ j, j + 1 < T.length → fr (carT (T.set p (0, 0)) (ps T.length p) j) (ps T.length p (j + 1)) = frf T.length (gt T) (ps T.length p (j + 1))) := fun j hj => by
    unfold fr frf
    rw [(HHr.out j hj).2, HRl.out]
  generalize heK (T.set p (0, 0)) (p + 1) = m at *
  generalize hQ : carT (T.set p (0, 0)) (ps T.length p) = Q at *
  obtain ⟨i0, hi, hz0, hz1, hz2⟩ := info_parts infoR
  obtain ⟨b, off, c, rfl, q1, q2, hblt, -⟩ := hr.open H.pos
  have HRow := Lib.hid hr
  have HV := Lib.hid (valsA_length encC_len T)
  have HV1 := Lib.hid (valsC_one T)
  have h0 := H.pos
  have HTA := Lib.hid (fun (W : World) (v : Value) (hO : W.ownsRow w.heap.size 51 2 v T.length (valsA encC T)) => TA.own hO h0)
  clear hr hrc H hf D E hQ
  go_enter Try.func15, Try.ntmps15
  go_wp2_with fail
  refine HT.out.mono ?_
  rintro e w1 ⟨rfl, hb1⟩
  have HB0 := Lib.hid hb1
  clear hb1
  go_wp2_with fail
  refine (HFi.out _ HB0.out).mono ?_
  rintro e w1 ⟨rfl, hb1⟩
  have HB1 := Lib.hid (HB0.out.trans (hb1.mono HB0.out.size))
  clear hb1
  have HOw : Hid ((w1.alloc (.cells #[] 51)).ownsRow w.heap.size 51 2 (.slice (some ⟨w1.heap.size, 0, none⟩) 0 0) 0 (valsA encC [])) :=
    ⟨rfl, .inr ⟨w1.heap.size, 0, #[], rfl, HB1.out.size, heap_alloc_new _ _, by omega, by unfold maxLen; omega, rfl, rfl⟩⟩
  have HB2 := Lib.hid (HB1.out.alloc HB1.out.size (.cells #[] 51))
  have HCe := Lib.hid (cell_cells (HRow.out.mono HB2.out (Nat.le_refl _)))
  have hsz := size_alloc w1 (.cells #[] 51)
  have hsz1 := HB1.out.size
  go_wp2_with (at_builtin; refine wpList_append_own _ rfl (.tmp 37) (.tmp 38) 22 rfl w.heap.size 51 i0 (.agg #[.int .u32 0, .int .i64 0]) 2 16 Try.underlying22 hi hz0 hz1 hz2 rfl (by decide) _ _ _ rfl HOw.out ⟨b, off, none⟩ T.length c (valsA encC T) rfl HV.out HCe.out HV1.out (by unfold maxLen; omega) (by omega) (by omega) ?_)
  intro v' w3 hown' hgrow _
  have HB3 : Hid (Below w.heap.size w w3) := HB2.out.grown hgrow (by omega) (fun r hr => by have : w1.heap.size = r := Option.some.inj hr; omega)
  obtain ⟨g, cap, rfl, k1, k2, k3, k4⟩ := HTA.out _ _ hown'
  obtain ⟨⟨a1, a2⟩, f1, f2⟩ := k4.2 p hpn
  have HT3 := Lib.hid (HSt.out _ _ k4)
  have hg3 := k4.1
  have HB4 : Hid (Below w.heap.size w ((w3.setCell ⟨g, p * 2, none⟩ (.int .u32 0)).setCell ⟨g, p * 2 + 1, none⟩ (.int .i64 0))) := (HB3.out.setCell (by show w.heap.size ≤ g; omega) _).setCell (by show w.heap.size ≤ g; omega) _
  rw [HC0.out] at HT3
  clear hown' hgrow k4 HOw HCe HB2 hsz hi hz0 hz1 hz2
  go_wp2
  go_loopw [8, 11, 12] (fun a8 i _ wr => ∃ j : Nat, j ≤ m ∧ i = .int .i64 ((j : Int) + 1) ∧ Hid (a8 = .int .i64 (ps T.length p j : Nat)) ∧ Hid (Below w.heap.size w wr) ∧ Hid (TA wr g (Q j))) (fun _ i _ _ => T.length - (intOf i).toNat)
  case atStart => exact ⟨0, Nat.zero_le _, rfl, by unfold Hid; rw [ps_zero hpn], HB4, HT3⟩
  case round =>
    obtain ⟨j, hj, rfl, ha8, HB, HT'⟩ := hrel
    have e8 := ha8.out
    subst e8
    clear ha8 HT3 HB4 a1 a2 f1 f2
    have hpl := ps_lt (i := j) hpn (by omega)
    by_cases hjn : j + 1 < T.length
    · have hjn1 : (j : Int) + 1 < (T.length : Int) := by omega
      have hpl2 := ps_lt (i := j + 1) hpn (by omega)
      obtain ⟨r1, r2⟩ := HHr.out j hjn
      obtain ⟨⟨a1, a2⟩, f1, f2⟩ := HT'.out.2 (ps T.length p j) (by rw [HRl.out]; exact hpl)
      obtain ⟨⟨b1, b2⟩, f3, f4⟩ := HT'.out.2 (ps T.length p (j + 1)) (by rw [HRl.out]; exact hpl2)
      have HS := Lib.hid (HSw.out _ _ _ HT'.out hpl hpl2)
      rw [r1, r2, HNx.out] at HS
      rw [r1] at a1 a2
      rw [r2] at b1 b2
      have hmod : (((ps T.length p j : Nat) : Int) + 1) % (T.length : Int) = (ps T.length p (j + 1) : Nat) := by
        rw [← mod_ps hpn (show j + 1 ≤ T.length by omega), ← mod_ps hpn (show j ≤ T.length by omega), Int.natCast_emod, Int.natCast_emod]
        rw [Int.natCast_add, Int.natCast_add, Int.emod_add_emod]
        congr 1
        try omega
      have HFa := Lib.hid (rfar_any _ (Q j) (ps T.length p (j + 1)) _ wr (HT'.out.row (by rw [HRl.out]; exact k1) k2) (by rw [HRl.out]; exact hpl2) (by rw [HRl.out]; omega) rfl)
      rw [HRl.out, HFr.out j hjn] at HFa
      have HRun := Lib.hid (HD.out.run j)
      have HSto := Lib.hid (HD.out.stop)
      have hne := ps_ne (s := j) hpn (by omega) (by omega)
      by_cases hjm : j < m
      · obtain ⟨s1, s2⟩ := HRun.out hjm
        generalize (gt T (ps T.length p (j + 1))).1 = zx at *
        generalize (gt T (ps T.length p (j + 1))).2 = zy at *
        generalize frf T.length (gt T) (ps T.length p (j + 1)) = F at *
        generalize hpr : ps T.length p (j + 1) = a' at *
        generalize ps T.length p j = a at *
        have HPr := Lib.hid hpr
        clear hpr HRun HSto r1 r2
        have hz1 : (zx == 0) = false := by simp [s1]
        have hz2 : (F == 0) = false := by simp [s2]
        have hai : (a : Int) < (T.length : Int) := by omega
        have hai2 : (a' : Int) < (T.length : Int) := by omega
        have HB2 : Hid (Below w.heap.size w ((((wr.setCell ⟨g, a * 2, none⟩ (.int .u32 zx)).setCell ⟨g, a * 2 + 1, none⟩ (.int .i64 zy)).setCell ⟨g, a' * 2, none⟩ (.int .u32 0)).setCell ⟨g, a' * 2 + 1, none⟩ (.int .i64 0))) := (((HB.out.setCell (by show w.heap.size ≤ g; omega) _).setCell (by show w.heap.size ≤ g; omega) _).setCell (by show w.heap.size ≤ g; omega) _).setCell (by show w.heap.size ≤ g; omega) _
        go_wp2_with fail
        try rw [hmod]
        refine HFa.out.mono ?_
        rintro e w4 ⟨rfl, rfl⟩
        go_wp2
        try rw [hmod]
        go_roundw
        case rel => exact ⟨j + 1, by omega, by go_num, by unfold Hid; rw [HPr.out], HB2, HS⟩
        case measure => simp [intOf]; omega
      · obtain rfl : j = m := by omega
        have hst := HSto.out hjn
        generalize (gt T (ps T.length p (j + 1))).1 = zx at *
        generalize (gt T (ps T.length p (j + 1))).2 = zy at *
        generalize frf T.length (gt T) (ps T.length p (j + 1)) = F at *
        generalize ps T.length p (j + 1) = a' at *
        generalize ps T.length p j = a at *
        have hai2 : (a' : Int) < (T.length : Int) := by omega
        by_cases hz : zx = 0
        · have hz1 : (zx == 0) = true := by simp [hz]
          clear hst hz HS
          go_wp2
          go_ret2
          refine ⟨_, rfl, HB.out, ?_⟩
          rw [← HRl.out j]
          exact HT'.out.row (by rw [HRl.out]; exact k1) k2
        · have hz1 : (zx == 0) = false := by simp [hz]
          have hz2 : (F == 0) = true := by rcases hst with q | q; exact absurd q hz; simp [q]
          clear hst hz HS
          go_wp2_with fail
          try rw [hmod]
          refine HFa.out.mono ?_
          rintro e w4 ⟨rfl, rfl⟩
          go_wp2
          go_ret2
          refine ⟨_, rfl, HB.out, ?_⟩
          rw [← HRl.out j]
          exact HT'.out.row (by rw [HRl.out]; exact k1) k2
    · have hjn1 : ¬ (j : Int) + 1 < (T.length : Int) := by omega
      obtain rfl : j = m := by omega
      go_wp2
      go_ret2
      refine ⟨_, rfl, HB.out, ?_⟩
      rw [← HRl.out j]
      exact HT'.out.row (by rw [HRl.out]; exact k1) k2
end Go.Proofs.Ytjikikiconhlaaa.Pro
