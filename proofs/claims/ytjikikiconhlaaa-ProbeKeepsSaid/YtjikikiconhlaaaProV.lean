/- The statement ProbeTables. -/
import Derived.Test.YtjikikiconhlaaaProU
namespace Go.Proofs.Ytjikikiconhlaaa.Pro
open Go.RowKit
set_option linter.unusedVariables false

set_option maxRecDepth 100000 in
theorem rDelete_any (u : Value) (T : List Cel) (x y : Int) (w : World) (hr : CRow w u T) (hn : T.length ≤ 1000) :
    Calls Try.prog 15 #[u, .int .u32 x, .int .i64 y] w (InsR w (rD T (x, y)) (eD T (x, y))) := by
  cases hna : naC T (x, y) with
  | false =>
    have E : eD T (x, y) = 2 := by rw [eD, if_neg (by simp [ckC, hna])]; simp [ckC, hna]
    have E2 : rD T (x, y) = [] := by rw [rD, if_neg (by omega)]
    rw [E, E2]
    obtain ⟨a, c, rfl, -, -⟩ := hr.slice
    clear hr E E2
    rcases na_no hna with h | ⟨h, h'⟩ | ⟨h, h', h''⟩
    · have hx1 : (x == 0) = true := by simp [h]
      clear h hna
      go_enter Try.func15, Try.ntmps15
      go_wp2
      go_ret2
      exact ⟨_, rfl, Below.refl _ _, CRow.nil _⟩
    · have hx1 : (x == 0) = false := by simp [h]
      clear h hna
      go_enter Try.func15, Try.ntmps15
      go_wp2
      go_ret2
      exact ⟨_, rfl, Below.refl _ _, CRow.nil _⟩
    · have hx1 : (x == 0) = false := by simp [h]
      have hy1 : y ≥ (T.length : Int) := h''
      clear h hna
      go_enter Try.func15, Try.ntmps15
      go_wp2
      go_ret2
      exact ⟨_, rfl, Below.refl _ _, CRow.nil _⟩
  | true =>
    obtain ⟨h, rfl, hh⟩ := na_home hna
    have hx : x ≠ 0 := (of_decide_eq_true hna).1
    have hx1 : (x == 0) = false := by simp [hx]
    have hh1 : ¬ ((h : Int) ≥ (T.length : Int)) := by omega
    have HT := Lib.hid (rright_any u T w hr hn)
    cases hrc : RC T with
    | false =>
      have E : eD T (x, (h : Int)) = 4 := by rw [eD, if_neg (by simp [ckC, hna, hrc])]; simp [ckC, hna, hrc]
      have E2 : rD T (x, (h : Int)) = [] := by rw [rD, if_neg (by omega)]
      rw [E, E2]
      rw [hrc] at HT
      obtain ⟨a, c, rfl, -, -⟩ := hr.slice
      clear hr E E2 hrc hna hx
      go_enter Try.func15, Try.ntmps15
      go_wp2_with fail
      refine HT.out.mono ?_
      rintro e w1 ⟨rfl, hb1⟩
      go_wp2
      go_ret2
      exact ⟨_, rfl, hb1, CRow.nil _⟩
    | true =>
      have hck : ckC T (x, (h : Int)) = 0 := by simp [ckC, hna, hrc]
      have EF : FiC T (x, (h : Int)) = fiC T (x, (h : Int)) h := by rw [FiC, if_pos hck]; simp
      rcases hf : fiC T (x, (h : Int)) h with ⟨p, b⟩
      cases b with
      | true =>
        have E : eD T (x, (h : Int)) = 0 := by rw [eD, if_pos hck]; simp [hf]
        have E2 : rD T (x, (h : Int)) = delT T p := by rw [rD, if_pos E]; simp [hf]
        rw [E, E2]
        refine rDelete_ok u T x h p w hr hn hh hx hrc (by rw [EF, hf]) ?_
        have := fiC_lt T (x, (h : Int)) h (by omega)
        rwa [hf] at this
      | false =>
        have E : eD T (x, (h : Int)) = 7 := by rw [eD, if_pos hck]; simp [hf]
        have E2 : rD T (x, (h : Int)) = [] := by rw [rD, if_neg (by omega)]
        have HFi := Lib.hid (fun W (hW : Below w.heap.size w W) => rFind_any u T x h W (hr.mono hW (Nat.le_refl _)) hn)
        rw [EF, hf] at HFi
        rw [E, E2]
        rw [hrc] at HT
        obtain ⟨a, c, rfl, -, -⟩ := hr.slice
        clear hr E E2 hrc hna hx hf EF hck
        go_enter Try.func15, Try.ntmps15
        go_wp2_with fail
        refine HT.out.mono ?_
        rintro e w1 ⟨rfl, hb1⟩
        have HB1 := Lib.hid hb1
        clear hb1
        go_wp2_with fail
        refine (HFi.out _ HB1.out).mono ?_
        rintro e w2 ⟨rfl, hb2⟩
        go_wp2
        go_ret2
        exact ⟨_, rfl, HB1.out.trans (hb2.mono HB1.out.size), CRow.nil _⟩

set_option maxRecDepth 100000 in
theorem rLongest_any (u : Value) (T : List Cel) (w : World) (hr : CRow w u T) (hn : T.length ≤ 1000) :
    Calls Try.prog 20 #[u] w fun e w' => e = .returned (.int .i64 (loT T)) ∧ Below w.heap.size w w' := by
  by_cases h0 : 0 < T.length
  · have HR := Lib.hid hr
    obtain ⟨b, off, c, rfl, q1, q2, hblt, hc⟩ := hr.open h0
    have HC := Lib.hid hc
    have HT := Lib.hid (fun W (hW : Below w.heap.size w W) => rright_any (.slice (some ⟨b, off, none⟩) T.length c) T W (hr.mono hW (Nat.le_refl _)) hn)
    have HF := Lib.hid (fun p hp x W (hW : Below w.heap.size w W) hx => rfar_any (.slice (some ⟨b, off, none⟩) T.length c) T p x W (hr.mono hW (Nat.le_refl _)) hp (by omega) hx)
    have h01 : (0 : Int) < (T.length : Int) := by omega
    cases hrc : RC T with
    | false =>
      rw [hrc] at HT
      have E : loT T = 0 := by rw [loT, hrc]; simp
      rw [E]
      clear hr hrc E hc HF
      go_enter Try.func20, Try.ntmps20
      go_wp2
      go_loopw [3, 4] (fun l i wr => l = .int .i64 0 ∧ i = .int .i64 0 ∧ w = wr) (fun _ i _ => 0)
      case atStart => exact ⟨rfl, rfl, rfl⟩
      case round =>
        obtain ⟨rfl, rfl, rfl⟩ := hrel
        go_wp2_with fail
        refine (HT.out _ (Below.refl _ _)).mono ?_
        rintro e w1 ⟨rfl, hb1⟩
        go_wp2
        go_ret
        exact ⟨rfl, hb1⟩
    | true =>
      rw [hrc] at HT
      have E : loT T = lon T T.length := by rw [loT, hrc]; simp
      have HEm := Lib.hid (fun k hk => em_iff (rc_rtf hrc) (p := k) hk)
      have HLo := Lib.hid (fun k => show lon T (k + 1) = if emC (gt T k) then lon T k else if lon T k < fr T k then fr T k else lon T k from rfl)
      rw [E]
      clear hr hrc E hc
      go_enter Try.func20, Try.ntmps20
      go_wp2
      go_loopw [3, 4] (fun l i wr => ∃ k : Nat, k ≤ T.length ∧ i = .int .i64 k ∧ Hid (l = .int .i64 (lon T k)) ∧ Hid (Below w.heap.size w wr)) (fun _ i _ => T.length - (intOf i).toNat)
      case atStart => exact ⟨0, Nat.zero_le _, rfl, rfl, Below.refl _ _⟩
      case round =>
        obtain ⟨k, hk, rfl, hlo, HB⟩ := hrel
        have hlo2 := hlo.out
        subst hlo2
        clear hlo
        by_cases hlt : k < T.length
        · have hlt1 : (k : Int) < (T.length : Int) := by omega
          go_wp2_with fail
          refine (HT.out _ HB.out).mono ?_
          rintro e w1 ⟨rfl, hb1⟩
          have HB1 := Lib.hid (HB.out.trans (hb1.mono HB.out.size))
          clear hb1 HB
          obtain ⟨d1, -⟩ := HC.out k hlt
          have c1 := (HB1.out.cell (p := ⟨b, off + k * 2, none⟩) hblt).trans d1
          have HFk := Lib.hid (HF.out k hlt _ w1 HB1.out rfl)
          have HLk := Lib.hid (HLo.out k)
          have hek := HEm.out k hlt
          generalize emC (gt T k) = eb at *
          generalize (gt T k).1 = x at *
          generalize fr T k = f at *
          have hl : ∃ L, L = lon T k := ⟨_, rfl⟩
          obtain ⟨L, hL⟩ := hl
          rw [← hL] at HLk ⊢
          clear hL d1
          by_cases hx : x = 0
          · have e3 : lon T (k + 1) = L := by rw [HLk.out, hek.2 hx]; simp
            have hx1 : (x != 0) = false := by simp [hx]
            rw [← e3]
            clear e3 hek hx
            go_wp2
            go_roundw
            case rel => exact ⟨k + 1, by omega, by go_num, rfl, HB1⟩
            case measure => simp [intOf]; omega
          · have hx1 : (x != 0) = true := by simp [hx]
            have heb : eb = false := by rw [← Bool.not_eq_true]; exact fun q => hx (hek.1 q)
            clear hek hx
            go_wp2_with fail
            refine HFk.out.mono ?_
            rintro e w3 ⟨rfl, rfl⟩
            by_cases hm : L < f
            · have e3 : Hid (lon T (k + 1) = f) := by unfold Hid; rw [HLk.out, heb]; simp [hm]
              have hmx : max L f = f := by omega
              go_wp2
              all_goals
                go_roundw
                case rel => exact ⟨k + 1, by omega, by go_num, by unfold Hid; rw [e3.out], HB1⟩
                case measure => simp [intOf]; omega
            · have e3 : Hid (lon T (k + 1) = L) := by unfold Hid; rw [HLk.out, heb]; simp [hm]
              go_wp2
              all_goals
                go_roundw
                case rel => exact ⟨k + 1, by omega, by go_num, by unfold Hid; rw [e3.out], HB1⟩
                case measure => simp [intOf]; omega
        · obtain rfl : k = T.length := by omega
          go_wp2
          go_ret
          exact ⟨rfl, HB.out⟩
  · obtain rfl : T = [] := List.length_eq_zero_iff.1 (by omega)
    obtain ⟨a, c, rfl, -, -⟩ := hr.slice
    clear hr
    go_enter Try.func20, Try.ntmps20
    go_wp2
    go_loopw [3, 4] (fun l i wr => l = .int .i64 0 ∧ i = .int .i64 0 ∧ w = wr) (fun _ i _ => 0)
    case atStart => exact ⟨rfl, rfl, rfl⟩
    case round =>
      obtain ⟨rfl, rfl, rfl⟩ := hrel
      go_wp2
      go_ret
      exact ⟨rfl, Below.refl _ _⟩
theorem rI_len (T : List Cel) (c : Cel) (hn : T.length ≤ 80) : (rI T c).length ≤ 1000 := by
  unfold rI
  split
  · rw [insT_length]; omega
  · simp
theorem rD_len (T : List Cel) (c : Cel) (hn : T.length ≤ 80) : (rD T c).length ≤ 1000 := by
  unfold rD
  split
  · rw [delT_length]; omega
  · simp

set_option maxRecDepth 100000 in
set_option maxHeartbeats 2000000 in
theorem probeTables_walk (u : Value) (T : List Cel) (x y : Int) (w : World) (hr : CRow w u T) (hu : WU T) : Calls Try.prog 3 #[u, .int .u32 x, .int .i64 y] w fun e w' => e = .returned (.bool true) ∧ Below w.heap.size w w' := by
  have HPr := Lib.hid probes_any
  by_cases h80 : 80 < T.length
  · obtain ⟨a, c, rfl, -, -⟩ := hr.slice
    have hq : ((T.length : Int) > 80) := by omega
    clear hr
    go_enter Try.func3, Try.ntmps3
    go_wp2_with fail
    refine (HPr.out _).mono ?_
    rintro e w1 ⟨rfl, hb⟩
    go_wp2
    go_ret
    exact ⟨rfl, hb⟩
  · have hq : ¬ ((T.length : Int) > 80) := by omega
    have HO := Lib.hid (own_any u T w hr (by omega))
    have HU := Lib.hid (fun W (hW : Below w.heap.size w W) => hr.mono hW (Nat.le_refl _))
    have F1 := Lib.hid (fun v W (h : CRow W v T) => Find_any v T x y W h (by omega) hu)
    have F2 := Lib.hid (fun v W (h : CRow W v T) => rFind_any v T x y W h (by omega))
    have I1 := Lib.hid (fun v W (h : CRow W v T) => insert_any v T x y W h (by omega) hu)
    have I2 := Lib.hid (fun v W (h : CRow W v T) => rInsert_any v T x y W h (by omega))
    have D1 := Lib.hid (fun v W (h : CRow W v T) => delete_any v T x y W h (by omega) hu)
    have D2 := Lib.hid (fun v W (h : CRow W v T) => rDelete_any v T x y W h (by omega))
    have R1 := Lib.hid (fun v W (h : CRow W v T) => right_any v T W h (by omega) hu)
    have R2 := Lib.hid (fun v W (h : CRow W v T) => rright_any v T W h (by omega))
    have L1 := Lib.hid (fun v W (h : CRow W v T) => longest_any v T W h (by omega) hu)
    have L2 := Lib.hid (fun v W (h : CRow W v T) => rLongest_any v T W h (by omega))
    have S1 := Lib.hid (fun v v' W (h : CRow W v (rI T (x, y))) (h' : CRow W v' (rI T (x, y))) => same_any v v' _ _ W h h' (rI_len _ _ (by omega)))
    have S2 := Lib.hid (fun v v' W (h : CRow W v (rD T (x, y))) (h' : CRow W v' (rD T (x, y))) => same_any v v' _ _ W h h' (rD_len _ _ (by omega)))
    have S3 := Lib.hid (fun v v' W (h : CRow W v T) (h' : CRow W v' T) => same_any v v' _ _ W h h' (by omega))
    simp only [decide_true] at S1 S2 S3
    generalize rI T (x, y) = A at *
    generalize eI T (x, y) = ea at *
    generalize rD T (x, y) = D at *
    generalize eD T (x, y) = ed at *
    generalize FiC T (x, y) = fi at *
    generalize loT T = lo at *
    generalize RC T = rc at *
    have q1 : (ea == ea) = true := by simp
    have q2 : (ed == ed) = true := by simp
    have q3 : ((fi.1 : Int) == (fi.1 : Int)) = true := by simp
    have q4 : (fi.2 == fi.2) = true := by simp
    have q5 : (lo == lo) = true := by simp
    have q6 : (rc == rc) = true := by simp
    obtain ⟨a, c, rfl, -, -⟩ := hr.slice
    clear hr hu
    go_enter Try.func3, Try.ntmps3
    go_wp2_with fail
    refine HO.out.mono ?_
    rintro e w1 ⟨v, rfl, hv, hb1⟩
    have B1 := Lib.hid hb1
    have V1 := Lib.hid hv
    clear hv hb1
    go_wp2_with fail
    refine (F1.out _ _ V1.out).mono ?_
    rintro e w2 ⟨rfl, hb2⟩
    have B2 := Lib.hid (B1.out.trans (hb2.mono B1.out.size))
    have V2 := Lib.hid (V1.out.mono hb2 (Nat.le_refl _))
    clear hb2 V1
    go_wp2_with fail
    refine (F2.out _ _ (HU.out _ B2.out)).mono ?_
    rintro e w3 ⟨rfl, hb3⟩
    have B3 := Lib.hid (B2.out.trans (hb3.mono B2.out.size))
    have V3 := Lib.hid (V2.out.mono hb3 (Nat.le_refl _))
    clear hb3 V2
    go_wp2_with fail
    refine (I1.out _ _ V3.out).mono ?_
    rintro e w4 ⟨va, rfl, hb4, hva⟩
    have B4 := Lib.hid (B3.out.trans (hb4.mono B3.out.size))
    have V4 := Lib.hid (V3.out.mono hb4 (Nat.le_refl _))
    have A4 := Lib.hid hva
    clear hb4 V3 hva
    go_wp2_with fail
    refine (I2.out _ _ (HU.out _ B4.out)).mono ?_
    rintro e w5 ⟨vb, rfl, hb5, hvb⟩
    have B5 := Lib.hid (B4.out.trans (hb5.mono B4.out.size))
    have V5 := Lib.hid (V4.out.mono hb5 (Nat.le_refl _))
    have A5 := Lib.hid (A4.out.mono hb5 (Nat.le_refl _))
    have A5' := Lib.hid hvb
    clear hb5 V4 A4 hvb
    go_wp2_with fail
    refine (D1.out _ _ V5.out).mono ?_
    rintro e w6 ⟨vd, rfl, hb6, hvd⟩
    have B6 := Lib.hid (B5.out.trans (hb6.mono B5.out.size))
    have V6 := Lib.hid (V5.out.mono hb6 (Nat.le_refl _))
    have A6 := Lib.hid (A5.out.mono hb6 (Nat.le_refl _))
    have A6' := Lib.hid (A5'.out.mono hb6 (Nat.le_refl _))
    have D6 := Lib.hid hvd
    clear hb6 V5 A5 A5' hvd
    go_wp2_with fail
    refine (D2.out _ _ (HU.out _ B6.out)).mono ?_
    rintro e w7 ⟨ve, rfl, hb7, hve⟩
    have B7 := Lib.hid (B6.out.trans (hb7.mono B6.out.size))
    have V7 := Lib.hid (V6.out.mono hb7 (Nat.le_refl _))
    have A7 := Lib.hid (A6.out.mono hb7 (Nat.le_refl _))
    have A7' := Lib.hid (A6'.out.mono hb7 (Nat.le_refl _))
    have D7 := Lib.hid (D6.out.mono hb7 (Nat.le_refl _))
    have D7' := Lib.hid hve
    clear hb7 V6 A6 A6' D6 hve
    go_wp2_with fail
    refine (R1.out _ _ V7.out).mono ?_
    rintro e w8 ⟨rfl, hb8⟩
    have B8 := Lib.hid (B7.out.trans (hb8.mono B7.out.size))
    have M8 := Lib.hid hb8
    clear hb8
    go_wp2_with fail
    refine (R2.out _ _ (HU.out _ B8.out)).mono ?_
    rintro e w9 ⟨rfl, hb9⟩
    have B9 := Lib.hid (B8.out.trans (hb9.mono B8.out.size))
    have M9 := Lib.hid (M8.out.trans (hb9.mono M8.out.size))
    clear hb9 M8
    go_wp2_with fail
    refine (S1.out _ _ _ (A7.out.mono M9.out (Nat.le_refl _)) (A7'.out.mono M9.out (Nat.le_refl _))).mono ?_
    rintro e w10 ⟨rfl, hb10⟩
    have B10 := Lib.hid (B9.out.trans (hb10.mono B9.out.size))
    have M10 := Lib.hid (M9.out.trans (hb10.mono M9.out.size))
    clear hb10 M9 A7 A7'
    go_wp2_with fail
    refine (S2.out _ _ _ (D7.out.mono M10.out (Nat.le_refl _)) (D7'.out.mono M10.out (Nat.le_refl _))).mono ?_
    rintro e w11 ⟨rfl, hb11⟩
    have B11 := Lib.hid (B10.out.trans (hb11.mono B10.out.size))
    have M11 := Lib.hid (M10.out.trans (hb11.mono M10.out.size))
    clear hb11 M10 D7 D7'
    go_wp2_with fail
    refine (L1.out _ _ (V7.out.mono M11.out (Nat.le_refl _))).mono ?_
    rintro e w12 ⟨rfl, hb12⟩
    have B12 := Lib.hid (B11.out.trans (hb12.mono B11.out.size))
    have M12 := Lib.hid (M11.out.trans (hb12.mono M11.out.size))
    clear hb12 M11
    go_wp2_with fail
    refine (L2.out _ _ (HU.out _ B12.out)).mono ?_
    rintro e w13 ⟨rfl, hb13⟩
    have B13 := Lib.hid (B12.out.trans (hb13.mono B12.out.size))
    have M13 := Lib.hid (M12.out.trans (hb13.mono M12.out.size))
    clear hb13 M12
    go_wp2_with fail
    refine (S3.out _ _ _ (V7.out.mono M13.out (Nat.le_refl _)) (HU.out _ B13.out)).mono ?_
    rintro e w14 ⟨rfl, hb14⟩
    have B14 := Lib.hid (B13.out.trans (hb14.mono B13.out.size))
    clear hb14
    go_wp2_with fail
    refine (HPr.out _).mono ?_
    rintro e w15 ⟨rfl, hb15⟩
    go_wp2
    go_ret
    exact ⟨rfl, B14.out.trans (hb15.mono B14.out.size)⟩
end Go.Proofs.Ytjikikiconhlaaa.Pro
