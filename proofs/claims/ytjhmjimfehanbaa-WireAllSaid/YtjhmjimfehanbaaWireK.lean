/- The walk of the statement WireBack. -/
import Derived.Test.YtjhmjimfehanbaaWireL
namespace Go.Proofs.Ytjhmjimfehanbaa.Wire
open Go.RowKit Fold Name
set_option linter.unusedVariables false

theorem getD_map_low (L : List (List ByteArray)) (i : Nat) : (L.map (·.map lowS)).getD i [] = (L.getD i []).map lowS := by
  simp only [List.getD, List.getElem?_map]
  cases L[i]? with
  | none => rfl
  | some x => rfl
theorem getD_low (l : List ByteArray) (i : Nat) (h : i < l.length) : (l.map lowS).getD i ByteArray.empty = lowS (l.getD i ByteArray.empty) := by
  simp [List.getD, h]
theorem chk_size {l : List ByteArray} (h : chk l = 0) (i : Nat) (hi : i < l.length) : (l.getD i ByteArray.empty).size ≤ 3000 := by
  have := (chk_zero h).2
  have := wire_get l i hi
  omega
theorem Packed.next {b ps : List Int} {L : List (List ByteArray)} (h : Packed b ps L) {i e : Nat} (he : (ps ++ [(b.length : Int)]).getD (i + 1) 0 = e) : (i + 1 < L.length → ps.getD (i + 1) 0 = e) ∧ (i + 1 = L.length → e = b.length) := by
  constructor
  · intro hi
    rw [getD_snoc_lt _ _ _ _ (by rw [h.1]; exact hi)] at he
    exact he
  · intro hi
    have := getD_snoc_eq ps (b.length : Int) 0
    rw [h.1, ← hi, he] at this
    omega

set_option maxRecDepth 100000 in
set_option maxHeartbeats 8000000 in
theorem wireBack_in (D : Does) (ad : Option Addr) (cap : Nat) (L : List (List ByteArray)) (w : World) (hr : NRow w (.slice ad L.length cap) L) (hf : few5 L = true) (hz : (packW L).2.2 = 0) :
    Calls Try.prog 5 #[.slice ad L.length cap] w fun e w' => e = .returned (.bool true) ∧ Below w.heap.size w w' := by
  have HD := Lib.hid D
  have HF := Lib.hid (fewN_any _ L w hr)
  rw [hf] at HF
  have HN := Lib.hid hr
  obtain ⟨hpk, hbl, hl64⟩ := packW_packed hz
  have HK := Lib.hid (fun u hu => D.pack (.slice ad L.length cap) L u hu hf)
  unfold PGot at HK
  rw [hz] at HK
  obtain ⟨b, hb⟩ : ∃ b, b = (packW L).1 := ⟨_, rfl⟩
  obtain ⟨ps, hps⟩ : ∃ ps, ps = (packW L).2.1 := ⟨_, rfl⟩
  rw [← hb, ← hps] at HK hpk
  rw [← hb] at hbl
  have hall := hpk.all
  have hpl := hpk.1
  have HPk := Lib.hid hpk
  have HA := Lib.hid (fun v u hu => D.all v b u hu (by omega))
  unfold AGot at HA
  rw [hall] at HA
  clear hr hf hz hb hps hpk hall
  go_enter Try.func5, Try.ntmps5
  go_wp2_with fail
  refine HF.out.mono ?_
  rintro e w0 ⟨rfl, rfl⟩
  go_wp2_with fail
  refine (HK.out _ HN.out).mono ?_
  rintro e w1 ⟨u1, p1, rfl, hb1, hr1, hp1⟩
  have HN1 := Lib.hid (HN.out.mono hb1 (Nat.le_refl _))
  have HB1 := Lib.hid hr1
  have HP1 := Lib.hid hp1
  obtain ⟨adb, capb, rfl, -, -, -, -⟩ := hr1
  obtain ⟨adp, capp, rfl, -, -, -, -⟩ := hp1
  rw [hpl] at HP1 ⊢
  clear HF HK HN
  go_wp2_with fail
  refine (HA.out _ _ HB1.out).mono ?_
  rintro e w2 ⟨u2, rfl, hb2, hr2⟩
  simp only []
  have HN2 := Lib.hid (HN1.out.mono hb2 (Nat.le_refl _))
  have HB2 := Lib.hid (HB1.out.mono hb2 (Nat.le_refl _))
  have HP2 := Lib.hid (HP1.out.mono hb2 (Nat.le_refl _))
  have HA2 := Lib.hid hr2
  obtain ⟨ada, capa, Ua, rfl, a2, a3, a4, a5⟩ := hr2
  rw [List.length_map] at a2 a4 HA2 ⊢
  have HAc := Lib.hid a5
  have HAs := Lib.hid a4
  have hb2' := hb1.trans (hb2.mono hb1.size)
  clear hb1 hb2 HN1 HB1 HP1 HA a4 a5
  obtain ⟨an, cn, U, hv, n2, n3, n4, n5⟩ := HN2.out
  injection hv with hv1 hv2 hv3
  subst hv1 hv3
  have HNc := Lib.hid n5
  have HNs := Lib.hid n4
  clear n4 n5 hv2
  obtain ⟨pn, pc, hv, m2, m3, m4, m5⟩ := HP2.out
  injection hv with hv1 hv2 hv3
  subst hv1 hv3
  have HPc := Lib.hid m5
  clear m4 m5 hv2
  go_wp2
  go_loopw [8] (fun i wr => ∃ k : Nat, k ≤ L.length ∧ i = .int .i64 k ∧ Below w2.heap.size w2 wr) (fun i _ => L.length - (intOf i).toNat)
  case atStart => exact ⟨0, Nat.zero_le _, rfl, Below.refl _ _⟩
  case round =>
    obtain ⟨k, hk, rfl, hbr⟩ := hrel
    by_cases hlt : k < L.length
    · have hlt1 : (k : Int) < (L.length : Int) := by omega
      obtain ⟨p, e, q1, q2, q3, q4, q5, q6, q7, q8⟩ := HPk.out.name hlt
      obtain ⟨q9, q10⟩ := HPk.out.next q2
      have hgot := HPk.out.got hlt q1 q2
      have hLne : L ≠ [] := by rintro rfl; simp at hlt
      have hpne : ps ≠ [] := by rintro rfl; simp at hpl; omega
      obtain ⟨bn, offn, rfl, hbn, hcn⟩ := HNc.out hLne
      obtain ⟨bp, offp, rfl, hbp, hcp⟩ := HPc.out hpne
      obtain ⟨ba, offa, rfl, hba, hca⟩ := HAc.out (by simpa using hLne)
      have c1 := (hbr.cell (p := ⟨bn, offn + k, none⟩) hbn).trans (hcn k hlt)
      have c2 := (hbr.cell (p := ⟨bp, offp + k, none⟩) hbp).trans (hcp k (by omega))
      have c3 := (hbr.cell (p := ⟨ba, offa + k, none⟩) hba).trans (hca k (by simpa using hlt))
      rw [q1] at c2
      have s1 := (HNs.out k hlt).mono hbr (Nat.le_refl _)
      have s3 := (HAs.out k hlt).mono hbr (Nat.le_refl _)
      rw [getD_map_low] at s3
      have hsz := chk_size q6
      obtain ⟨l, hl⟩ : ∃ l, l = L.getD k [] := ⟨_, rfl⟩
      rw [← hl] at s1 s3 q5 q6 hgot hsz
      obtain ⟨V1, hV1⟩ : ∃ V1, V1 = U k := ⟨_, rfl⟩
      obtain ⟨V3, hV3⟩ : ∃ V3, V3 = Ua k := ⟨_, rfl⟩
      rw [← hV1] at c1 s1
      rw [← hV3] at c3 s3
      have hput : putB l = putL l := by rw [putB, if_pos q6]
      have hwl := (chk_zero q6).2
      have hpll := putL_length l
      have HG := Lib.hid (D.get _ _ _ _ (HB2.out.mono hbr (Nat.le_refl _)) (by omega) (show -9223372036854775808 ≤ (p : Int) by omega) (by omega))
      unfold Got at HG
      rw [hgot] at HG
      have HPut := Lib.hid (fun u hu => D.put V1 l u hu (by omega))
      unfold PutGot at HPut
      rw [q6, hput] at HPut
      have HS1 := Lib.hid s1
      have HS3 := Lib.hid s3
      have HZ := Lib.hid hsz
      obtain ⟨ad1, cap1, rfl, -, -, -, hs1c⟩ := s1
      have HL1 := Lib.hid hs1c
      have hc4 := fun (h : k + 1 < L.length) => (hbr.cell (p := ⟨bp, offp + (k + 1), none⟩) hbp).trans (hcp (k + 1) (by omega))
      clear hcn hcp hca hl hV1 hV3 hgot q6 q7 q8 q1 q2 hput s3 hs1c hsz
      go_wp2_with fail
      refine HG.out.mono ?_
      rintro e' w3 ⟨u3, rfl, hb3, hr3⟩
      simp only []
      have HX3 := Lib.hid hr3.1
      obtain ⟨⟨ad3, cap3, rfl, -, -, -, hx3c⟩, -⟩ := hr3
      rw [List.length_map] at HX3 ⊢
      have HXc := Lib.hid hx3c
      clear hx3c HG
      have HS13 := Lib.hid (HS1.out.mono hb3 (Nat.le_refl _))
      have HS33 := Lib.hid (HS3.out.mono hb3 (Nat.le_refl _))
      have hb3' := hbr.trans (hb3.mono hbr.size)
      have d1 := (hb3.cell (p := ⟨bn, offn + k, none⟩) (by have := hbr.size; show bn < wr.heap.size; omega)).trans c1
      have d2 := (hb3.cell (p := ⟨bp, offp + k, none⟩) (by have := hbr.size; show bp < wr.heap.size; omega)).trans c2
      have d3 := (hb3.cell (p := ⟨ba, offa + k, none⟩) (by have := hbr.size; show ba < wr.heap.size; omega)).trans c3
      go_wp2_with fail
      refine (HPut.out _ HS13.out).mono ?_
      rintro e' w4 ⟨u4, rfl, hb4, hr4⟩
      have HX4 := Lib.hid (HX3.out.mono hb4 (Nat.le_refl _))
      have HS14 := Lib.hid (HS13.out.mono hb4 (Nat.le_refl _))
      have HS34 := Lib.hid (HS33.out.mono hb4 (Nat.le_refl _))
      have hb4' := hb3'.trans (hb4.mono hb3'.size)
      have hb34 := hb3.trans (hb4.mono hb3.size)
      have e1 := (hb34.cell (p := ⟨bn, offn + k, none⟩) (by have := hbr.size; show bn < wr.heap.size; omega)).trans c1
      have e2 := (hb34.cell (p := ⟨bp, offp + k, none⟩) (by have := hbr.size; show bp < wr.heap.size; omega)).trans c2
      have e3 := (hb34.cell (p := ⟨ba, offa + k, none⟩) (by have := hbr.size; show ba < wr.heap.size; omega)).trans c3
      obtain ⟨ad4, cap4, rfl, -, -, -, -⟩ := hr4
      rw [hpll]
      have hbr0 := hbr
      clear hb3 hb4 hb3' HX3 HS1 HS3 HS13 HS33 hbr c1 c2 c3 d1 d2 d3 HPut
      have hle : (e : Int) - p ≤ wire l := by omega
      have hle2 : ¬ ((wire l : Nat) : Int) < (e : Int) - p := by omega
      by_cases hend : k + 1 < L.length
      · have hi1 : (k : Int) + 1 < (L.length : Int) := by omega
        have hi2 : (((k : Int) + 1) == (L.length : Int)) = false := by rw [beq_eq_false_iff_ne]; omega
        have e4 := (hb34.cell (p := ⟨bp, offp + (k + 1), none⟩) (by have := hbr0.size; show bp < wr.heap.size; omega)).trans (hc4 hend)
        rw [q9 hend] at e4
        clear q9 q10 hc4
        go_wp2_with fail
        refine (sameL_any _ _ _ _ _ HX4.out HS34.out).mono ?_
        rintro e' w5 ⟨he, hm5⟩
        rw [dec_self'] at he
        subst he
        have hb5 := below_drawn (Below.refl w4.heap.size w4) hm5
        have hb5' := hb4'.trans (hb5.mono hb4'.size)
        have f1 := (hb5.cell (p := ⟨bn, offn + k, none⟩) (by have := hb4'.size; show bn < w4.heap.size; omega)).trans e1
        have f2 := (hb5.cell (p := ⟨bp, offp + k, none⟩) (by have := hb4'.size; show bp < w4.heap.size; omega)).trans e2
        have f4 := (hb5.cell (p := ⟨bp, offp + (k + 1), none⟩) (by have := hb4'.size; show bp < w4.heap.size; omega)).trans e4
        have HX5 := Lib.hid (HX4.out.mono hb5 (Nat.le_refl _))
        have HS15 := Lib.hid (HS14.out.mono hb5 (Nat.le_refl _))
        obtain ⟨ax, cx, hvx, x2, x3, x4, x5⟩ := HX5.out
        injection hvx with hv1 hv2 hv3
        subst hv1 hv3
        have HXc5 := Lib.hid x5
        clear x4 x5 hv2
        obtain ⟨al, cl, hvl, l2, l3, l4, l5⟩ := HS15.out
        injection hvl with hv1 hv2 hv3
        subst hv1 hv3
        have HLc5 := Lib.hid l5
        clear l4 l5 hv2 hm5 hb5 HX4 HS14 HS34 HXc HL1
        go_wp2
        go_loopw [14] (fun j wr => ∃ n : Nat, n ≤ l.length ∧ j = .int .i64 n ∧ Below w5.heap.size w5 wr) (fun j _ => l.length - (intOf j).toNat)
        case atStart => exact ⟨0, Nat.zero_le _, rfl, Below.refl _ _⟩
        case round =>
          obtain ⟨n, hn, rfl, hbi⟩ := hrel
          by_cases hlt2 : n < l.length
          · have hlt3 : (n : Int) < (l.length : Int) := by omega
            have hlne : l ≠ [] := by rintro rfl; simp at hlt2
            obtain ⟨bx, offx, rfl, hbx, hcx⟩ := HXc5.out (by simpa using hlne)
            obtain ⟨bl, offl, rfl, hbl2, hcl⟩ := HLc5.out hlne
            have g1 := (hbi.cell (p := ⟨bx, offx + n, none⟩) hbx).trans (hcx n (by simpa using hlt2))
            have g2 := (hbi.cell (p := ⟨bl, offl + n, none⟩) hbl2).trans (hcl n hlt2)
            have g3 := (hbi.cell (p := ⟨bn, offn + k, none⟩) (by have := hb5'.size; show bn < w5.heap.size; omega)).trans f1
            rw [getD_low l n hlt2] at g1
            have hz := HZ.out n hlt2
            obtain ⟨s, hs⟩ : ∃ s, s = l.getD n ByteArray.empty := ⟨_, rfl⟩
            rw [← hs] at g1 g2 hz
            have hwi := hbi.size
            have hw5 := hb5'.size
            have K1 := Kept.cell (B := wr.heap.size) g1 (by omega)
            have K2 := Kept.cell (B := wr.heap.size) g2 (by omega)
            have K3 := Kept.cell (B := wr.heap.size) g3 (by omega)
            have hss : ((lowS s).toList == (lowS s).toList) = true := by simp
            have h0n : 0 ≤ (n : Int) := by omega
            clear hcx hcl hs g1 g2 g3
            go_wp2_with fail
            refine wp_region_kept (by kernel_rfl) (by kernel_rfl) ?_
            repeat (quiet_step (first
              | (go_at_call 17; exact Calls.kept_of (refLower_any _ _ (by assumption)) (Nat.le_refl _))))
            refine wpQuiet_nil ?_
            intro _ hw'
            obtain ⟨kk, rfl⟩ := hw'
            have hb8 := hbi.trans (kk.below.mono hbi.size)
            go_wp2
            go_roundw
            case rel => exact ⟨n + 1, by omega, by go_num, hb8⟩
            case measure => simp [intOf]; omega
          · obtain rfl : n = l.length := by omega
            have hbo := hb5'.trans (hbi.mono hb5'.size)
            clear hlt2
            go_wp2
            go_roundw
            case rel => exact ⟨k + 1, by omega, by go_num, hbo⟩
            case measure => simp [intOf]; omega
      · have hi1 : ¬ (k : Int) + 1 < (L.length : Int) := by omega
        have hi2 : (((k : Int) + 1) == (L.length : Int)) = true := by rw [beq_iff_eq]; omega
        have hee : e = b.length := q10 (by omega)
        have hee2 : ((e : Int) == (b.length : Int)) = true := by rw [beq_iff_eq]; omega
        clear q9 q10 hc4
        go_wp2_with fail
        refine (sameL_any _ _ _ _ _ HX4.out HS34.out).mono ?_
        rintro e' w5 ⟨he, hm5⟩
        rw [dec_self'] at he
        subst he
        have hb5 := below_drawn (Below.refl w4.heap.size w4) hm5
        have hb5' := hb4'.trans (hb5.mono hb4'.size)
        have f1 := (hb5.cell (p := ⟨bn, offn + k, none⟩) (by have := hb4'.size; show bn < w4.heap.size; omega)).trans e1
        have f2 := (hb5.cell (p := ⟨bp, offp + k, none⟩) (by have := hb4'.size; show bp < w4.heap.size; omega)).trans e2
        have HX5 := Lib.hid (HX4.out.mono hb5 (Nat.le_refl _))
        have HS15 := Lib.hid (HS14.out.mono hb5 (Nat.le_refl _))
        obtain ⟨ax, cx, hvx, x2, x3, x4, x5⟩ := HX5.out
        injection hvx with hv1 hv2 hv3
        subst hv1 hv3
        have HXc5 := Lib.hid x5
        clear x4 x5 hv2
        obtain ⟨al, cl, hvl, l2, l3, l4, l5⟩ := HS15.out
        injection hvl with hv1 hv2 hv3
        subst hv1 hv3
        have HLc5 := Lib.hid l5
        clear l4 l5 hv2 hm5 hb5 HX4 HS14 HS34 HXc HL1
        go_wp2
        go_loopw [14] (fun j wr => ∃ n : Nat, n ≤ l.length ∧ j = .int .i64 n ∧ Below w5.heap.size w5 wr) (fun j _ => l.length - (intOf j).toNat)
        case atStart => exact ⟨0, Nat.zero_le _, rfl, Below.refl _ _⟩
        case round =>
          obtain ⟨n, hn, rfl, hbi⟩ := hrel
          by_cases hlt2 : n < l.length
          · have hlt3 : (n : Int) < (l.length : Int) := by omega
            have hlne : l ≠ [] := by rintro rfl; simp at hlt2
            obtain ⟨bx, offx, rfl, hbx, hcx⟩ := HXc5.out (by simpa using hlne)
            obtain ⟨bl, offl, rfl, hbl2, hcl⟩ := HLc5.out hlne
            have g1 := (hbi.cell (p := ⟨bx, offx + n, none⟩) hbx).trans (hcx n (by simpa using hlt2))
            have g2 := (hbi.cell (p := ⟨bl, offl + n, none⟩) hbl2).trans (hcl n hlt2)
            have g3 := (hbi.cell (p := ⟨bn, offn + k, none⟩) (by have := hb5'.size; show bn < w5.heap.size; omega)).trans f1
            rw [getD_low l n hlt2] at g1
            have hz := HZ.out n hlt2
            obtain ⟨s, hs⟩ : ∃ s, s = l.getD n ByteArray.empty := ⟨_, rfl⟩
            rw [← hs] at g1 g2 hz
            have hwi := hbi.size
            have hw5 := hb5'.size
            have K1 := Kept.cell (B := wr.heap.size) g1 (by omega)
            have K2 := Kept.cell (B := wr.heap.size) g2 (by omega)
            have K3 := Kept.cell (B := wr.heap.size) g3 (by omega)
            have hss : ((lowS s).toList == (lowS s).toList) = true := by simp
            have h0n : 0 ≤ (n : Int) := by omega
            clear hcx hcl hs g1 g2 g3
            go_wp2_with fail
            refine wp_region_kept (by kernel_rfl) (by kernel_rfl) ?_
            repeat (quiet_step (first
              | (go_at_call 17; exact Calls.kept_of (refLower_any _ _ (by assumption)) (Nat.le_refl _))))
            refine wpQuiet_nil ?_
            intro _ hw'
            obtain ⟨kk, rfl⟩ := hw'
            have hb8 := hbi.trans (kk.below.mono hbi.size)
            go_wp2
            go_roundw
            case rel => exact ⟨n + 1, by omega, by go_num, hb8⟩
            case measure => simp [intOf]; omega
          · obtain rfl : n = l.length := by omega
            have hbo := hb5'.trans (hbi.mono hb5'.size)
            clear hlt2
            go_wp2
            go_roundw
            case rel => exact ⟨k + 1, by omega, by go_num, hbo⟩
            case measure => simp [intOf]; omega
    · obtain rfl : k = L.length := by omega
      have hbf := hb2'.trans (hbr.mono hb2'.size)
      clear hlt
      go_wp2_with fail
      refine (wires_any HD.out _).mono ?_
      rintro e w4 ⟨rfl, hb4⟩
      go_wp2
      go_ret
      exact ⟨rfl, hbf.trans (hb4.mono hbf.size)⟩
end Go.Proofs.Ytjhmjimfehanbaa.Wire
