/- The walk of SpansShare: views are the bytes. -/
import Derived.Test.YtbjdlfeipidlbaaSpanL
import Derived.ArgAppend
import Derived.BigRegion
namespace Go.Proofs.Ytbjdlfeipidlbaa.Span
open Go.RowKit Rec
set_option linter.unusedVariables false

theorem packL_part (L : List (List Int)) (k : Nat) (hk : k < L.length) (j : Nat) (hj : j < (L.getD k []).length) : (packL L).getD (2 + 2 * L.length + dat (L.take k) + j) 0 = (L.getD k []).getD j 0 := by
  have e : L.getD k [] = L[k] := by simp [List.getD, hk]
  have h1 : L = L.take k ++ L.getD k [] :: L.drop (k + 1) := by rw [e, List.getElem_cons_drop, List.take_append_drop]
  have h2 : L.flatten = (L.take k).flatten ++ (L.getD k [] ++ (L.drop (k + 1)).flatten) := by
    conv => lhs; rw [h1]
    simp
  have hl : ((L.length : Int) :: 0 :: hdr 0 L).length = 2 + 2 * L.length := by simp [hdr_length]; omega
  have hdf := dat_flatten (L.take k)
  unfold packL
  rw [h2]
  clear h1 h2 e
  generalize L.getD k [] = X at hj ⊢
  generalize (L.drop (k + 1)).flatten = Y
  generalize ((L.length : Int) :: 0 :: hdr 0 L) = Z at hl ⊢
  generalize (L.take k).flatten = W at hdf ⊢
  rw [← hl, ← hdf]
  simp only [List.getD]
  rw [List.getElem?_append_right (by omega), List.getElem?_append_right (by omega), show Z.length + W.length + j - Z.length - W.length = j by omega, List.getElem?_append_left hj]
theorem VRow.mono {w w' : World} {u v : Value} {P : List (Nat × Nat)} {B : Nat} (h : VRow w u v P) (hb : Below B w w') (hB : w.heap.size ≤ B) : VRow w' u v P := by
  obtain ⟨a, cap, U, h1, h2, h3, h4, h5⟩ := h
  refine ⟨a, cap, U, h1, h2, h3, h4, fun hne => ?_⟩
  obtain ⟨hb', ho, e, hlt, hc⟩ := h5 hne
  exact ⟨hb', ho, e, Nat.lt_of_lt_of_le hlt hb.size, fun i hi => (hb.cell (p := ⟨hb', ho + i, none⟩) (show hb' < B by omega)).trans (hc i hi)⟩
theorem row_holds {w : World} {x : Option Addr} {n c : Nat} {X : List Int} (h : Row .u8 w (.slice x n c) X) : ∀ b', x = some b' → ∀ j u, (vals X)[j]? = some u → w.cell? (b'.add j) = some u := by
  intro b' hb' j u hj
  obtain ⟨hj2, -⟩ := List.getElem?_eq_some_iff.1 hj
  rw [vals_length] at hj2
  obtain ⟨a, cap, e, -, -, -, g⟩ := h
  injection e with e1 e2 e3
  obtain ⟨b, off, e4, hlt, hc⟩ := g (by rintro rfl; simp at hj2)
  rw [← e1, hb'] at e4
  injection e4 with e4
  subst e4
  rw [vals_get _ _ hj2] at hj
  rw [Addr_add, ← hj]
  exact hc j hj2
theorem str_get (l : List Int) (h : ∀ i, 0 ≤ l.getD i 0 ∧ l.getD i 0 < 256) (i : Nat) (hi : i < (strOfNums l).size) : (((strOfNums l)[i]'hi).toNat : Int) = l.getD i 0 := by rw [← bs_getD, bs_strOfNums l h]
theorem grown_below {w w' : World} (h : w.grownBy w' none) : Below w.heap.size w w' := ⟨h.os, h.tape, h.output, h.size, fun k hk => h.block k hk (by simp)⟩
theorem owns_slice {w : World} {base : Nat} {e : TypeId} {size : Nat} {v : Value} {n : Nat} {xs : List Value} (h : w.ownsRow base e size v n xs) : ∃ a c, v = .slice a n c := by
  rcases h.2 with ⟨rfl, rfl⟩ | ⟨g, cap, cur, rfl, _⟩
  · exact ⟨none, 0, rfl⟩
  · exact ⟨_, _, rfl⟩

/-- The views are the records. -/
theorem VRow.qrow {w : World} {u bv : Value} {L : List (List Int)} (h : VRow w u bv (spL (2 + 2 * L.length) L)) (hb : Row .u8 w bv (packL L)) (hd : 2 + 2 * L.length + dat L ≤ 480) : QRow w u L := by
  obtain ⟨a, cap, U, h1, h2, h3, h4, h5⟩ := h
  rw [spL_length] at h1 h2 h4
  refine ⟨a, cap, U, h1, h2, h3, fun i hi => ?_, fun hne => ?_⟩
  · obtain ⟨x, hx, hx2⟩ := h4 i hi
    rw [spL_get _ _ _ hi] at hx hx2
    simp only [] at hx hx2
    have hdi := dat_get L i hi
    have hdt := dat_take_succ L i hi
    have hdl := dat_take_le L (i + 1)
    rw [hx]
    refine ⟨x, _, rfl, Nat.le_refl _, by omega, fun j hj => ?_, fun hne => ?_⟩
    · rw [← packL_part L i hi j hj]
      have := hb.bytes (2 + 2 * L.length + dat (L.take i) + j)
      exact WalkArith.wf_u8 (by omega)
    · obtain ⟨b, off, n, c, hv, rfl⟩ := hx2 (List.length_pos_iff.2 hne)
      obtain ⟨a2, c2, e, -, -, -, g⟩ := hb
      rw [hv] at e
      injection e with e1 e2 e3
      subst e1
      have hlen := packL_length L
      unfold szL at hlen
      obtain ⟨b', off', e, hlt, hc⟩ := g (by intro h0; rw [h0] at hlen; simp at hlen; omega)
      injection e with e
      injection e with e e' _
      subst e e'
      refine ⟨b, off + (2 + 2 * L.length + dat (L.take i)), rfl, hlt, fun j hj => ?_⟩
      rw [Nat.add_assoc, hc _ (by rw [hlen]; omega), packL_part L i hi j hj]
  · have := h5 (by intro h0; have := congrArg List.length h0; rw [spL_length] at this; simp at this; exact hne this)
    obtain ⟨hb, ho, e, hlt, hc⟩ := this
    rw [spL_length] at hc
    exact ⟨hb, ho, e, hlt, hc⟩

set_option maxRecDepth 100000 in
set_option maxHeartbeats 4000000 in
theorem spansShare_walk (D : Does) (v : Value) (L : List (List Int)) (q p : Int) (w : World) (hr : QRow w v L) :
    Calls Try.prog 6 #[v, .int .i64 q, .int .i64 p] w fun e w' => e = .returned (.bool true) ∧ Below w.heap.size w w' := by
  have HD := Lib.hid D
  have HR := Lib.hid hr
  have HF := Lib.hid (few_any v L w hr)
  obtain ⟨ad, cap, U0, rfl, -, -, -, -⟩ := hr
  by_cases hf : few6 L = true
  · have HPk := Lib.hid (HD.out.pack _ L w HR.out hf)
    unfold PWr at HPk
    rw [hf] at HF
    have hfo := few6_out hf
    have hL60 : (L.length : Int) ≤ 60 := by omega
    by_cases hz : szE L = 0
    · have hp : pckB L = packL L := by rw [pckB, if_pos hz]
      have hup := unp_pack L hz
      have hof := ofV_yes hup
      obtain ⟨z1, z2⟩ := few6_sz hz
      have hlen := packL_length L
      unfold szL at hlen z2
      rw [hp, hz] at HPk
      have HOF := Lib.hid hof
      have HLen := Lib.hid hlen
      have HZ := Lib.hid z2
      have hPL := spL_length (2 + 2 * L.length) L
      have HGet := Lib.hid (fun k h => spL_get (2 + 2 * L.length) L k h)
      have HVQ := Lib.hid (fun (w' : World) (u bv : Value) (h : VRow w' u bv (spL (2 + 2 * L.length) L)) (hb : Row .u8 w' bv (packL L)) => VRow.qrow h hb z2)
      have HPart := Lib.hid (fun k hk j hj => packL_part L k hk j hj)
      clear hp hup hof z1 z2 hlen hfo hf hz
      go_enter Try.func6, Try.ntmps6
      go_wp2_with fail
      refine HF.out.mono ?_
      rintro e w0 ⟨rfl, rfl⟩
      go_wp2_with fail
      refine HPk.out.mono ?_
      rintro e w1 ⟨u1, rfl, hb1, hr1⟩
      have HW1 := Lib.hid hr1
      clear HF HPk
      go_wp2_with fail
      refine (HD.out.views _ (packL L) _ HW1.out.1 (by rw [HLen.out]; have := HZ.out; omega)).mono ?_
      rintro e w2 ⟨u2, he, hb2, hv2⟩
      rw [HOF.out] at he hv2
      subst he
      have hb2' := hb1.trans (hb2.mono hb1.size)
      have HR2 := Lib.hid (HW1.out.1.mono hb2 (Nat.le_refl _))
      have HV2 := Lib.hid hv2
      clear hv2
      go_wp2_with fail
      refine (HD.out.of_ _ (packL L) _ HR2.out (by rw [HLen.out]; have := HZ.out; omega)).mono ?_
      rintro e w3 ⟨u3, he, hb3, hp3⟩
      rw [HOF.out] at he hp3
      subst he
      have hb3' := hb2'.trans (hb3.mono hb2'.size)
      have HR3 := Lib.hid (HR2.out.mono hb3 (Nat.le_refl _))
      have HP3 := Lib.hid hp3
      clear hp3 HOF
      have hvw := HV2.out.mono hb3 (Nat.le_refl _)
      have HQ3 := Lib.hid (HVQ.out _ _ _ hvw HR3.out)
      have HL3 := Lib.hid (HR.out.mono hb3' (Nat.le_refl _))
      have HV3 := Lib.hid hvw
      obtain ⟨av, kv, U, rfl, vq1, vq2, v1, v2⟩ := hvw
      obtain ⟨aS, ks, rfl, sq1, sq2, s1⟩ := HP3.out
      rw [hPL] at HQ3 HV3 HP3 v1 v2 ⊢
      have hPne : L ≠ [] → spL (2 + 2 * L.length) L ≠ [] := fun h e => h (by have := congrArg List.length e; rw [hPL] at this; exact List.eq_nil_of_length_eq_zero this)
      have V1 := Lib.hid v1
      have V2 := Lib.hid v2
      have S1 := Lib.hid s1
      have HPne := Lib.hid hPne
      have HB13 := Lib.hid (hb2.trans (hb3.mono hb2.size))
      clear v1 v2 s1 hPne hPL HV2 HR2 hb2 hb2' hb3 sq1 sq2 vq1 vq2
      have hsame := sameQ_any _ _ L L w3 HQ3.out HL3.out
      simp only [decide_true] at hsame
      have HSame := Lib.hid hsame
      clear hsame
      go_wp2_with fail
      refine HSame.out.mono ?_
      rintro e w4 ⟨rfl, hm4⟩
      have hb4 := below_drawn (Below.refl w3.heap.size w3) hm4
      have hb4' := hb3'.trans (hb4.mono hb3'.size)
      have hcase : (q < 0 ∨ (¬ q < 0 ∧ (L.length : Int) ≤ q)) ∨ ∃ k : Nat, q = k ∧ k < L.length := by
        by_cases h1 : q < 0
        · exact .inl (.inl h1)
        · by_cases h2 : (L.length : Int) ≤ q
          · exact .inl (.inr ⟨h1, h2⟩)
          · exact .inr ⟨q.toNat, by omega, by omega⟩
      rcases hcase with h | ⟨k, rfl, hk⟩
      · rcases h with h1 | ⟨h1, h2⟩
        · go_wp2_with fail
          refine (views_any HD.out _).mono ?_
          rintro e w5 ⟨rfl, hb5⟩
          go_wp2
          go_ret
          exact ⟨rfl, hb4'.trans (hb5.mono hb4'.size)⟩
        · go_wp2_with fail
          refine (views_any HD.out _).mono ?_
          rintro e w5 ⟨rfl, hb5⟩
          go_wp2
          go_ret
          exact ⟨rfl, hb4'.trans (hb5.mono hb4'.size)⟩
      · have hk1 : (k : Int) < (L.length : Int) := by omega
        have hk0 : (0 : Int) ≤ (k : Int) := by omega
        have hk2 : ¬ (k : Int) < 0 := by omega
        have hLne : L ≠ [] := by rintro rfl; simp at hk
        have hR4 := HR3.out.mono hb4 (Nat.le_refl _)
        obtain ⟨hb0, ho0, rfl, hhlt, hhc⟩ := V2.out (HPne.out hLne)
        obtain ⟨sb, so, rfl, hslt, hsc⟩ := S1.out (HPne.out hLne)
        have hc4 := (hb4.cell (p := ⟨hb0, ho0 + k, none⟩) hhlt).trans (hhc k hk)
        obtain ⟨x, hx, hx2⟩ := V1.out k hk
        have hg := HGet.out k hk
        rw [hg] at hx hx2
        simp only [] at hx hx2
        rw [hx] at hc4
        have hq4 := HQ3.out.mono hb4 (Nat.le_refl _)
        obtain ⟨a9, c9, U9, e9, -, -, g9, g9'⟩ := hq4
        obtain ⟨hb9, ho9, e99, -, hc9⟩ := g9' hLne
        injection e9 with e91 e92 e93
        rw [← e91] at e99
        injection e99 with e99
        injection e99 with e991 e992 _
        subst e991 e992
        have hUk : U9 k = .slice x (L.getD k []).length (L.getD k []).length := by
          have := hc9 k hk
          rw [hc4] at this
          injection this with this
          exact this.symm
        have hX4 := g9 k hk
        rw [hUk] at hX4
        have hnone : x = none → (L.getD k []).length = 0 ∧ (L.getD k []).length = 0 := by
          intro h
          by_cases h0 : 0 < (L.getD k []).length
          · obtain ⟨b', off', n', c', -, e'⟩ := hx2 h0
            rw [h] at e'; cases e'
          · omega
        have hdk := dat_get L k hk
        have hdt := dat_take_succ L k hk
        have hdl := dat_take_le L (k + 1)
        have hZ := HZ.out
        have hsk := hsc k (by rw [spL_length]; exact hk)
        rw [hg] at hsk
        simp only [] at hsk
        have s4 := (hb4.cell (p := ⟨sb, so + k * 2, none⟩) hslt).trans hsk.1
        have HPk := Lib.hid (HPart.out k hk)
        have HBd := Lib.hid HR3.out.bytes
        have hst := Row.string (P := Try.prog) hR4 22 9 5 Try.underlying22 Try.underlying5 Try.underlying9
        have hSs := strOfNums_size (packL L)
        have HSg := Lib.hid (str_get (packL L) HBd.out)
        rw [HLen.out] at hSs
        obtain ⟨S, hS⟩ : ∃ S, S = strOfNums (packL L) := ⟨_, rfl⟩
        rw [← hS] at hst hSs HSg
        have HSe := Lib.hid hS
        have hself : (S.toList == S.toList) = true := by simp
        obtain ⟨pos, hpos⟩ : ∃ pos, pos = 2 + 2 * L.length + dat (L.take k) := ⟨_, rfl⟩
        rw [← hpos] at hx2 s4 HPk
        obtain ⟨X, hX⟩ : ∃ X, X = L.getD k [] := ⟨_, rfl⟩
        rw [← hX] at hx2 hc4 hX4 hnone hdk hdt HPk
        have hpx : pos + X.length ≤ 2 + 2 * L.length + dat L := by omega
        have HPX := Lib.hid hpx
        have hn480 : (X.length : Int) ≤ 480 := by omega
        have HR4 := Lib.hid hR4
        have HX4 := Lib.hid hX4
        have HX2 := Lib.hid hx2
        have HW := Lib.hid HW1.out.2
        have HSS := Lib.hid hSs
        obtain ⟨i0, hi, hz0, hz1, hz2⟩ := info_parts infoB
        clear e91 e92 e93 hUk hc9 g9 g9' hX hS hdk hdt hdl hZ hg hx hhc hsc hsk hpos hX4 hx2 hR4 hpx HGet HVQ HPart V1 V2 S1 HPne HSame hSs
        have hb63 : X.length + 1 ≤ maxLen := maxLen_of (by omega)
        have hbby : (X.length + 1) * 1 ≤ 140737488355328 := by omega
        have HH := Lib.hid (row_holds (HX4.out.mono (below_made w4 (.cells #[.int .u8 77] 5)) (Nat.le_refl _)))
        go_wp2_with (at_builtin; refine wpList_append_grows _ rfl (.tmp 82) (.tmp 83) 22 rfl 5 i0 (.int .u8 0) 1 1 Try.underlying22 hi hz0 hz1 hz2 rfl (by decide) x X.length X.length (vals X) rfl hnone (by rw [vals_length, Nat.mul_one]) HH.out ⟨w4.heap.size, 0, none⟩ 1 1 [.int .u8 77] rfl rfl (news_one _ _ _ _) (oneCell_one _ _) (Nat.lt_succ_self _) hb63 hbby ?_)
        intro v' w5 hown' hgrow
        obtain ⟨am, cm, rfl⟩ := owns_slice hown'
        have hb45 := (below_made w4 (.cells #[.int .u8 77] 5)).trans ((grown_below hgrow).mono (by simp))
        have hb5 := hb4'.trans (hb45.mono hb4'.size)
        have hst5 := Row.string (P := Try.prog) (HR4.out.mono hb45 (Nat.le_refl _)) 22 9 5 Try.underlying22 Try.underlying5 Try.underlying9
        rw [← HSe.out] at hst5
        have hs34 := hb4.size
        have hs45 := hb45.size
        have hc5 := (hb45.cell (p := ⟨hb0, ho0 + k, none⟩) (show hb0 < w4.heap.size by omega)).trans hc4
        have s5 := (hb45.cell (p := ⟨sb, so + k * 2, none⟩) (show sb < w4.heap.size by omega)).trans s4
        have hcase : (p < 0 ∨ (¬ p < 0 ∧ (X.length : Int) ≤ p)) ∨ ∃ j : Nat, p = j ∧ j < X.length := by
          by_cases h1 : p < 0
          · exact .inl (.inl h1)
          · by_cases h2 : (X.length : Int) ≤ p
            · exact .inl (.inr ⟨h1, h2⟩)
            · exact .inr ⟨p.toNat, by omega, by omega⟩
        rcases hcase with h | ⟨j, rfl, hj⟩
        · rcases h with h1 | ⟨h1, h2⟩
          · go_wp2_with fail
            refine (views_any HD.out _).mono ?_
            rintro e w6 ⟨rfl, hb6⟩
            go_wp2
            go_ret
            exact ⟨rfl, hb5.trans (hb6.mono hb5.size)⟩
          · go_wp2_with fail
            refine (views_any HD.out _).mono ?_
            rintro e w6 ⟨rfl, hb6⟩
            go_wp2
            go_ret
            exact ⟨rfl, hb5.trans (hb6.mono hb5.size)⟩
        · have hj1 : (j : Int) < (X.length : Int) := by omega
          have hj0 : (0 : Int) ≤ (j : Int) := by omega
          have hj2 : ¬ (j : Int) < 0 := by omega
          obtain ⟨bb, off, n', c', hu1, rfl⟩ := HX2.out (by omega)
          subst hu1
          have hbx := HW1.out.1
          have hR5 := HR4.out.mono hb45 (Nat.le_refl _)
          obtain ⟨a2, c2, e2, -, -, -, g2⟩ := hR5
          injection e2 with e21 e22 e23
          have hpne : packL L ≠ [] := by intro h0; have := HLen.out; rw [h0] at this; simp at this; omega
          obtain ⟨b3, o3, e3, hlt3, hcB⟩ := g2 hpne
          rw [← e21] at e3
          injection e3 with e3
          injection e3 with e31 e32 _
          subst e31 e32
          obtain ⟨hBb, hfz⟩ := HW.out bb off n' c' rfl hpne
          obtain ⟨a4, c4', e4, -, -, -, g4⟩ := hbx
          injection e4 with e41 e42 e43
          obtain ⟨b5, o5, e5, hlt5, -⟩ := g4 hpne
          rw [← e41] at e5
          injection e5 with e5
          injection e5 with e51 e52 _
          subst e51 e52
          have hb15 := HB13.out.trans ((hb4.mono HB13.out.size).trans (hb45.mono (Nat.le_trans HB13.out.size hb4.size)))
          have hPX := HPX.out
          have hLn := HLen.out
          have hpl : pos + j < (packL L).length := by omega
          have hfz5 : w5.frozen? ⟨bb, off + pos + j, none⟩ = false := by
            have := (hb15.frozen (p := ⟨bb, off + (pos + j), none⟩) hlt5).trans (hfz (pos + j) hpl)
            rw [Nat.add_assoc]; exact this
          have hy5 : w5.cell? ⟨bb, off + pos + j, none⟩ = some (.int .u8 ((packL L).getD (pos + j) 0)) := by
            have := hcB (pos + j) hpl
            rw [Nat.add_assoc]; exact this
          have hyb := HBd.out (pos + j)
          obtain ⟨y, hy⟩ := Int.eq_ofNat_of_zero_le hyb.1
          rw [hy] at hy5 hyb
          have hy256 : (y : Int) < 256 := by omega
          have HCB := Lib.hid hcB
          have HY := Lib.hid hy
          have HN := Lib.hid e22
          have hnN : (n' : Int) ≤ 480 := by have := HZ.out; omega
          have HBB := Lib.hid hBb
          clear hy hyb hcB hfz g2 g4 e21 e22 e23 e41 e42 e43 hst hPX hLn hpl hb15 hlt5 hBb hpne
          go_wp2_with fail
          go_region
          obtain ⟨w6, hw6⟩ : ∃ w6, w6 = w5.setCell ⟨bb, off + pos + j, none⟩ (.int .u8 (((y : Int) + 1) % 256)) := ⟨_, rfl⟩
          have hb6 : Below w.heap.size w w6 := by rw [hw6]; exact hb5.setCell (show w.heap.size ≤ bb from HBB.out) _
          have hsame6 : w6.cell? ⟨bb, off + (pos + j), none⟩ = some (.int .u8 (((y : Int) + 1) % 256)) := by
            rw [hw6, ← Nat.add_assoc]; exact World.cell?_setCell_same _ _ _ hy5
          have hoth6 : ∀ i, i ≠ pos + j → i < (packL L).length → w6.cell? ⟨bb, off + i, none⟩ = some (.int .u8 ((packL L).getD i 0)) := fun i hi hlt => by
            rw [hw6, World.cell?_setCell_other _ _ _ _ (by intro h; injection h with _ h2 _; omega)]
            exact HCB.out i hlt
          have hs6 : w6.cell? ⟨sb, so + k * 2, none⟩ = some (.int .i64 (pos : Int)) := by
            rw [hw6, World.cell?_setCell_other _ _ _ _ (by intro h; rw [← h, hy5] at s5; cases s5)]
            exact s5
          have HS6 := Lib.hid hsame6
          have HO6 := Lib.hid hoth6
          have HP6 := Lib.hid hs6
          have hsb6 : sb < w6.heap.size := by have := hw6; rw [this]; simp [World.setCell]; omega
          have hbb6 : bb < w6.heap.size := by have := hw6; rw [this]; simp [World.setCell]; have := HB13.out.size; omega
          rw [← hw6]
          clear hw6 hsame6 hoth6 hs6 hy5 s5 hc5 hfz5 hc4 s4 hhlt hslt hlt3 hb5
          obtain ⟨pj, hpj⟩ : ∃ pj, pj = pos + j := ⟨_, rfl⟩
          rw [← hpj] at HS6 HO6 HY
          have hpw : IntKind.i64.wrap ((pos : Int) + j) = (pj : Int) := by
            have := HPX.out; have := HZ.out
            exact (wrap_id (by omega) (by omega)).trans (by omega)
          clear hpj
          go_wp2
          go_loopw [15] (fun i wr => ∃ m : Nat, m ≤ n' ∧ i = .int .i64 m ∧ Hid (∃ q, wr = w6.drewN q)) (fun i _ => n' - (intOf i).toNat)
          case atStart => exact ⟨0, Nat.zero_le _, rfl, 1, rfl⟩
          case round =>
            obtain ⟨m, hm, rfl, HWr⟩ := hrel
            by_cases hlt : m < n'
            · have hlt1 : (m : Int) < (n' : Int) := by omega
              have hlt0 : (0 : Int) ≤ (m : Int) := by omega
              have hbel := below_drawn (Below.refl w6.heap.size w6) HWr.out
              have r1 := (hbel.cell (p := ⟨sb, so + k * 2, none⟩) hsb6).trans HP6.out
              have hmN : m < (packL L).length := by have := HN.out; omega
              have hmS : m < S.size := by have := HSS.out; have := HLen.out; omega
              have hmS1 : (m : Int) < (S.size : Int) := by omega
              have hg := HSg.out m hmS
              have hbd := HBd.out m
              obtain ⟨c, hc⟩ := Int.eq_ofNat_of_zero_le hbd.1
              rw [hc] at hg
              have hSm : (S[m]'hmS).toNat = c := by omega
              have hc256 : (c : Int) < 256 := by omega
              by_cases hmp : m = pj
              · have h6 : w6.cell? ⟨bb, off + m, none⟩ = some (.int .u8 (((y : Int) + 1) % 256)) := by rw [hmp]; exact HS6.out
                have r2 := (hbel.cell (p := ⟨bb, off + m, none⟩) hbb6).trans h6
                have hyc : (y : Int) = c := by rw [← hc, ← HY.out, hmp]
                obtain ⟨y2, hy2⟩ : ∃ y2, y2 = ((y : Int) + 1) % 256 := ⟨_, rfl⟩
                rw [← hy2] at r2
                have hne : (y2 != (c : Int)) = true := by rw [bne_iff_ne]; omega
                have hE : ((m : Int) == (pj : Int)) = true := by simp [hmp]
                have hb0 : 0 ≤ y2 ∧ y2 < 256 := by omega
                clear hbel hmN hg hbd hc hmp hyc hy2 h6
                go_wp2_with fail
                go_quiet (fail)
                go_wp2
                go_roundw
                case rel => exact ⟨m + 1, by omega, by go_num, drewN_more HWr.out _⟩
                case measure => simp [intOf]; omega
              · have r2 := (hbel.cell (p := ⟨bb, off + m, none⟩) hbb6).trans (HO6.out m hmp hmN)
                rw [hc] at r2
                have hne : ((c : Int) != (c : Int)) = false := by simp
                have hE : ((m : Int) == (pj : Int)) = false := by rw [beq_eq_false_iff_ne]; omega
                clear hbel hmN hg hbd hc hmp
                go_wp2_with fail
                go_quiet (fail)
                go_wp2
                go_roundw
                case rel => exact ⟨m + 1, by omega, by go_num, drewN_more HWr.out _⟩
                case measure => simp [intOf]; omega
            · obtain rfl : m = n' := by omega
              have hb7 := below_drawn hb6 HWr.out
              go_wp2_with fail
              refine (views_any HD.out _).mono ?_
              rintro e w8 ⟨rfl, hb8⟩
              go_wp2
              go_ret
              exact ⟨rfl, hb7.trans (hb8.mono hb7.size)⟩
    · have hp : pckB L = [] := by rw [pckB, if_neg hz]
      rw [hp] at HPk
      have hof : ofV [] = ([], 3) := by rw [ofV, unp_short (by decide)]; rfl
      have hz2 : (szE L != 0) = true := by simpa using hz
      generalize szE L = c at HPk hz2
      have HOF := Lib.hid hof
      clear hp hz hfo hof
      go_enter Try.func6, Try.ntmps6
      go_wp2_with fail
      refine HF.out.mono ?_
      rintro e w0 ⟨rfl, rfl⟩
      go_wp2_with fail
      refine HPk.out.mono ?_
      rintro e w1 ⟨u1, rfl, hb1, hr1⟩
      have HR1 := Lib.hid hr1.1
      clear hr1
      go_wp2_with fail
      refine (HD.out.views _ [] _ HR1.out (by decide)).mono ?_
      rintro e w2 ⟨u2, he, hb2, -⟩
      rw [HOF.out] at he
      subst he
      have HR2 := Lib.hid (HR1.out.mono hb2 (Nat.le_refl _))
      have hb2' := hb1.trans (hb2.mono hb1.size)
      go_wp2_with fail
      refine (HD.out.of_ _ [] _ HR2.out (by decide)).mono ?_
      rintro e w3 ⟨u3, he, hb3, -⟩
      rw [HOF.out] at he
      subst he
      have hb3' := hb2'.trans (hb3.mono hb2'.size)
      go_wp2_with fail
      refine (views_any HD.out _).mono ?_
      rintro e w4 ⟨rfl, hb4⟩
      go_wp2
      go_ret
      exact ⟨rfl, hb3'.trans (hb4.mono hb3'.size)⟩
  · have hf' : few6 L = false := by simpa using hf
    rw [hf'] at HF
    clear hf hf'
    go_enter Try.func6, Try.ntmps6
    go_wp2_with fail
    refine HF.out.mono ?_
    rintro e w0 ⟨rfl, rfl⟩
    go_wp2_with fail
    refine (views_any HD.out _).mono ?_
    rintro e w4 ⟨rfl, hb4⟩
    go_wp2
    go_ret
    exact ⟨rfl, hb4⟩
end Go.Proofs.Ytbjdlfeipidlbaa.Span
