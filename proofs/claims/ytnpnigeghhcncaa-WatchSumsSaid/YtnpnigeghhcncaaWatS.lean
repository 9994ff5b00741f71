/- The walk of WatchSums. -/
import Derived.Test.YtnpnigeghhcncaaWatJ
import Derived.Test.YtnpnigeghhcncaaKit4
import Derived.Deep.Quiet
namespace Go.Proofs.Ytnpnigeghhcncaa.Wat
open Go.RowKit Num Arn
set_option linter.unusedVariables false

theorem good_at {x : List Int} {p : Nat} {L : List Rn} (h : Good x p L) : ∀ i, i < L.length → ∃ E m q, L.getD i (0, 0, 0) = (E, m, q) ∧ Good x E (L.take i) ∧ 1 ≤ m ∧ (∀ j, j < m → x.getD (E + j) 0 = q) ∧ E + m ≤ p ∧ (∀ r, (L.take i).getLast? = some r → r.2.2 ≠ q) := by
  induction h with
  | nil => intro i hi; simp at hi
  | snoc h1 h2 h3 h4 ih =>
    rename_i p n L k
    intro i hi
    rw [List.length_append, List.length_singleton] at hi
    by_cases e : i < L.length
    · obtain ⟨E, m, q, a1, a2, a3, a4, a5, a6⟩ := ih i e
      refine ⟨E, m, q, ?_, ?_, a3, a4, by omega, ?_⟩
      · rw [← a1]; simp [List.getD, List.getElem?_append_left e]
      · rw [List.take_append_of_le_length (by omega)]; exact a2
      · rw [List.take_append_of_le_length (by omega)]; exact a6
    · obtain rfl : i = L.length := by omega
      refine ⟨p, n, k, by simp [List.getD], ?_, h2, h3, Nat.le_refl _, ?_⟩
      · rw [List.take_append_of_le_length (Nat.le_refl _), List.take_length]; exact h1
      · rw [List.take_append_of_le_length (Nat.le_refl _), List.take_length]; exact h4
theorem good_end {x : List Int} {p : Nat} {L : List Rn} (h : Good x p L) : p = (L.map fun r => r.2.1).sum := by
  induction h with
  | nil => rfl
  | snoc h1 h2 h3 h4 ih => simp; exact ih
theorem good_next {x : List Int} {L : List Rn} {i E m : Nat} {q : Int} (hi : i < L.length) (hL : L.getD i (0, 0, 0) = (E, m, q)) (h1 : Good x E (L.take i)) (h2 : 1 ≤ m) (h3 : ∀ j, j < m → x.getD (E + j) 0 = q) (h4 : ∀ r, (L.take i).getLast? = some r → r.2.2 ≠ q) : Good x (E + m) (L.take (i + 1)) := by
  have e : L[i] = (E, m, q) := by rw [← hL]; simp [List.getD, hi]
  rw [List.take_succ_eq_append_getElem hi, e]
  exact .snoc h1 h2 h3 h4
theorem last_take {L : List Rn} {i : Nat} (h0 : 0 < i) (hi : i ≤ L.length) : (L.take i).getLast? = some (L.getD (i - 1) (0, 0, 0)) := by
  obtain ⟨j, rfl⟩ : ∃ j, i = j + 1 := ⟨i - 1, by omega⟩
  rw [List.take_succ_eq_append_getElem (by omega), List.getLast?_concat]
  simp [List.getD, show j < L.length by omega]
theorem knd_run {x : List Int} {E m : Nat} {q : Int} (h1 : 1 ≤ m) (h2 : ∀ j, j < m → x.getD (E + j) 0 = q) (h3 : E + m ≤ x.length) : kndA x E m = q := by
  have e : (x.drop E).take m = List.replicate m q := by
    refine List.ext_getElem? fun j => ?_
    rw [List.getElem?_replicate, List.getElem?_take]
    split
    · rename_i hj
      have := h2 j hj
      rw [List.getElem?_drop]
      have hl : E + j < x.length := by omega
      simp [List.getD, hl] at this ⊢
      exact this
    · rfl
  rw [kndA, if_pos (fitB_of h3), Int.toNat_natCast, Int.toNat_natCast, e, kndS_rep _ _ (by omega)]
theorem sumR_take {L : List Rn} {i E m : Nat} {q : Int} (hi : i < L.length) (hL : L.getD i (0, 0, 0) = (E, m, q)) (k : Int) : sumR (L.take (i + 1)) k = sumR (L.take i) k + (if q = k then m else 0) := by
  have e : L[i] = (E, m, q) := by rw [← hL]; simp [List.getD, hi]
  rw [List.take_succ_eq_append_getElem hi, e, sumR_snoc]
theorem sumR_le {x : List Int} {p : Nat} {L : List Rn} (h : Good x p L) (hp : p ≤ x.length) (k : Int) : sumR L k ≤ x.length := by
  rw [sumR_good h hp]
  exact Nat.le_trans List.count_le_length (by rw [List.length_take]; omega)
/-- How many bytes are of the first j kinds. -/
def allR (x : List Int) : Nat → Nat
  | 0 => 0
  | j + 1 => allR x j + cntA x (j : Int)
theorem allR_cons (a : Int) (x : List Int) (j : Nat) : allR (a :: x) j = allR x j + (if 0 ≤ a ∧ a < j then 1 else 0) := by
  induction j with
  | zero => simp [allR]; try omega
  | succ j ih =>
    unfold allR cntA
    rw [ih, List.count_cons]
    simp only [beq_iff_eq]
    split <;> split <;> split <;> omega
theorem allR_nine {x : List Int} (h : IsKinds x) : allR x 9 = x.length ∧ cntA x 9 = 0 := by
  have h2 : ∀ y ∈ x, 0 ≤ y ∧ y ≤ 8 := fun y hy => h.mem hy
  clear h
  induction x with
  | nil => exact ⟨rfl, rfl⟩
  | cons a x ih =>
    obtain ⟨h3, h4⟩ := ih (fun y hy => h2 y (List.mem_cons_of_mem _ hy))
    have ha := h2 a List.mem_cons_self
    refine ⟨by rw [allR_cons, h3, if_pos (by omega), List.length_cons], ?_⟩
    unfold cntA at h4 ⊢
    rw [List.count_cons, h4, if_neg (by simp; omega)]
theorem allR_le (x : List Int) (h : IsKinds x) (j : Nat) (hj : j ≤ 9) : allR x j ≤ x.length := by
  have key : ∀ d, j + d ≤ 9 → allR x j ≤ allR x (j + d) := by
    intro d
    induction d with
    | zero => intro _; exact Nat.le_refl _
    | succ d ih => intro hd; exact Nat.le_trans (ih (by omega)) (Nat.le_add_right _ _)
  have := key (9 - j) (by omega)
  rw [show j + (9 - j) = 9 by omega, (allR_nine h).1] at this
  exact this
/-- A row of numbers in a block of its own. -/
def valsI (S : List Int) : List Value := S.map (Value.int .i64)
theorem valsI_get (S : List Int) (j : Nat) (h : j < S.length) : (valsI S)[j]? = some (.int .i64 (S.getD j 0)) := by simp [valsI, h, List.getD]
theorem valsI_set (S : List Int) (i : Nat) (y : Int) : (valsI S).toArray.setIfInBounds i (.int .i64 y) = (valsI (S.set i y)).toArray := by simp [valsI, List.map_set]

set_option maxRecDepth 100000 in
set_option maxHeartbeats 16000000 in
theorem watchSums_walk (n : Int) (v : Value) (L : List Act) (w : World) (hr : ActRow w v L) :
    Calls Try.prog 5 #[.int .i64 n, v] w fun e w' => e = .returned (.bool true) ∧ Below w.heap.size w w' := by
  have HW := Lib.hid (watchesW w)
  obtain ⟨ad, cap, U, rfl, q2, q3, q4, q5⟩ := hr
  have HC := Lib.hid q5
  have HS := Lib.hid q4
  clear q4 q5
  by_cases hn : 1024 < n ∧ n ≤ 1048576
  · obtain ⟨n1, n2⟩ := hn
    go_enter Try.func5, Try.ntmps5
    go_wp2_with fail
    refine (HW.out _ (Below.refl _ _)).mono ?_
    rintro e w1 ⟨rfl, hb⟩
    go_wp2
    go_ret
    exact ⟨rfl, hb⟩
  have hn1 : (decide (1024 < n) && decide (n ≤ 1048576)) = false := by
    rw [Bool.and_eq_false_iff, decide_eq_false_iff_not, decide_eq_false_iff_not]; omega
  by_cases hL : 60 < L.length
  · have hL1 : (60 : Int) < (L.length : Int) := by omega
    by_cases h1 : 1024 < n
    · have h2 : ¬ n ≤ 1048576 := by omega
      clear hn hn1
      go_enter Try.func5, Try.ntmps5
      go_wp2_with fail
      refine (HW.out _ (Below.refl _ _)).mono ?_
      rintro e w1 ⟨rfl, hb⟩
      go_wp2
      go_ret
      exact ⟨rfl, hb⟩
    · clear hn hn1
      go_enter Try.func5, Try.ntmps5
      go_wp2_with fail
      refine (HW.out _ (Below.refl _ _)).mono ?_
      rintro e w1 ⟨rfl, hb⟩
      go_wp2
      go_ret
      exact ⟨rfl, hb⟩
  have hL0 : ¬ (60 : Int) < (L.length : Int) := by omega
  have hL0' : decide ((60 : Int) < (L.length : Int)) = false := by rw [decide_eq_false_iff_not]; omega
  by_cases hm : mayW n = true
  · obtain ⟨m1, m2, m3⟩ := mayW_bd hm
    obtain ⟨N, rfl⟩ : ∃ N : Nat, n = N := ⟨n.toNat, by omega⟩
    have hN : N ≤ 1024 := by omega
    have HN1 := Lib.hid (new_yes N w hm)
    have hn3 : ¬ (1024 : Int) < (N : Int) := by omega
    clear hn hn1 m1 m2 m3 hm
    go_enter Try.func5, Try.ntmps5
    go_wp2_with fail
    refine HN1.out.mono ?_
    rintro e w1 ⟨v1, h, rfl, ha1, hb1, hk⟩
    obtain rfl := ha1.1
    have HK := Lib.hid hk
    have HD1 : Hid (MidW w w1 h (List.replicate N 0) 0 0) := ⟨ha1, hb1⟩
    clear ha1 hb1 hk HN1
    go_wp2
    go_loopw [6] (fun i wr => ∃ (j : Nat) (x : List Int), j ≤ L.length ∧ i = .int .i64 j ∧ Hid (x.length = N) ∧ Hid (MidW w wr h x 0 0)) (fun i _ => L.length - (intOf i).toNat)
    case atStart => exact ⟨0, _, Nat.zero_le _, rfl, List.length_replicate, HD1.out⟩
    case round =>
      obtain ⟨j, x, hj, rfl, HX, HD⟩ := hrel
      by_cases hlt : j < L.length
      · have hlt1 : (j : Int) < (L.length : Int) := by omega
        have hlt0 : (0 : Int) ≤ (j : Int) := by omega
        obtain ⟨b, off, rfl, hlb, hc⟩ := HC.out (by rintro rfl; simp at hlt)
        obtain ⟨hs1, hs2, -, hx64, -⟩ := HS.out j hlt
        have hcell : ∀ i u, (L.getD j Act.zero).cells[i]? = some u → w.cell? ⟨b, off + j * 4 + i, none⟩ = some u := fun i u hi => hc j hlt i u (by rw [hs2]; exact hi)
        obtain ⟨X, hX⟩ : ∃ X, X = L.getD j Act.zero := ⟨_, rfl⟩
        rw [← hX] at hcell hx64
        obtain ⟨yk, ya, ym, yo⟩ := X
        have D1 := Lib.hid (hcell 1 _ rfl)
        have D2 := Lib.hid (hcell 2 _ rfl)
        have D3 := Lib.hid (hcell 3 _ rfl)
        simp only [] at hx64 D1 D2 D3
        have hm2 := HD.out
        have d1 := (hm2.bel.cell (p := ⟨b, off + j * 4 + 1, none⟩) hlb).trans D1.out
        have d2 := (hm2.bel.cell (p := ⟨b, off + j * 4 + 2, none⟩) hlb).trans D2.out
        have d3 := (hm2.bel.cell (p := ⟨b, off + j * 4 + 3, none⟩) hlb).trans D3.out
        have HP := Lib.hid (fun (W : World) (hm : MidW w W h x 0 0) => hm.mark HK.out ya ym yo hx64)
        have HX2 : Hid ((mrkA x ya ym yo).1.length = N) := (mrkA_length x ya ym yo).trans HX.out
        obtain ⟨r, hr⟩ : ∃ r, r = mrkA x ya ym yo := ⟨_, rfl⟩
        rw [← hr] at HP HX2
        clear hc hs1 hs2 hcell hX hr
        go_wp2_with fail
        go_region_held3 (fun w' => w'.cell? ⟨b, off + j * 4 + 1, none⟩ = some (.int .i64 ya) ∧ w'.cell? ⟨b, off + j * 4 + 2, none⟩ = some (.int .i64 ym) ∧ w'.cell? ⟨b, off + j * 4 + 3, none⟩ = some (.int .i64 yo)) (first | exact ⟨d1, d2, d3⟩ | go_keep) ((first | (go_at_call 17; refine (HP.out _ (by first | exact hm2 | exact hm2.below (Below.refl _ _).drew)).mono ?_; rintro e w3 ⟨rfl, hm3⟩; replace d1 := (hm3.bel.cell (p := ⟨b, off + j * 4 + 1, none⟩) hlb).trans D1.out; replace d2 := (hm3.bel.cell (p := ⟨b, off + j * 4 + 2, none⟩) hlb).trans D2.out; replace d3 := (hm3.bel.cell (p := ⟨b, off + j * 4 + 3, none⟩) hlb).trans D3.out)))
        have HD3 := Lib.hid hm3
        clear hm2 hm3 d1 d2 d3 HP
        go_wp2
        go_roundw
        case rel => exact ⟨j + 1, r.1, by omega, by go_num, HX2.out, HD3.out⟩
        case measure => simp [intOf]; omega
      · obtain rfl : j = L.length := by omega
        have HRn := Lib.hid (runsC_any h _ x 0 0 wr HD.out.wa)
        have hxl := HX.out
        have HKi := Lib.hid HD.out.wa.2.2.2.2
        have HGd := Lib.hid (rl_good x x.length)
        have hRl := rl_length x x.length
        have HRl : Hid (∀ k, sumR (rl x x.length) k = cntA x k) := fun k => sumR_all x k
        have HRk := Lib.hid (rl_kinds HKi.out (rl_good x x.length))
        obtain ⟨R, hR⟩ : ∃ R, R = rl x x.length := ⟨_, rfl⟩
        rw [← hR] at HRn HGd hRl HRl HRk
        clear hR hlt
        go_wp2_with fail
        refine HRn.out.mono ?_
        rintro e w5 ⟨u, rfl, hrow, hb5⟩
        have HD5 := Lib.hid (HD.out.below hb5)
        obtain ⟨ra, rc, rfl, rq1, rq2, rq3⟩ := hrow
        have HRc := Lib.hid rq3
        clear hb5 rq3 HRn
        go_wp2
        go_loopw [8, 10] (fun e i wr => ∃ (j E : Nat) (S : List Int), j ≤ R.length ∧ e = .int .i64 (E : Int) ∧ i = .int .i64 (j : Int) ∧ Hid (Good x E (R.take j)) ∧ Hid (S.length = 9 ∧ ∀ k, k < 9 → S.getD k 0 = (sumR (R.take j) (k : Int) : Int)) ∧ Hid (Below w5.heap.size w5 wr) ∧ Hid (wr.heap[w5.heap.size]? = some (.cells (valsI S).toArray 3 (0, 0)))) (fun _ i _ => R.length - (intOf i).toNat)
        case atStart => exact ⟨0, 0, List.replicate 9 0, Nat.zero_le _, rfl, rfl, .nil, ⟨rfl, fun k hk => by rw [rep_get _ _ _ hk]; rfl⟩, below_made _ _, heap_alloc_new _ _⟩
        case round =>
          obtain ⟨j, E, S, hj, rfl, rfl, HG, HSm, HB, HSb⟩ := hrel
          by_cases hlt : j < R.length
          · have hlt1 : (j : Int) < (R.length : Int) := by omega
            have hlt0 : (0 : Int) ≤ (j : Int) := by omega
            obtain ⟨E', m, q, hRj, hg1, hm1, hmx, hEm, hlast⟩ := good_at HGd.out j hlt
            obtain rfl : E' = E := (good_end hg1).trans (good_end HG.out).symm
            have hRmem : (E', m, q) ∈ R := by
              have : R[j] = (E', m, q) := by rw [← hRj]; simp [List.getD, hlt]
              rw [← this]; exact List.getElem_mem hlt
            obtain ⟨hq0, hq8⟩ := HRk.out _ hRmem
            simp only [] at hq0 hq8
            obtain ⟨qn, rfl⟩ := Int.eq_ofNat_of_zero_le hq0
            have hqn : qn < 9 := by omega
            have hEmx : E' + m ≤ x.length := hEm
            obtain ⟨rb, ro, rfl, hrb, hcc⟩ := HRc.out (by rintro rfl; simp at hlt)
            have c0 : wr.cell? ⟨rb, ro + j * 3, none⟩ = some (.int .i64 (E' : Int)) := (HB.out.cell (p := ⟨rb, ro + j * 3, none⟩) hrb).trans (hcc j hlt 0 _ (by rw [hRj]; rfl))
            have c1 := (HB.out.cell (p := ⟨rb, ro + j * 3 + 1, none⟩) hrb).trans (hcc j hlt 1 (.int .i64 (m : Int)) (by rw [hRj]; rfl))
            have c2 := (HB.out.cell (p := ⟨rb, ro + j * 3 + 2, none⟩) hrb).trans (hcc j hlt 2 (.int .i64 (qn : Int)) (by rw [hRj]; rfl))
            have hG2 := good_next hlt hRj hg1 hm1 hmx hlast
            have HG2 := Lib.hid hG2
            have hkn := knd_run hm1 hmx hEmx
            have hst := fun k => sumR_take hlt hRj k
            obtain ⟨y, hy⟩ : ∃ y : Int, y = S.getD qn 0 + m := ⟨_, rfl⟩
            have hsle : sumR (R.take j) (qn : Int) ≤ x.length := sumR_le hg1 (by omega) _
            have hyb : -9223372036854775808 ≤ S.getD qn 0 + (m : Int) ∧ S.getD qn 0 + (m : Int) ≤ 9223372036854775807 := by
              rw [HSm.out.2 qn hqn]
              omega
            have HS2 : Hid ((S.set qn y).length = 9 ∧ ∀ k, k < 9 → (S.set qn y).getD k 0 = (sumR (R.take (j + 1)) (k : Int) : Int)) := by
              obtain ⟨s1, s2⟩ := HSm.out
              refine ⟨by rw [List.length_set]; exact s1, fun k hk => ?_⟩
              rw [hst]
              have hg : (S.set qn y).getD k 0 = if qn = k then y else S.getD k 0 := by
                simp only [List.getD, List.getElem?_set]
                split
                · rename_i e
                  subst e
                  rw [if_pos (by omega)]
                  rfl
                · rfl
              rw [hg, s2 k hk]
              by_cases e : qn = k
              · subst e
                rw [if_pos rfl, if_pos rfl, hy, s2 qn hqn]
                omega
              · rw [if_neg e, if_neg (by omega)]
                omega
            have hyw : IntKind.i64.wrap (S.getD qn 0 + (m : Int)) = y ∧ wrap64 (S.getD qn 0 + (m : Int)) = y := ⟨(wrap_id hyb.1 hyb.2).trans hy.symm, (IntWalk.wrap64_in _ hyb).trans hy.symm⟩
            have hSl := HSm.out.1
            have hsc : (valsI S)[qn]? = some (.int .i64 (S.getD qn 0)) := valsI_get S qn (by omega)
            obtain ⟨z, hz⟩ : ∃ z, z = S.getD qn 0 := ⟨_, rfl⟩
            rw [← hz] at hyw hsc
            have HYW := Lib.hid hyw
            have HSc := Lib.hid hsc
            have hbal := HB.out.alloc HB.out.size (.cells #[.int .i64 (E' : Int), .int .i64 (m : Int), .int .i64 (qn : Int)] 48)
            have hsb1 := (Below.heap_alloc wr (.cells #[.int .i64 (E' : Int), .int .i64 (m : Int), .int .i64 (qn : Int)] 48) _ (lt_of_block HSb.out)).trans HSb.out
            have hbx := heap_alloc_new wr (.cells #[.int .i64 (E' : Int), .int .i64 (m : Int), .int .i64 (qn : Int)] 48)
            have hlsb := lt_of_block HSb.out
            have hee : ((E' : Int) != (E' : Int)) = false := by simp
            have hqq : ((qn : Int) != (qn : Int)) = false := by simp
            have t1 : decide ((m : Int) < 1) = false := by rw [decide_eq_false_iff_not]; omega
            have t2 : decide ((qn : Int) < 0) = false := by rw [decide_eq_false_iff_not]; omega
            have t3 : decide ((8 : Int) < (qn : Int)) = false := by rw [decide_eq_false_iff_not]; omega
            clear hg1 hmx hst hsle hyb hsc hSl hy hz hyw hG2 hRmem HG
            by_cases hj0 : j = 0
            · have t4 : decide ((0 : Int) < (j : Int)) = false := by rw [decide_eq_false_iff_not]; omega
              have t4' : decide (0 < j) = false := by rw [decide_eq_false_iff_not]; omega
              clear hlast hj0
              go_wp2_with fail
              obtain ⟨W1, hW1⟩ : ∃ W1, W1 = wr.alloc (.cells #[.int .i64 (E' : Int), .int .i64 (m : Int), .int .i64 (qn : Int)] 48) := ⟨_, rfl⟩
              rw [← hW1] at hbal hsb1 hbx ⊢
              have hlx := lt_of_block hbx
              have k0 : ∀ kk : Kept W1.heap.size W1, kk.w.cell? ⟨wr.heap.size, 0, none⟩ = some (.int .i64 (E' : Int)) := Kept.cell ((cell_block hbx 0).trans rfl) hlx
              have k1 : ∀ kk : Kept W1.heap.size W1, kk.w.cell? ⟨wr.heap.size, 1, none⟩ = some (.int .i64 (m : Int)) := Kept.cell ((cell_block hbx 1).trans rfl) hlx
              have k2 : ∀ kk : Kept W1.heap.size W1, kk.w.cell? ⟨wr.heap.size, 2, none⟩ = some (.int .i64 (qn : Int)) := Kept.cell ((cell_block hbx 2).trans rfl) hlx
              have HKd := Lib.hid (fun kk : Kept W1.heap.size W1 => by
                have := kind_any h _ x 0 0 (E' : Int) (m : Int) kk.w (HD5.out.below (hbal.trans (kk.below.mono hbal.size))).wa (by unfold is64; omega)
                rw [hkn] at this
                exact this)
              refine wp_region_kept (by kernel_rfl) (by kernel_rfl) ?_
              repeat (go_big_quiet_step ((go_at_call 13; exact Calls.kept_of (HKd.out _) (Nat.le_refl _))))
              refine wpQuiet_nil ?_
              intro _ hw'
              obtain ⟨kk, rfl⟩ := hw'
              have HB2 := Lib.hid (hbal.trans (kk.below.mono hbal.size))
              have hsb2 := (kk.below.block _ (by have := hbal.size; omega)).trans hsb1
              have hbx2 := (kk.below.block _ hlx).trans hbx
              generalize kk.w = W at HB2 hsb2 hbx2 ⊢
              have e0 : W.cell? ⟨wr.heap.size, 0, none⟩ = some (.int .i64 (E' : Int)) := (cell_block hbx2 0).trans rfl
              have e1 : W.cell? ⟨wr.heap.size, 1, none⟩ = some (.int .i64 (m : Int)) := (cell_block hbx2 1).trans rfl
              have e2 : W.cell? ⟨wr.heap.size, 2, none⟩ = some (.int .i64 (qn : Int)) := (cell_block hbx2 2).trans rfl
              have es : W.cell? ⟨w5.heap.size, qn, none⟩ = some (.int .i64 z) := by
                rw [cell_block hsb2, List.getElem?_toArray]
                exact HSc.out
              have fs := frozen_block hsb2 qn
              have hq9 : (qn : Int) < 9 := by omega
              have HB3 : Hid (Below w5.heap.size w5 (W.drew.setCell ⟨w5.heap.size, qn, none⟩ (.int .i64 y))) := (HB2.out.drew).setCell (Nat.le_refl _) _
              have HS3 : Hid ((W.drew.setCell ⟨w5.heap.size, qn, none⟩ (.int .i64 y)).heap[w5.heap.size]? = some (.cells (valsI (S.set qn y)).toArray 3 (0, 0))) := by
                have := heap_setCell_own (w := W.drew) (o := qn) (show W.drew.heap[w5.heap.size]? = _ from hsb2) (.int .i64 y)
                rw [valsI_set] at this
                exact this
              obtain ⟨hw1, hw2⟩ := HYW.out
              have hEb : (E' : Int) + (m : Int) ≤ 1048576 := by have := HX.out; omega
              clear hbx2 hsb2 k0 k1 k2 HKd hee hqq t1 t2 t3 t4 t4' hkn hbal hsb1 hbx hW1 c0 c1 c2
              go_wp2_with fail
              go_region
              go_wp2
              go_roundw
              case rel => exact ⟨j + 1, E' + m, S.set qn y, by omega, by go_num, by go_num, HG2.out, HS2.out, HB3.out, HS3.out⟩
              case measure => simp [intOf]; omega
            · have t4 : decide ((0 : Int) < (j : Int)) = true := by rw [decide_eq_true_eq]; omega
              have t4' : decide (0 < j) = true := by rw [decide_eq_true_eq]; omega
              have hj1 : (0 : Int) < (j : Int) := by omega
              obtain ⟨s, hs⟩ : ∃ s : Nat, s = j - 1 := ⟨_, rfl⟩
              have hs1 : (s : Int) < (R.length : Int) := by omega
              have hs0 : (0 : Int) ≤ (s : Int) := by omega
              obtain ⟨q', hq'⟩ : ∃ q', q' = (R.getD s (0, 0, 0)).2.2 := ⟨_, rfl⟩
              have hqne := hlast _ (last_take (by omega) (by omega))
              rw [← hs, ← hq'] at hqne
              have hqe : ((qn : Int) == q') = false := by rw [beq_eq_false_iff_ne]; exact fun e => hqne e.symm
              have c3 : ∀ V : World, Below w5.heap.size w5 V → V.cell? ⟨rb, ro + s * 3 + 2, none⟩ = some (.int .i64 q') := fun V hV => by
                refine (hV.cell (p := ⟨rb, ro + s * 3 + 2, none⟩) hrb).trans (hcc s (by omega) 2 _ ?_)
                rw [hq']
                rfl
              have C3 := Lib.hid c3
              have hwj : IntKind.i64.wrap ((j : Int) - 1) = (s : Int) ∧ wrap64 ((j : Int) - 1) = (s : Int) := ⟨(wrap_id (by omega) (by omega)).trans (by omega), (IntWalk.wrap64_in _ (by omega)).trans (by omega)⟩
              have HWJ := Lib.hid hwj
              clear hlast hj0 hs hq' hqne c3 hwj
              go_wp2_with fail
              obtain ⟨W1, hW1⟩ : ∃ W1, W1 = wr.alloc (.cells #[.int .i64 (E' : Int), .int .i64 (m : Int), .int .i64 (qn : Int)] 48) := ⟨_, rfl⟩
              rw [← hW1] at hbal hsb1 hbx ⊢
              have hlx := lt_of_block hbx
              have k0 : ∀ kk : Kept W1.heap.size W1, kk.w.cell? ⟨wr.heap.size, 0, none⟩ = some (.int .i64 (E' : Int)) := Kept.cell ((cell_block hbx 0).trans rfl) hlx
              have k1 : ∀ kk : Kept W1.heap.size W1, kk.w.cell? ⟨wr.heap.size, 1, none⟩ = some (.int .i64 (m : Int)) := Kept.cell ((cell_block hbx 1).trans rfl) hlx
              have k2 : ∀ kk : Kept W1.heap.size W1, kk.w.cell? ⟨wr.heap.size, 2, none⟩ = some (.int .i64 (qn : Int)) := Kept.cell ((cell_block hbx 2).trans rfl) hlx
              have HKd := Lib.hid (fun kk : Kept W1.heap.size W1 => by
                have := kind_any h _ x 0 0 (E' : Int) (m : Int) kk.w (HD5.out.below (hbal.trans (kk.below.mono hbal.size))).wa (by unfold is64; omega)
                rw [hkn] at this
                exact this)
              have k3 : ∀ kk : Kept W1.heap.size W1, kk.w.cell? ⟨rb, ro + s * 3 + 2, none⟩ = some (.int .i64 q') := fun kk => C3.out _ (hbal.trans (kk.below.mono hbal.size))
              obtain ⟨hv1, hv2⟩ := HWJ.out
              refine wp_region_kept (by kernel_rfl) (by kernel_rfl) ?_
              repeat (go_big_quiet_step ((go_at_call 13; exact Calls.kept_of (HKd.out _) (Nat.le_refl _))))
              refine wpQuiet_nil ?_
              intro _ hw'
              obtain ⟨kk, rfl⟩ := hw'
              have HB2 := Lib.hid (hbal.trans (kk.below.mono hbal.size))
              have hsb2 := (kk.below.block _ (by have := hbal.size; omega)).trans hsb1
              have hbx2 := (kk.below.block _ hlx).trans hbx
              clear k3 hv1 hv2
              generalize kk.w = W at HB2 hsb2 hbx2 ⊢
              have e0 : W.cell? ⟨wr.heap.size, 0, none⟩ = some (.int .i64 (E' : Int)) := (cell_block hbx2 0).trans rfl
              have e1 : W.cell? ⟨wr.heap.size, 1, none⟩ = some (.int .i64 (m : Int)) := (cell_block hbx2 1).trans rfl
              have e2 : W.cell? ⟨wr.heap.size, 2, none⟩ = some (.int .i64 (qn : Int)) := (cell_block hbx2 2).trans rfl
              have es : W.cell? ⟨w5.heap.size, qn, none⟩ = some (.int .i64 z) := by
                rw [cell_block hsb2, List.getElem?_toArray]
                exact HSc.out
              have fs := frozen_block hsb2 qn
              have hq9 : (qn : Int) < 9 := by omega
              have HB3 : Hid (Below w5.heap.size w5 (W.drew.setCell ⟨w5.heap.size, qn, none⟩ (.int .i64 y))) := (HB2.out.drew).setCell (Nat.le_refl _) _
              have HS3 : Hid ((W.drew.setCell ⟨w5.heap.size, qn, none⟩ (.int .i64 y)).heap[w5.heap.size]? = some (.cells (valsI (S.set qn y)).toArray 3 (0, 0))) := by
                have := heap_setCell_own (w := W.drew) (o := qn) (show W.drew.heap[w5.heap.size]? = _ from hsb2) (.int .i64 y)
                rw [valsI_set] at this
                exact this
              obtain ⟨hw1, hw2⟩ := HYW.out
              have hEb : (E' : Int) + (m : Int) ≤ 1048576 := by have := HX.out; omega
              clear hbx2 hsb2 k0 k1 k2 HKd hee hqq t1 t2 t3 t4 t4' hkn hbal hsb1 hbx hW1 c0 c1 c2
              go_wp2_with fail
              go_region
              go_wp2
              go_roundw
              case rel => exact ⟨j + 1, E' + m, S.set qn y, by omega, by go_num, by go_num, HG2.out, HS2.out, HB3.out, HS3.out⟩
              case measure => simp [intOf]; omega
          · obtain rfl : j = R.length := by omega
            have hEx : E = x.length := by
              have h1 := HG.out
              rw [List.take_length] at h1
              exact (good_end h1).trans (good_end HGd.out).symm
            obtain rfl : E = N := hEx.trans HX.out
            have HS9 : Hid (S.length = 9 ∧ ∀ k, k < 9 → S.getD k 0 = (cntA x (k : Int) : Int)) := by
              obtain ⟨s1, s2⟩ := HSm.out
              refine ⟨s1, fun k hk => ?_⟩
              rw [s2 k hk, List.take_length, HRl.out]
            clear HG HSm hEx hlt
            go_wp2
            go_loopw [12, 13] (fun a i wr => ∃ k : Nat, k ≤ 9 ∧ i = .int .i64 (k : Int) ∧ a = .int .i64 (allR x k : Int) ∧ Hid (Below w5.heap.size w5 wr) ∧ Hid (wr.heap[w5.heap.size]? = some (.cells (valsI S).toArray 3 (0, 0)))) (fun _ i _ => 9 - (intOf i).toNat)
            case atStart => exact ⟨0, by omega, rfl, rfl, HB.out, HSb.out⟩
            case round =>
              obtain ⟨k, hk, rfl, rfl, HB2, HSb2⟩ := hrel
              by_cases hlk : k < 9
              · have hlk1 : (k : Int) < 9 := by omega
                have hlk0 : (0 : Int) ≤ (k : Int) := by omega
                have hsk := HS9.out.2 k hlk
                have hsc : (valsI S)[k]? = some (.int .i64 (S.getD k 0)) := valsI_get S k (by rw [HS9.out.1]; exact hlk)
                rw [hsk] at hsc
                have hcS : ∀ V : World, V.heap[w5.heap.size]? = some (.cells (valsI S).toArray 3 (0, 0)) → V.cell? ⟨w5.heap.size, k, none⟩ = some (.int .i64 (cntA x (k : Int) : Int)) := fun V hV => by
                  rw [cell_block hV, List.getElem?_toArray]
                  exact hsc
                have hlsb := lt_of_block HSb2.out
                have k1 : ∀ kk : Kept wr.heap.size wr, kk.w.cell? ⟨w5.heap.size, k, none⟩ = some (.int .i64 (cntA x (k : Int) : Int)) := fun kk => hcS _ ((kk.below.block _ hlsb).trans HSb2.out)
                have HcS := Lib.hid hcS
                have HSu := Lib.hid (fun kk : Kept wr.heap.size wr => sum_any h _ x 0 0 (k : Int) kk.w (HD5.out.below (HB2.out.trans (kk.below.mono HB2.out.size))).wa)
                have hA : allR x (k + 1) = allR x k + cntA x (k : Int) := rfl
                have hA1 := allR_le x HKi.out (k + 1) (by omega)
                obtain ⟨A1, hA1e⟩ : ∃ A1, A1 = allR x (k + 1) := ⟨_, rfl⟩
                have HA1 := Lib.hid hA1e
                obtain ⟨A, hAe⟩ : ∃ A, A = allR x k := ⟨_, rfl⟩
                obtain ⟨c, hce⟩ : ∃ c, c = cntA x (k : Int) := ⟨_, rfl⟩
                rw [← hA1e] at hA1 hA
                rw [← hAe, ← hce] at hA
                rw [← hce] at k1 HcS HSu
                rw [← hAe]
                have hAc : (A : Int) + (c : Int) = (A1 : Int) ∧ wrap64 ((A : Int) + (c : Int)) = (A1 : Int) := ⟨by omega, (IntWalk.wrap64_in _ (by omega)).trans (by omega)⟩
                have HAc := Lib.hid hAc
                have hcc : ((c : Int) != (c : Int)) = false := by simp
                clear hsk hsc hcS hA hA1 hA1e hAe hce hAc
                go_wp2_with fail
                refine wp_region_kept (by kernel_rfl) (by kernel_rfl) ?_
                repeat (go_big_quiet_step ((go_at_call 15; exact Calls.kept_of (HSu.out _) (Nat.le_refl _))))
                refine wpQuiet_nil ?_
                intro _ hw'
                obtain ⟨kk, rfl⟩ := hw'
                have HB3 := Lib.hid (HB2.out.trans (kk.below.mono HB2.out.size))
                have HSb3 := Lib.hid ((kk.below.block _ hlsb).trans HSb2.out)
                generalize kk.w = W at HB3 HSb3 ⊢
                have es := HcS.out _ HSb3.out
                obtain ⟨-, hx2⟩ := HAc.out
                clear k1 HSu hcc
                go_wp2
                go_roundw
                case rel => exact ⟨k + 1, by omega, by go_num, by rw [← HA1.out, HAc.out.2], HB3.out, HSb3.out⟩
                case measure => simp [intOf]; omega
              · obtain rfl : k = 9 := by omega
                obtain ⟨n1, n2⟩ := allR_nine HKi.out
                rw [n1, HX.out]
                have HSu := Lib.hid (sum_any h _ x 0 0 9 wr (HD5.out.below HB2.out).wa)
                rw [n2] at HSu
                clear n1 n2 hlk
                go_wp2_with fail
                refine HSu.out.mono ?_
                rintro e w7 ⟨rfl, hb7⟩
                have HB7 := Lib.hid (HD5.out.bel.trans ((HB2.out.trans (hb7.mono HB2.out.size)).mono HD5.out.bel.size))
                clear hb7
                go_wp2_with fail
                refine (HW.out _ HB7.out).mono ?_
                rintro e w8 ⟨rfl, hb8⟩
                go_wp2
                go_ret
                exact ⟨rfl, hb8⟩
  · have hm' : mayW n = false := by simpa using hm
    have HN1 := Lib.hid (new_no n w hm')
    have HM := Lib.hid (refMay_any n w)
    rw [hm'] at HM
    clear hm hm'
    by_cases h1 : 1024 < n
    · have h2 : ¬ n ≤ 1048576 := by omega
      clear hn hn1
      go_enter Try.func5, Try.ntmps5
      go_wp2_with fail
      refine HN1.out.mono ?_
      rintro e w' ⟨rfl, rfl⟩
      go_wp2_with fail
      refine HM.out.mono ?_
      rintro e w' ⟨rfl, rfl⟩
      go_wp2_with fail
      refine (HW.out _ (Below.refl _ _)).mono ?_
      rintro e w2 ⟨rfl, hb2⟩
      go_wp2
      go_ret
      exact ⟨rfl, hb2⟩
    · clear hn hn1
      go_enter Try.func5, Try.ntmps5
      go_wp2_with fail
      refine HN1.out.mono ?_
      rintro e w' ⟨rfl, rfl⟩
      go_wp2_with fail
      refine HM.out.mono ?_
      rintro e w' ⟨rfl, rfl⟩
      go_wp2_with fail
      refine (HW.out _ (Below.refl _ _)).mono ?_
      rintro e w2 ⟨rfl, hb2⟩
      go_wp2
      go_ret
      exact ⟨rfl, hb2⟩
end Go.Proofs.Ytnpnigeghhcncaa.Wat
