/- The walk of ArenaPlays. -/
import Derived.Test.YtncbfagmdldclaaArnS
namespace Go.Proofs.Ytncbfagmdldclaa.Arn
open Go.RowKit Num
set_option linter.unusedVariables false

theorem stp_length (l : List Int) (x : Act) : (stp l x).length = l.length := by
  unfold stp
  split
  · rfl
  · split
    · exact wriA_length _ _ _
    · split
      · exact zerA_length _ _ _
      · split
        · exact movA_length _ _ _ _
        · split
          · split
            · simp
            · rfl
          · exact putA_length _ _ _ _

theorem act_any {H : Type} {blk : H → Nat → Prop} {Ar : H → World → Value → List Int → Prop} {Tb : World → Prop} (D : Does blk Ar Tb) (va vr : Value) (l : List Int) (X : Act) (wB w : World) (hb : Below wB.heap.size wB w) (htb : Tb wB) (h64 : is64 X.at_) (h65 : is64 X.to) (hx : Row .u8 wB X.u X.b) (hbl : X.b.length ≤ 1000000) (hv0 : 0 ≤ X.v) (hv1 : X.v < 18446744073709551616) (hll : l.length ≤ 2000) (ht : Two blk Ar wB.heap.size w va vr l) :
    Calls Try.prog 11 #[va, vr, X.agg] w fun e w' => e = .returned (.bool true) ∧ Two blk Ar wB.heap.size w' va vr (stp l X) ∧ Below wB.heap.size wB w' := by
  obtain ⟨k, a, t, n, x, v, u, b⟩ := X
  simp only at hx hbl hv0 hv1 h64 h65
  by_cases h2 : k = 2
  · subst h2
    refine (act_get D wB.heap.size va vr u l b a t n x v w (below_le hb rfl) ht).mono ?_
    rintro e w' ⟨rfl, h1, h2⟩
    exact ⟨rfl, by rw [stp, if_pos (by simp)]; exact h1, hb.trans h2⟩
  by_cases h3 : k = 3
  · subst h3
    refine (act_read D va vr u l b a t n x v wB w hb h64 ht).mono ?_
    rintro e w' ⟨rfl, h1, h2⟩
    exact ⟨rfl, by rw [stp, if_pos (by simp)]; exact h1, h2⟩
  by_cases h8 : k = 8
  · subst h8
    refine (act_has D va vr u l b a t n x v wB w hb htb hx hbl ht).mono ?_
    rintro e w' ⟨rfl, h1, h2⟩
    exact ⟨rfl, by rw [stp, if_pos (by simp)]; exact h1, h2⟩
  by_cases h4 : k = 4
  · subst h4
    refine (act_write D va vr u l b a t n x v wB w hb hx hbl h64 ht).mono ?_
    rintro e w' ⟨rfl, h1, h2⟩
    exact ⟨rfl, by rw [stp, if_neg (by simp), if_pos rfl]; exact h1, h2⟩
  by_cases h5 : k = 5
  · subst h5
    refine (act_zero D va vr u l b a t n x v wB w hb hx hbl h64 ht).mono ?_
    rintro e w' ⟨rfl, h1, h2⟩
    exact ⟨rfl, by rw [stp, if_neg (by simp), if_neg (by simp), if_pos rfl]; exact h1, h2⟩
  by_cases h6 : k = 6
  · subst h6
    refine (act_move D va vr u l b a t n x v wB w hb hx hbl h64 h65 ht).mono ?_
    rintro e w' ⟨rfl, h1, h2⟩
    exact ⟨rfl, by rw [stp, if_neg (by simp), if_neg (by simp), if_neg (by simp), if_pos rfl]; exact h1, h2⟩
  by_cases h7 : k = 7
  · subst h7
    refine (act_view D va vr u l b a t n x v wB w hb h64 hv0 hv1 ht).mono ?_
    rintro e w' ⟨rfl, h1, h2⟩
    exact ⟨rfl, by rw [stp, if_neg (by simp), if_neg (by simp), if_neg (by simp), if_neg (by simp), if_pos rfl]; exact h1, h2⟩
  refine (act_put D va vr u l b k a t n x v wB w hb hx hbl hv0 hv1 hll ⟨h2, h3, h4, h5, h6, h7, h8⟩ ht).mono ?_
  rintro e w' ⟨rfl, h1, h2'⟩
  exact ⟨rfl, by rw [stp, if_neg (by simp; exact ⟨h2, h3, h8⟩), if_neg h4, if_neg h5, if_neg h6, if_neg h7]; exact h1, h2'⟩

set_option maxRecDepth 100000 in
set_option maxHeartbeats 8000000 in
theorem arenaPlays_walk {H : Type} {blk : H → Nat → Prop} {Ar : H → World → Value → List Int → Prop} {Tb : World → Prop} (D : Does blk Ar Tb) (n : Int) (v : Value) (L : List Act) (w : World) (htb : Tb w) (hr : ActRow w v L) :
    Calls Try.prog 3 #[.int .i64 n, v] w fun e w' => e = .returned (.bool true) ∧ Below w.heap.size w w' := by
  have HD := Lib.hid D
  have HTb := Lib.hid htb
  clear htb
  have HF := Lib.hid (few_any v L w hr)
  have HRow := Lib.hid hr
  obtain ⟨ad, cap, U, rfl, q2, q3, q4, q5⟩ := hr
  by_cases hn : 1024 < n ∧ n ≤ 1048576
  · obtain ⟨n1, n2⟩ := hn
    clear q4 q5
    go_enter Try.func3, Try.ntmps3
    go_wp2_with fail
    refine (holds_any HD.out _ (by first | exact HTb.out | exact HD.out.keep hb1 HTb.out)).mono ?_
    rintro e w1 ⟨rfl, hb⟩
    go_wp2
    go_ret
    exact ⟨rfl, hb⟩
  have hn1 : (decide (1024 < n) && decide (n ≤ 1048576)) = false := by
    rw [Bool.and_eq_false_iff, decide_eq_false_iff_not, decide_eq_false_iff_not]; omega
  by_cases hfew0 : fewA L = false
  · rw [hfew0] at HF
    clear q4 q5 hfew0
    by_cases h1 : 1024 < n
    · have h2 : ¬ n ≤ 1048576 := by omega
      clear hn hn1
      go_enter Try.func3, Try.ntmps3
      go_wp2_with fail
      refine HF.out.mono ?_
      rintro e w1 ⟨rfl, rfl⟩
      go_wp2_with fail
      refine (holds_any HD.out _ (by first | exact HTb.out | exact HD.out.keep hb1 HTb.out)).mono ?_
      rintro e w1 ⟨rfl, hb⟩
      go_wp2
      go_ret
      exact ⟨rfl, hb⟩
    · clear hn hn1
      go_enter Try.func3, Try.ntmps3
      go_wp2_with fail
      refine HF.out.mono ?_
      rintro e w1 ⟨rfl, rfl⟩
      go_wp2_with fail
      refine (holds_any HD.out _ (by first | exact HTb.out | exact HD.out.keep hb1 HTb.out)).mono ?_
      rintro e w1 ⟨rfl, hb⟩
      go_wp2
      go_ret
      exact ⟨rfl, hb⟩
  have hfew : fewA L = true := by simpa using hfew0
  clear hfew0
  rw [hfew] at HF
  have HFw := Lib.hid (fewA_out hfew)
  by_cases hm : mayN n = true
  · obtain ⟨m1, m2, m3⟩ := mayN_bd hm
    obtain ⟨N, rfl⟩ : ∃ N : Nat, n = N := ⟨n.toNat, by omega⟩
    have hN : N ≤ 1024 := by omega
    have HN1 := Lib.hid (D.new_yes N w hm)
    have HN2 := Lib.hid (fun (u : World) => refNew_yes N u hm (by omega))
    have hn3 : ¬ (1024 : Int) < (N : Int) := by omega
    have HC := Lib.hid q5
    have HS := Lib.hid q4
    have hL := HFw.out.1
    clear hn hn1 hfew m1 m2 m3 hm q4 q5
    go_enter Try.func3, Try.ntmps3
    go_wp2_with fail
    refine HF.out.mono ?_
    rintro e w' ⟨rfl, rfl⟩
    go_wp2_with fail
    refine HN1.out.mono ?_
    rintro e w1 ⟨va, h, rfl, ha, hb1, hk1⟩
    obtain ⟨ga, rfl⟩ := HD.out.ptr _ _ _ _ ha
    have HA := Lib.hid ha
    clear ha
    go_wp2_with fail
    refine (HN2.out _).mono ?_
    rintro e w2 ⟨vr, g, b, rfl, hr2, hg, hbb, hb2⟩
    have HB2 := Lib.hid (hb1.trans (hb2.mono hb1.size))
    have HT : Hid (Two blk Ar w.heap.size w2 (.pointer (some ⟨ga, 0, none⟩)) vr (List.replicate N 0)) := by
      have hlt := HD.out.lt _ _ _ _ HA.out
      have h1 := hb1.size
      exact ⟨h, g, b, HD.out.stay _ _ _ _ _ _ (fun _ => False) HA.out (Fr.of_below hb2) (fun k hk => ⟨hlt k hk, fun h => h⟩), hr2, fun hh => by have := hlt _ hh; omega, fun hh => by have := hlt _ hh; omega, hk1, by omega, by omega⟩
    obtain ⟨g0, rfl⟩ : ∃ g0, vr = .pointer (some ⟨g0, 0, none⟩) := by
      obtain ⟨off, n', c, h1, -⟩ := hr2
      exact ⟨g, h1⟩
    clear HA hb1 hk1 hr2 hg hbb hb2 HN1 HN2 HF
    go_wp2
    go_loopw [7] (fun i wr => ∃ (k : Nat) (l : List Int), k ≤ L.length ∧ i = .int .i64 k ∧ Hid (l.length = N) ∧ Hid (Two blk Ar w.heap.size wr (.pointer (some ⟨ga, 0, none⟩)) (.pointer (some ⟨g0, 0, none⟩)) l) ∧ Hid (Below w.heap.size w wr)) (fun i _ => L.length - (intOf i).toNat)
    case atStart => exact ⟨0, _, Nat.zero_le _, rfl, List.length_replicate, HT.out, HB2.out⟩
    case round =>
      obtain ⟨k, l, hk, rfl, HL, HT1, HB1⟩ := hrel
      by_cases hlt : k < L.length
      · have hlt1 : (k : Int) < (L.length : Int) := by omega
        have hlt0 : (0 : Int) ≤ (k : Int) := by omega
        obtain ⟨b, off, rfl, hlb, hc⟩ := HC.out (by rintro rfl; simp at hlt)
        obtain ⟨hs1, hs2, -, h64, h65, -, -, hv0, hv1, hs⟩ := HS.out k hlt
        have hcell : ∀ j u, (L.getD k Act.zero).cells[j]? = some u → wr.cell? ⟨b, off + k * 7 + j, none⟩ = some u := fun j u hj =>
          (HB1.out.cell (p := ⟨b, off + k * 7 + j, none⟩) hlb).trans (hc k hlt j u (by rw [hs2]; exact hj))
        have hdl := datA_get L k hlt
        have hfw := HFw.out.2
        obtain ⟨X, hX⟩ : ∃ X, X = L.getD k Act.zero := ⟨_, rfl⟩
        rw [← hX] at hcell hs hv0 hv1 hdl h64 h65
        have HAct := Lib.hid (fun (W : World) (hb : Below w.heap.size w W) (ht : Two blk Ar w.heap.size W (.pointer (some ⟨ga, 0, none⟩)) (.pointer (some ⟨g0, 0, none⟩)) l) => act_any HD.out (.pointer (some ⟨ga, 0, none⟩)) (.pointer (some ⟨g0, 0, none⟩)) l X w W hb HTb.out h64 h65 hs (by omega) hv0 hv1 (by have := HL.out; omega) ht)
        have HL2 : Hid ((stp l X).length = N) := (stp_length l X).trans HL.out
        obtain ⟨l2, hl2⟩ : ∃ l2, l2 = stp l X := ⟨_, rfl⟩
        rw [← hl2] at HAct HL2
        obtain ⟨xk, xa, xt, xn, xx, xv, xu, xb⟩ := X
        have d0 := hcell 0 _ rfl
        have d1 := hcell 1 _ rfl
        have d2 := hcell 2 _ rfl
        have d3 := hcell 3 _ rfl
        have d4 := hcell 4 _ rfl
        have d5 := hcell 5 _ rfl
        have d6 := hcell 6 _ rfl
        rw [Nat.add_zero] at d0
        simp only [Act.cells] at d0 d1 d2 d3 d4 d5 d6
        unfold Act.agg at HAct
        simp only [] at HAct
        have ht := HT1.out
        have hb := HB1.out
        have HIm := Lib.hid (fun (W : World) (ht : Two blk Ar w.heap.size W (.pointer (some ⟨ga, 0, none⟩)) (.pointer (some ⟨g0, 0, none⟩)) l2) => show Calls Try.prog 12 #[.pointer (some ⟨ga, 0, none⟩)] W fun e w' => ∃ u, e = .returned u ∧ Below W.heap.size W w' ∧ NewRow W.heap.size w' u l2 from by
          obtain ⟨h, g, b, ha, -⟩ := ht
          exact HD.out.image h _ l2 W ha)
        have HRf := Lib.hid (fun (W : World) (ht : Two blk Ar w.heap.size W (.pointer (some ⟨ga, 0, none⟩)) (.pointer (some ⟨g0, 0, none⟩)) l2) => show ∃ rb ro rn rc, W.cell? ⟨g0, 0, none⟩ = some (.slice (some ⟨rb, ro, none⟩) rn rc) ∧ g0 < W.heap.size ∧ Row .u8 W (.slice (some ⟨rb, ro, none⟩) rn rc) l2 from by
          obtain ⟨h, g, b, ha, ⟨off, n', c', h1, h2, h3, -⟩, -⟩ := ht
          injection h1 with h1
          injection h1 with h1
          injection h1 with h1 _ _
          subst h1
          exact ⟨b, off, n', c', cell_of_one h2, lt_of_block h2, h3⟩)
        obtain ⟨S, hS⟩ : ∃ S, S = strOfNums l2 := ⟨_, rfl⟩
        have HS2 := Lib.hid hS
        have hSS : (S.toList == S.toList) = true := by simp
        have hlb2 : b < wr.heap.size := Nat.lt_of_lt_of_le hlb HB1.out.size
        clear hc hs1 hs2 hcell hs hX hl2 hdl hfw hv0 hv1 h64 h65 HT1 HT hS HB1 HL
        go_wp2_with fail
        go_region_with (first | (go_at_call 11; refine (HAct.out _ (by first | exact hb | exact hb.drew) (by first | exact ht | exact ht.below HD.out (Below.refl _ _).drew)).mono ?_; rintro e w1 ⟨rfl, ht1, hb1⟩; replace d0 := (hb1.cell (p := ⟨b, off + k * 7, none⟩) hlb).trans ((hb.cell (p := ⟨b, off + k * 7, none⟩) hlb).symm.trans d0); replace d1 := (hb1.cell (p := ⟨b, off + k * 7 + 1, none⟩) hlb).trans ((hb.cell (p := ⟨b, off + k * 7 + 1, none⟩) hlb).symm.trans d1); replace d2 := (hb1.cell (p := ⟨b, off + k * 7 + 2, none⟩) hlb).trans ((hb.cell (p := ⟨b, off + k * 7 + 2, none⟩) hlb).symm.trans d2); replace d3 := (hb1.cell (p := ⟨b, off + k * 7 + 3, none⟩) hlb).trans ((hb.cell (p := ⟨b, off + k * 7 + 3, none⟩) hlb).symm.trans d3); replace d4 := (hb1.cell (p := ⟨b, off + k * 7 + 4, none⟩) hlb).trans ((hb.cell (p := ⟨b, off + k * 7 + 4, none⟩) hlb).symm.trans d4); replace d5 := (hb1.cell (p := ⟨b, off + k * 7 + 5, none⟩) hlb).trans ((hb.cell (p := ⟨b, off + k * 7 + 5, none⟩) hlb).symm.trans d5); replace d6 := (hb1.cell (p := ⟨b, off + k * 7 + 6, none⟩) hlb).trans ((hb.cell (p := ⟨b, off + k * 7 + 6, none⟩) hlb).symm.trans d6); replace ht := ht1; replace hb := hb1; obtain ⟨rb, ro, rn, rc, cg, hgl, hrow⟩ := HRf.out _ ht1; have hk2 := conv_row hrow; rw [← HS2.out] at hk2; clear ht1 hb1) | (go_at_call 12; refine (HIm.out _ ht).mono ?_; rintro e w2 ⟨u, rfl, hbI, hnew⟩; have hb2 := hb.trans (hbI.mono (below_le hb rfl)); replace d0 := (hb2.cell (p := ⟨b, off + k * 7, none⟩) hlb).trans ((hb.cell (p := ⟨b, off + k * 7, none⟩) hlb).symm.trans d0); replace d1 := (hb2.cell (p := ⟨b, off + k * 7 + 1, none⟩) hlb).trans ((hb.cell (p := ⟨b, off + k * 7 + 1, none⟩) hlb).symm.trans d1); replace d2 := (hb2.cell (p := ⟨b, off + k * 7 + 2, none⟩) hlb).trans ((hb.cell (p := ⟨b, off + k * 7 + 2, none⟩) hlb).symm.trans d2); replace d3 := (hb2.cell (p := ⟨b, off + k * 7 + 3, none⟩) hlb).trans ((hb.cell (p := ⟨b, off + k * 7 + 3, none⟩) hlb).symm.trans d3); replace d4 := (hb2.cell (p := ⟨b, off + k * 7 + 4, none⟩) hlb).trans ((hb.cell (p := ⟨b, off + k * 7 + 4, none⟩) hlb).symm.trans d4); replace d5 := (hb2.cell (p := ⟨b, off + k * 7 + 5, none⟩) hlb).trans ((hb.cell (p := ⟨b, off + k * 7 + 5, none⟩) hlb).symm.trans d5); replace d6 := (hb2.cell (p := ⟨b, off + k * 7 + 6, none⟩) hlb).trans ((hb.cell (p := ⟨b, off + k * 7 + 6, none⟩) hlb).symm.trans d6); replace ht := ht.below HD.out hbI; replace hb := hb2; replace cg := (hbI.cell (p := ⟨g0, 0, none⟩) hgl).trans cg; replace hk2 := conv_row (hrow.mono hbI (Nat.le_refl _)); rw [← HS2.out] at hk2; have hk1 := conv_row hnew.1; rw [← HS2.out] at hk1; obtain ⟨ua, uc, rfl, -⟩ := hnew.1; clear hnew hb2 hbI))
        all_goals
          have HT2 := Lib.hid ht
          have HB2 := Lib.hid hb
          clear ht hb
          go_wp2
          go_roundw
          case rel => exact ⟨k + 1, l2, by omega, by go_num, HL2, HT2, HB2⟩
          case measure => simp [intOf]; omega
      · obtain rfl : k = L.length := by omega
        have hLen := HL.out
        obtain ⟨h, g, b, ha, -⟩ := HT1.out
        have HLn := Lib.hid (HD.out.len h _ l wr ha)
        rw [hLen] at HLn
        clear ha hLen HT1 HT
        go_wp2_with fail
        refine HLn.out.mono ?_
        rintro e w3 ⟨rfl, hb3⟩
        have hb4 := HB1.out.trans (hb3.mono (below_le HB1.out rfl))
        go_wp2_with fail
        refine (holds_any HD.out _ (HD.out.keep hb4 HTb.out)).mono ?_
        rintro e w4 ⟨rfl, hb5⟩
        go_wp2
        go_ret
        exact ⟨rfl, hb4.trans (hb5.mono (below_le hb4 rfl))⟩
  · have hm' : mayN n = false := by simpa using hm
    have HN1 := Lib.hid (D.new_no n w hm')
    have HN2 := Lib.hid (fun (u : World) => refNew_no n u hm')
    clear hm hm' hfew q4 q5
    by_cases h1 : 1024 < n
    · have h2 : ¬ n ≤ 1048576 := by omega
      clear hn hn1
      go_enter Try.func3, Try.ntmps3
      go_wp2_with fail
      refine HF.out.mono ?_
      rintro e w' ⟨rfl, rfl⟩
      go_wp2_with fail
      refine HN1.out.mono ?_
      rintro e w1 ⟨rfl, hb1⟩
      go_wp2_with fail
      refine (HN2.out _).mono ?_
      rintro e w' ⟨rfl, rfl⟩
      go_wp2_with fail
      refine (holds_any HD.out _ (by first | exact HTb.out | exact HD.out.keep hb1 HTb.out)).mono ?_
      rintro e w2 ⟨rfl, hb2⟩
      go_wp2
      go_ret
      exact ⟨rfl, hb1.trans (hb2.mono hb1.size)⟩
    · clear hn hn1
      go_enter Try.func3, Try.ntmps3
      go_wp2_with fail
      refine HF.out.mono ?_
      rintro e w' ⟨rfl, rfl⟩
      go_wp2_with fail
      refine HN1.out.mono ?_
      rintro e w1 ⟨rfl, hb1⟩
      go_wp2_with fail
      refine (HN2.out _).mono ?_
      rintro e w' ⟨rfl, rfl⟩
      go_wp2_with fail
      refine (holds_any HD.out _ (by first | exact HTb.out | exact HD.out.keep hb1 HTb.out)).mono ?_
      rintro e w2 ⟨rfl, hb2⟩
      go_wp2
      go_ret
      exact ⟨rfl, hb1.trans (hb2.mono hb1.size)⟩
end Go.Proofs.Ytncbfagmdldclaa.Arn
