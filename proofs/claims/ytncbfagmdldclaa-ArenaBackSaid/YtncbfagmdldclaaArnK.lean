/- The walk of ArenaBack. -/
import Derived.Test.YtncbfagmdldclaaArnY
import Derived.Test.YtncbfagmdldclaaArnR
import Derived.Test.YtncbfagmdldclaaNumH
import Derived.Deep.RegionHeld3
import Derived.Deep.RegionWith
namespace Go.Proofs.Ytncbfagmdldclaa.Arn
open Go.RowKit Num
set_option linter.unusedVariables false

theorem le_parts8 (v : Int) : le (parts v) = v := by
  obtain ⟨q1, h1⟩ : ∃ q, q = v / 256 := ⟨_, rfl⟩
  obtain ⟨q2, h2⟩ : ∃ q, q = q1 / 256 := ⟨_, rfl⟩
  obtain ⟨q3, h3⟩ : ∃ q, q = q2 / 256 := ⟨_, rfl⟩
  obtain ⟨q4, h4⟩ : ∃ q, q = q3 / 256 := ⟨_, rfl⟩
  obtain ⟨q5, h5⟩ : ∃ q, q = q4 / 256 := ⟨_, rfl⟩
  obtain ⟨q6, h6⟩ : ∃ q, q = q5 / 256 := ⟨_, rfl⟩
  obtain ⟨q7, h7⟩ : ∃ q, q = q6 / 256 := ⟨_, rfl⟩
  have e2 : v / 65536 = q2 := by rw [h2, h1, Int.ediv_ediv_of_nonneg (by decide)]; rfl
  have e3 : v / 16777216 = q3 := by rw [h3, ← e2, Int.ediv_ediv_of_nonneg (by decide)]; rfl
  have e4 : v / 4294967296 = q4 := by rw [h4, ← e3, Int.ediv_ediv_of_nonneg (by decide)]; rfl
  have e5 : v / 1099511627776 = q5 := by rw [h5, ← e4, Int.ediv_ediv_of_nonneg (by decide)]; rfl
  have e6 : v / 281474976710656 = q6 := by rw [h6, ← e5, Int.ediv_ediv_of_nonneg (by decide)]; rfl
  have e7 : v / 72057594037927936 = q7 := by rw [h7, ← e6, Int.ediv_ediv_of_nonneg (by decide)]; rfl
  unfold parts
  rw [e2, e3, e4, e5, e6, e7, ← h1]
  simp only [le_cons]
  have n : le ([] : List Int) = 0 := rfl
  rw [n]
  clear e2 e3 e4 e5 e6 e7 n
  have a0 : v % 256 = v - 256 * q1 := by omega
  have a1 : q1 % 256 = q1 - 256 * q2 := by omega
  have a2 : q2 % 256 = q2 - 256 * q3 := by omega
  have a3 : q3 % 256 = q3 - 256 * q4 := by omega
  have a4 : q4 % 256 = q4 - 256 * q5 := by omega
  have a5 : q5 % 256 = q5 - 256 * q6 := by omega
  have a6 : q6 % 256 = q6 - 256 * q7 := by omega
  rw [a0, a1, a2, a3, a4, a5, a6]
  clear a0 a1 a2 a3 a4 a5 a6 h1 h2 h3 h4 h5 h6 h7
  omega

/-- What was put in eight bytes is got; all others are as they were. -/
theorem back8 {L : List Int} {a v : Int} (h0 : 0 ≤ v) (h1 : v < 18446744073709551616) (he : ste L a 8 v = 0) :
    ∃ p : Nat, a = p ∧ p + 8 ≤ L.length ∧ putA L a 8 v = (stl L p 8 v, 0) ∧ (stl L p 8 v).length = L.length ∧ ldv (stl L p 8 v) p 8 = (v, 0) ∧ (stl L p 8 v).take p = L.take p ∧ (stl L p 8 v).drop (p + 8) = L.drop (p + 8) := by
  have hf : fits v 8 = true := by simp [fits, isW]; omega
  have hp : plc L.length a 8 = 0 := by simpa [ste, hf] using he
  obtain ⟨p1, p2, p3⟩ := plc_ok hp
  obtain ⟨m, rfl⟩ := Int.eq_ofNat_of_zero_le p1
  have hL := stl_length L m 8 v (by omega) (by omega)
  have hm : (L.take m).length = m := by rw [List.length_take]; omega
  have hpt : (parts v).take 8 = parts v := List.take_of_length_le (by rw [parts_length]; omega)
  refine ⟨m, rfl, by omega, by rw [putA, if_pos he]; rfl, hL, ?_, ?_, ?_⟩
  · have e : ((stl L m 8 v).drop m).take 8 = parts v := by
      unfold stl
      rw [hpt, List.drop_append_of_le_length (by omega), List.drop_eq_nil_of_le (by omega), List.nil_append, List.take_append_of_le_length (by rw [parts_length]; omega), hpt]
    rw [ldv_ok (x := 8) (n := 8) (by decide) (by rfl) p1 (by rw [hL]; exact p2) p3, Int.toNat_natCast, e, le_parts8]
  · unfold stl
    rw [List.take_append_of_le_length (by omega), List.take_take, Nat.min_self]
  · unfold stl
    rw [hpt, ← List.append_assoc, List.drop_append, List.drop_eq_nil_of_le (by rw [List.length_append, hm, parts_length]; omega), List.length_append, hm, parts_length, List.nil_append, Nat.sub_self]
    rfl

/-- The code's arena and an image of it that was made before. -/
def MidB (wB W : World) (va : Value) (bw : Nat) (l m : List Int) : Prop :=
  ∃ h, ArC h W va m ∧ (∀ j, blkC h j → wB.heap.size ≤ j) ∧ ¬ blkC h bw ∧ wB.heap.size ≤ bw ∧ bw < W.heap.size ∧ Row .u8 W (.slice (some ⟨bw, 0, none⟩) l.length l.length) l ∧ Below wB.heap.size wB W
theorem MidB.bel {wB W : World} {va : Value} {bw : Nat} {l m : List Int} (h : MidB wB W va bw l m) : Below wB.heap.size wB W := by
  obtain ⟨h, -, -, -, -, -, -, hb⟩ := h
  exact hb
theorem MidB.out {wB W : World} {va : Value} {bw : Nat} {l m : List Int} (h : MidB wB W va bw l m) : ∃ h, ArC h W va m ∧ ∀ j, blkC h j → wB.heap.size ≤ j := by
  obtain ⟨h, h1, h2, -⟩ := h
  exact ⟨h, h1, h2⟩
theorem MidB.row {wB W : World} {va : Value} {bw : Nat} {l m : List Int} (h : MidB wB W va bw l m) : Row .u8 W (.slice (some ⟨bw, 0, none⟩) l.length l.length) l := by
  obtain ⟨h, -, -, -, -, -, hr, -⟩ := h
  exact hr
theorem MidB.below {wB W W' : World} {va : Value} {bw : Nat} {l m : List Int} (h : MidB wB W va bw l m) (hb : Below W.heap.size W W') : MidB wB W' va bw l m := by
  obtain ⟨h, h1, h2, h3, h4, h5, h6, h7⟩ := h
  exact ⟨h, h1.below hb, h2, h3, h4, Nat.lt_of_lt_of_le h5 hb.size, h6.mono hb (Nat.le_refl _), h7.trans (hb.mono h7.size)⟩
theorem MidB.image {wB W : World} {va : Value} {bw : Nat} {l m : List Int} (hm : MidB wB W va bw l m) :
    Calls Try.prog 12 #[va] W fun e w' => ∃ bn, e = .returned (.slice (some ⟨bn, 0, none⟩) m.length m.length) ∧ MidB wB w' va bw l m ∧ Row .u8 w' (.slice (some ⟨bn, 0, none⟩) m.length m.length) m := by
  obtain ⟨h, h1, h2⟩ := hm
  refine (imageC_exact h va m W h1).mono ?_
  rintro e w' ⟨rfl, rfl⟩
  refine ⟨_, rfl, MidB.below ⟨h, h1, h2⟩ (below_made _ _), row_of_block (heap_alloc_new W _) h1.2.2.2.2.1 (by have := h1.len; omega)⟩
theorem MidB.get {wB W : World} {va : Value} {bw : Nat} {l m : List Int} (hm : MidB wB W va bw l m) (a x : Int) :
    Calls Try.prog 18 #[va, .int .i64 a, .int .i64 x] W fun e w' => e = .returned (.tuple #[.int .u64 (ldv m a x).1, .int .i64 (ldv m a x).2]) ∧ MidB wB w' va bw l m := by
  obtain ⟨h, h1, h2⟩ := hm
  refine (getC_any h va m a x W h1).mono ?_
  rintro e w' ⟨rfl, hb⟩
  exact ⟨rfl, MidB.below ⟨h, h1, h2⟩ hb⟩
theorem MidB.put {wB W : World} {va : Value} {bw : Nat} {l m : List Int} (hm : MidB wB W va bw l m) (a x y : Int) (h0 : 0 ≤ y) (h1 : y < 18446744073709551616) :
    Calls Try.prog 17 #[va, .int .i64 a, .int .i64 x, .int .u64 y] W fun e w' => e = .returned (.int .i64 (putA m a x y).2) ∧ MidB wB w' va bw l (putA m a x y).1 := by
  obtain ⟨h, h2, h3, h4, h5, h6, h7, h8⟩ := hm
  refine (putC_any h va m a x y W h2 h0 h1).mono ?_
  rintro e w' ⟨rfl, h', ha', hk', hfr⟩
  have hs := h8.size
  refine ⟨rfl, h', ha', fun j hj => ?_, fun hj => ?_, h5, Nat.lt_of_lt_of_le h6 hfr.size, h7.fr hfr (fun _ b hb => ?_), h8.trans (hfr.toBelow hs (fun k hk hh => by have := h3 k hh; omega))⟩
  · rcases hk' j hj with h | h
    · exact h3 j h
    · omega
  · rcases hk' _ hj with h | h
    · exact h4 h
    · omega
  · simp only [Value.ownBlock, Option.some.injEq] at hb
    subst hb
    exact ⟨h6, h4⟩
theorem midB_start {wB W : World} {h : Hn} {va : Value} {l : List Int} (ha : ArC h W va l) (hk : ∀ j, blkC h j → wB.heap.size ≤ j) (hb : Below wB.heap.size wB W) :
    MidB wB (W.alloc (.cells (vals l).toArray 5)) va W.heap.size l l := by
  have hs := hb.size
  refine ⟨h, ha.below (below_made _ _), hk, fun hj => ?_, hs, by rw [size_alloc]; omega, row_of_block (heap_alloc_new W _) ha.2.2.2.2.1 (by have := ha.len; omega), hb.trans ((below_made W _).mono hs)⟩
  have := ha.lt _ hj
  omega

set_option maxRecDepth 100000 in
set_option maxHeartbeats 4000000 in
theorem arenaBack_walk (n : Int) (ua uv : Value) (A V : List Int) (w : World) (htb : Tb w) (ha : Row .i64 w ua A) (hv : Row .u64 w uv V) :
    Calls Try.prog 5 #[.int .i64 n, ua, uv] w fun e w' => e = .returned (.bool true) ∧ Below w.heap.size w w' := by
  have HTb := Lib.hid htb
  have HH : Hid (∀ W, Below w.heap.size w W → Calls Try.prog 8 #[] W fun e w' => e = .returned (.bool true) ∧ Below w.heap.size w w') := fun W hb => by
    refine (holds_any does W (htb.keep hb)).mono ?_
    rintro e w' ⟨rfl, hb'⟩
    exact ⟨rfl, hb.trans (hb'.mono hb.size)⟩
  obtain ⟨aa, capa, rfl, ha2, ha3, ha4, ha5⟩ := ha
  obtain ⟨av, capv, rfl, hv2, hv3, hv4, hv5⟩ := hv
  have HA := Lib.hid ha5
  have HV := Lib.hid hv5
  have HA4 := Lib.hid ha4
  have HV4 := Lib.hid hv4
  clear ha4 ha5 hv4 hv5 htb
  by_cases hn : 4096 < n ∧ n ≤ 1048576
  · obtain ⟨n1, n2⟩ := hn
    go_enter Try.func5, Try.ntmps5
    go_wp2_with fail
    refine (HH.out _ (Below.refl _ _)).mono ?_
    rintro e w1 ⟨rfl, hb⟩
    go_wp2
    go_ret
    exact ⟨rfl, hb⟩
  have hn1 : (decide (4096 < n) && decide (n ≤ 1048576)) = false := by
    rw [Bool.and_eq_false_iff, decide_eq_false_iff_not, decide_eq_false_iff_not]; omega
  have hn2 : ¬ 4096 < n ∨ 1048576 < n := by omega
  by_cases hA : 60 < A.length
  · have hAi : (60 : Int) < (A.length : Int) := by omega
    rcases hn2 with hn3 | hn3
    · clear hn hn1
      go_enter Try.func5, Try.ntmps5
      go_wp2_with fail
      refine (HH.out _ (Below.refl _ _)).mono ?_
      rintro e w1 ⟨rfl, hb⟩
      go_wp2
      go_ret
      exact ⟨rfl, hb⟩
    · have hn4 : 4096 < n := by omega
      have hn5 : ¬ n ≤ 1048576 := by omega
      clear hn hn1
      go_enter Try.func5, Try.ntmps5
      go_wp2_with fail
      refine (HH.out _ (Below.refl _ _)).mono ?_
      rintro e w1 ⟨rfl, hb⟩
      go_wp2
      go_ret
      exact ⟨rfl, hb⟩
  have hAi : ¬ (60 : Int) < (A.length : Int) := by omega
  by_cases hVA : V.length < A.length
  · have hVi : (V.length : Int) < (A.length : Int) := by omega
    rcases hn2 with hn3 | hn3
    · clear hn hn1
      go_enter Try.func5, Try.ntmps5
      go_wp2_with fail
      refine (HH.out _ (Below.refl _ _)).mono ?_
      rintro e w1 ⟨rfl, hb⟩
      go_wp2
      go_ret
      exact ⟨rfl, hb⟩
    · have hn4 : 4096 < n := by omega
      have hn5 : ¬ n ≤ 1048576 := by omega
      clear hn hn1
      go_enter Try.func5, Try.ntmps5
      go_wp2_with fail
      refine (HH.out _ (Below.refl _ _)).mono ?_
      rintro e w1 ⟨rfl, hb⟩
      go_wp2
      go_ret
      exact ⟨rfl, hb⟩
  have hVi : ¬ (V.length : Int) < (A.length : Int) := by omega
  by_cases hm : mayN n = true
  · obtain ⟨m1, m2, m3⟩ := mayN_bd hm
    obtain ⟨N, rfl⟩ : ∃ N : Nat, n = N := ⟨n.toNat, by omega⟩
    have hn3 : ¬ (4096 : Int) < (N : Int) := by omega
    have HN := Lib.hid (newC_yes N w hm)
    clear hn hn1 hn2 m1 m2 m3 hm
    go_enter Try.func5, Try.ntmps5
    go_wp2_with fail
    refine HN.out.mono ?_
    rintro e w1 ⟨va, h, rfl, ha, hb1, hk1⟩
    have HA0 : Hid (∃ h, ArC h w1 va (List.replicate N 0) ∧ ∀ j, blkC h j → w.heap.size ≤ j) := ⟨h, ha, hk1⟩
    have HB1 := Lib.hid hb1
    obtain ⟨g0, rfl⟩ : ∃ g0, va = .pointer (some ⟨g0, 0, none⟩) := ⟨_, ha.1⟩
    clear ha hk1 hb1 HN
    go_wp2
    go_loopw [8] (fun i wr => ∃ (k : Nat) (l : List Int), k ≤ A.length ∧ i = .int .i64 k ∧ Hid (∃ h, ArC h wr (.pointer (some ⟨g0, 0, none⟩)) l ∧ ∀ j, blkC h j → w.heap.size ≤ j) ∧ Hid (Below w.heap.size w wr)) (fun i _ => A.length - (intOf i).toNat)
    case atStart => exact ⟨0, _, Nat.zero_le _, rfl, HA0.out, HB1.out⟩
    case round =>
      obtain ⟨k, l, hk, rfl, HAr, HB⟩ := hrel
      by_cases hlt : k < A.length
      · have hlt1 : (k : Int) < (A.length : Int) := by omega
        have hlt2 : (k : Int) < (V.length : Int) := by omega
        have hlt0 : (0 : Int) ≤ (k : Int) := by omega
        obtain ⟨ba, oa, rfl, hba, hca⟩ := HA.out (List.ne_nil_of_length_pos (by omega))
        obtain ⟨bv, ov, rfl, hbv, hcv⟩ := HV.out (List.ne_nil_of_length_pos (by omega))
        have wv := bounds_u64 (HV4.out k (by omega))
        obtain ⟨a, hae⟩ : ∃ a, a = A.getD k 0 := ⟨_, rfl⟩
        obtain ⟨v, hve⟩ : ∃ v, v = V.getD k 0 := ⟨_, rfl⟩
        have HCa := Lib.hid (hca k hlt)
        have HCv := Lib.hid (hcv k (by omega))
        rw [← hae] at HCa
        rw [← hve] at wv HCv
        obtain ⟨h, har, hkr⟩ := HAr.out
        have HI := Lib.hid (imageC_exact h _ l wr har)
        have HM := Lib.hid (midB_start har hkr HB.out)
        have hl8 := har.len
        obtain ⟨bw, hbw⟩ : ∃ bw, bw = wr.heap.size := ⟨_, rfl⟩
        rw [← hbw] at HI HM
        have HP := Lib.hid (fun (W : World) (hm : MidB w W (.pointer (some ⟨g0, 0, none⟩)) bw l l) => hm.put a 8 v (by omega) (by omega))
        clear har hkr hca hcv hae hve hbw HA0
        go_wp2_with fail
        refine HI.out.mono ?_
        rintro e w2 ⟨rfl, hw2⟩
        have hm2 : MidB w w2 (.pointer (some ⟨g0, 0, none⟩)) bw l l := by rw [hw2]; exact HM.out
        clear hw2 HM HI
        have c0 := (hm2.bel.cell (p := ⟨ba, oa + k, none⟩) hba).trans HCa.out
        have c1 := (hm2.bel.cell (p := ⟨bv, ov + k, none⟩) hbv).trans HCv.out
        by_cases hs : ste l a 8 v = 0
        · obtain ⟨p, rfl, hp8, hpu, hpl, hld, htk, hdr⟩ := back8 (by omega) (by omega) hs
          rw [hpu] at HP
          obtain ⟨m, hm0⟩ : ∃ m, m = stl l p 8 v := ⟨_, rfl⟩
          rw [← hm0] at HP hpl hld htk hdr
          have HG := Lib.hid (fun (W : World) (hm : MidB w W (.pointer (some ⟨g0, 0, none⟩)) bw l m) => hm.get p 8)
          rw [hld] at HG
          have HL := Lib.hid hpl
          have HT := Lib.hid htk
          have HDr := Lib.hid hdr
          clear hs hpu hm0 hpl hld htk hdr
          go_wp2_with fail
          go_region_held3 (fun w' => w'.cell? ⟨ba, oa + k, none⟩ = some (.int .i64 p) ∧ w'.cell? ⟨bv, ov + k, none⟩ = some (.int .u64 v)) (first | exact ⟨c0, c1⟩ | go_keep) ((first | (go_at_call 17; refine (HP.out _ (by first | exact hm2 | exact hm2.below (Below.refl _ _).drew)).mono ?_; rintro e w3 ⟨rfl, hm3⟩; replace c0 := (hm3.bel.cell (p := ⟨ba, oa + k, none⟩) hba).trans HCa.out; replace c1 := (hm3.bel.cell (p := ⟨bv, ov + k, none⟩) hbv).trans HCv.out)))
          go_wp2_with fail
          refine (HG.out _ hm3).mono ?_
          rintro e w4 ⟨rfl, hm4⟩
          clear hm2 hm3 HG HP c0 c1
          go_wp2_with fail
          refine hm4.image.mono ?_
          rintro e w5 ⟨bn, rfl, hm5, hr5⟩
          have hT1 := (hr5.take (n := p) (by have := HL.out; omega))
          have hT2 := (hm5.row.take (n := p) (by omega))
          rw [HT.out] at hT1
          obtain ⟨T, hT⟩ : ∃ T, T = strOfNums (l.take p) := ⟨_, rfl⟩
          obtain ⟨U, hU⟩ : ∃ U, U = strOfNums (l.drop (p + 8)) := ⟨_, rfl⟩
          have hTT : (T.toList == T.toList) = true := by simp
          have hUU : (U.toList == U.toList) = true := by simp
          have hvv : (v == v) = true := by simp
          have t1 : ∀ kk : Kept w5.heap.size w5, (convert 32 9 (.slice (some ⟨bn, 0, none⟩) p m.length)).run Try.prog kk.w = .ok (.string T) kk.w := fun kk => by
            have := conv_row (hT1.mono kk.below (Nat.le_refl _))
            rwa [← hT] at this
          have t2 : ∀ kk : Kept w5.heap.size w5, (convert 32 9 (.slice (some ⟨bw, 0, none⟩) p l.length)).run Try.prog kk.w = .ok (.string T) kk.w := fun kk => by
            have := conv_row (hT2.mono kk.below (Nat.le_refl _))
            rwa [← hT] at this
          have d0 : ∀ kk : Kept w5.heap.size w5, kk.w.cell? ⟨ba, oa + k, none⟩ = some (.int .i64 p) := Kept.cell ((hm5.bel.cell (p := ⟨ba, oa + k, none⟩) hba).trans HCa.out) (by have := hm5.bel.size; omega)
          have d1 : ∀ kk : Kept w5.heap.size w5, kk.w.cell? ⟨bv, ov + k, none⟩ = some (.int .u64 v) := Kept.cell ((hm5.bel.cell (p := ⟨bv, ov + k, none⟩) hbv).trans HCv.out) (by have := hm5.bel.size; omega)
          have hF1 := hr5.from_ (n := p + 8) (by have := HL.out; omega)
          have hF2 := hm5.row.from_ (n := p + 8) (by omega)
          rw [HDr.out] at hF1
          have p0 : (0 : Int) ≤ (p : Int) := by omega
          have p1 : (p : Int) ≤ (l.length : Int) := by omega
          have p2 : (p : Int) ≤ (m.length : Int) := by have := HL.out; omega
          have HE5 : Hid (∃ h, ArC h w5 (.pointer (some ⟨g0, 0, none⟩)) m ∧ ∀ j, blkC h j → w.heap.size ≤ j) := by
            obtain ⟨h, h1, h2, -⟩ := hm5
            exact ⟨h, h1, h2⟩
          have HB5 := Lib.hid hm5.bel
          obtain ⟨q, hq⟩ : ∃ q : Nat, q = p + 8 := ⟨_, rfl⟩
          have hwq : IntKind.i64.wrap ((p : Int) + 8) = (q : Int) := (wrap_id (by omega) (by omega)).trans (by omega)
          rw [← hq] at hF1 hF2 hU
          have hqL : q ≤ l.length := by omega
          have hql : m.length = l.length := HL.out
          rw [hql] at t1 hF1 p2
          clear hT1 hT2 hr5 hm4 hq HT HDr HL HAr hp8
          by_cases hqe : q = l.length
          · subst hqe
            rw [if_pos rfl, Nat.sub_self] at hF1 hF2
            have u1 : ∀ kk : Kept w5.heap.size w5, (convert 32 9 (.slice (some ⟨bn, 0, none⟩) 0 0)).run Try.prog kk.w = .ok (.string U) kk.w := fun kk => by
              have := conv_row (hF1.mono kk.below (Nat.le_refl _))
              rwa [← hU] at this
            have u2 : ∀ kk : Kept w5.heap.size w5, (convert 32 9 (.slice (some ⟨bw, 0, none⟩) 0 0)).run Try.prog kk.w = .ok (.string U) kk.w := fun kk => by
              have := conv_row (hF2.mono kk.below (Nat.le_refl _))
              rwa [← hU] at this
            clear hF1 hF2 hT hU hm5 hqL
            go_wp2_with fail
            try rw [hql]
            refine wp_region_kept (by kernel_rfl) (by kernel_rfl) ?_
            repeat (go_big_quiet_step (fail))
            refine wpQuiet_nil ?_
            intro _ hw'
            obtain ⟨kk, rfl⟩ := hw'
            have HE6 : Hid (∃ h, ArC h kk.w (.pointer (some ⟨g0, 0, none⟩)) m ∧ ∀ j, blkC h j → w.heap.size ≤ j) := by
              obtain ⟨h, h1, h2⟩ := HE5.out
              exact ⟨h, h1.below kk.below, h2⟩
            have HB6 := Lib.hid (HB5.out.trans (kk.below.mono HB5.out.size))
            generalize kk.w = w6 at HE6 HB6 ⊢
            clear t1 t2 u1 u2 d0 d1 HE5 HB5
            go_wp2
            go_roundw
            case rel => exact ⟨k + 1, m, by omega, by go_num, HE6, HB6⟩
            case measure => simp [intOf]; omega
          · have hqn : q < l.length := by omega
            rw [if_neg (by omega)] at hF1 hF2
            simp only [Option.map_some, Addr_add, Nat.zero_add] at hF1 hF2
            have q1 : (q : Int) ≤ (l.length : Int) := by omega
            have q0 : (0 : Int) ≤ (q : Int) := by omega
            have q2 : ¬ l.length = q := by omega
            have u1 : ∀ kk : Kept w5.heap.size w5, (convert 32 9 (.slice (some ⟨bn, q, none⟩) (l.length - q) (l.length - q))).run Try.prog kk.w = .ok (.string U) kk.w := fun kk => by
              have := conv_row (hF1.mono kk.below (Nat.le_refl _))
              rwa [← hU] at this
            have u2 : ∀ kk : Kept w5.heap.size w5, (convert 32 9 (.slice (some ⟨bw, q, none⟩) (l.length - q) (l.length - q))).run Try.prog kk.w = .ok (.string U) kk.w := fun kk => by
              have := conv_row (hF2.mono kk.below (Nat.le_refl _))
              rwa [← hU] at this
            clear hF1 hF2 hT hU hm5 hqL
            go_wp2_with fail
            try rw [hql]
            refine wp_region_kept (by kernel_rfl) (by kernel_rfl) ?_
            repeat (go_big_quiet_step (fail))
            refine wpQuiet_nil ?_
            intro _ hw'
            obtain ⟨kk, rfl⟩ := hw'
            have HE6 : Hid (∃ h, ArC h kk.w (.pointer (some ⟨g0, 0, none⟩)) m ∧ ∀ j, blkC h j → w.heap.size ≤ j) := by
              obtain ⟨h, h1, h2⟩ := HE5.out
              exact ⟨h, h1.below kk.below, h2⟩
            have HB6 := Lib.hid (HB5.out.trans (kk.below.mono HB5.out.size))
            generalize kk.w = w6 at HE6 HB6 ⊢
            clear t1 t2 u1 u2 d0 d1 HE5 HB5
            go_wp2
            go_roundw
            case rel => exact ⟨k + 1, m, by omega, by go_num, HE6, HB6⟩
            case measure => simp [intOf]; omega
        · have hpu : putA l a 8 v = (l, ste l a 8 v) := by rw [putA, if_neg hs]
          rw [hpu] at HP
          obtain ⟨s, hs0⟩ : ∃ s, s = ste l a 8 v := ⟨_, rfl⟩
          rw [← hs0] at HP hs
          have hs2 : (s == 0) = false := by simpa using hs
          obtain ⟨S, hS⟩ : ∃ S, S = strOfNums l := ⟨_, rfl⟩
          have HS := Lib.hid hS
          have hSS : (S.toList == S.toList) = true := by simp
          clear hpu hs0 hs hS HAr
          go_wp2_with fail
          go_region_held3 (fun w' => w'.cell? ⟨ba, oa + k, none⟩ = some (.int .i64 a) ∧ w'.cell? ⟨bv, ov + k, none⟩ = some (.int .u64 v)) (first | exact ⟨c0, c1⟩ | go_keep) ((first | (go_at_call 17; refine (HP.out _ (by first | exact hm2 | exact hm2.below (Below.refl _ _).drew)).mono ?_; rintro e w3 ⟨rfl, hm3⟩; replace c0 := (hm3.bel.cell (p := ⟨ba, oa + k, none⟩) hba).trans HCa.out; replace c1 := (hm3.bel.cell (p := ⟨bv, ov + k, none⟩) hbv).trans HCv.out)))
          clear hm2 HP c0 c1
          go_wp2_with fail
          have k2 := conv_row hm3.row
          have k2d := conv_row (hm3.row.mono (Below.refl _ _).drew (Nat.le_refl _))
          rw [← HS.out] at k2 k2d
          go_region_with (first | (go_at_call 12; refine (MidB.image (by first | exact hm3 | exact hm3.below (Below.refl _ _).drew)).mono ?_; rintro e w4 ⟨bn, rfl, hm4, hr4⟩; replace hm3 := hm4; have k1 := conv_row hr4; rw [← HS.out] at k1; replace k2 := conv_row hm4.row; rw [← HS.out] at k2; clear hm4 hr4))
          all_goals
            have HE6 := Lib.hid hm3.out
            have HB6 := Lib.hid hm3.bel
            clear hm3
            go_wp2
            go_roundw
            case rel => exact ⟨k + 1, l, by omega, by go_num, HE6, HB6⟩
            case measure => simp [intOf]; omega
      · obtain rfl : k = A.length := by omega
        have hlt1 : ¬ (A.length : Int) < (A.length : Int) := by omega
        clear HAr HA0
        go_wp2_with fail
        refine (HH.out _ HB.out).mono ?_
        rintro e w4 ⟨rfl, hb5⟩
        go_wp2
        go_ret
        exact ⟨rfl, hb5⟩
  · have hm' : mayN n = false := by simpa using hm
    have HN := Lib.hid (newC_no n w hm')
    have HMy := Lib.hid (fun (u : World) => may_any n u)
    rw [hm'] at HMy
    clear hm hm'
    rcases hn2 with hn3 | hn3
    · clear hn hn1
      go_enter Try.func5, Try.ntmps5
      go_wp2_with fail
      refine HN.out.mono ?_
      rintro e w1 ⟨rfl, hb1⟩
      go_wp2_with fail
      refine (HMy.out _).mono ?_
      rintro e w' ⟨rfl, rfl⟩
      go_wp2_with fail
      refine (HH.out _ hb1).mono ?_
      rintro e w2 ⟨rfl, hb2⟩
      go_wp2
      go_ret
      exact ⟨rfl, hb2⟩
    · have hn4 : 4096 < n := by omega
      have hn5 : ¬ n ≤ 1048576 := by omega
      clear hn hn1
      go_enter Try.func5, Try.ntmps5
      go_wp2_with fail
      refine HN.out.mono ?_
      rintro e w1 ⟨rfl, hb1⟩
      go_wp2_with fail
      refine (HMy.out _).mono ?_
      rintro e w' ⟨rfl, rfl⟩
      go_wp2_with fail
      refine (HH.out _ hb1).mono ?_
      rintro e w2 ⟨rfl, hb2⟩
      go_wp2
      go_ret
      exact ⟨rfl, hb2⟩
end Go.Proofs.Ytncbfagmdldclaa.Arn
