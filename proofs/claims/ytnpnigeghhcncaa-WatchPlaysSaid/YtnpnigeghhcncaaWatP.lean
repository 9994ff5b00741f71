/- The walk of WatchPlays: the landed watch and the document's, act by act. -/
import Derived.Test.YtnpnigeghhcncaaWatQ
import Derived.Deep.RegionHeld3
namespace Go.Proofs.Ytnpnigeghhcncaa.Wat
open Go.RowKit Num Arn
set_option linter.unusedVariables false

/-- Both stand, apart, and what lay before the walk lies as it lay. -/
structure Two (w W : World) (h g : Hw) (x : List Int) (lk ft : Nat) (y : List Int) (ml mf : Nat) : Prop where
  wa : WaC h W (.pointer (some ⟨h.g, 0, none⟩)) x lk ft
  wr : WaR g W (.pointer (some ⟨g.g, 0, none⟩)) y ml mf
  ap : ∀ k, blkW h k → ¬ blkW g k
  hh : ∀ k, blkW h k → w.heap.size ≤ k
  hg : ∀ k, blkW g k → w.heap.size ≤ k
  bel : Below w.heap.size w W
theorem Two.below {w W W' : World} {h g : Hw} {x y : List Int} {lk ft ml mf : Nat} (m : Two w W h g x lk ft y ml mf) (hb : Below W.heap.size W W') : Two w W' h g x lk ft y ml mf :=
  ⟨m.wa.below hb, m.wr.below hb, m.ap, m.hh, m.hg, m.bel.trans (hb.mono m.bel.size)⟩
theorem Two.frC {w W W' : World} {h g : Hw} {x y x' : List Int} {lk ft ml mf lk' ft' : Nat} (m : Two w W h g x lk ft y ml mf) (hw : WaC h W' (.pointer (some ⟨h.g, 0, none⟩)) x' lk' ft') (hf : Fr W.heap.size (blkW h) W W') : Two w W' h g x' lk' ft' y ml mf :=
  ⟨hw, m.wr.stay hf (fun k hk => ⟨m.wr.lt k hk, fun hh => m.ap k hh hk⟩), m.ap, m.hh, m.hg, m.bel.trans (hf.toBelow m.bel.size (fun k hk hh => by have := m.hh k hh; omega))⟩
theorem Two.frR {w W W' : World} {h g : Hw} {x y y' : List Int} {lk ft ml mf ml' mf' : Nat} (m : Two w W h g x lk ft y ml mf) (hw : WaR g W' (.pointer (some ⟨g.g, 0, none⟩)) y' ml' mf') (hf : Fr W.heap.size (blkW g) W W') : Two w W' h g x lk ft y' ml' mf' :=
  ⟨m.wa.stay hf (fun k hk => ⟨m.wa.lt k hk, fun hh => m.ap k hk hh⟩), hw, m.ap, m.hh, m.hg, m.bel.trans (hf.toBelow m.bel.size (fun k hk hh => by have := m.hg k hh; omega))⟩
/-- And the act, in a block of its own. -/
structure TwoB (w W : World) (h g : Hw) (x : List Int) (lk ft : Nat) (y : List Int) (ml mf : Nat) (N : Nat) (X : Act) : Prop where
  two : Two w W h g x lk ft y ml mf
  bx : Box W N X
  nh : ¬ blkW h N
  ng : ¬ blkW g N
section
variable {w W : World} {h g : Hw} {x y : List Int} {lk ft ml mf N : Nat} {X : Act}
theorem TwoB.below {W' : World} (m : TwoB w W h g x lk ft y ml mf N X) (hb : Below W.heap.size W W') : TwoB w W' h g x lk ft y ml mf N X := ⟨m.two.below hb, m.bx.below hb, m.nh, m.ng⟩
theorem TwoB.drew (m : TwoB w W h g x lk ft y ml mf N X) : TwoB w W.drew h g x lk ft y ml mf N X := m.below (Below.refl _ _).drew
theorem TwoB.lookC (m : TwoB w W h g x lk ft y ml mf N X) (a n k : Int) (h64 : is64 a) (h1 : lk ≤ 1000000) (h2 : ft ≤ 1000000) :
    Calls Try.prog 11 #[.pointer (some ⟨h.g, 0, none⟩), .int .i64 a, .int .i64 n, .int .i64 k] W fun e w' => e = .returned (.bool (lookA x a n k)) ∧ TwoB w w' h g x (lk + 1) (if lookA x a n k then ft else ft + 1) y ml mf N X := by
  refine (look_any h _ x lk ft a n k W m.two.wa h64 h1 h2).mono ?_
  rintro e w' ⟨rfl, hw, hf⟩
  exact ⟨rfl, m.two.frC hw hf, m.bx.fr hf m.bx.lt m.nh, m.nh, m.ng⟩
theorem TwoB.lookR (m : TwoB w W h g x lk ft y ml mf N X) (a n k : Int) (h1 : ml ≤ 1000000) (h2 : mf ≤ 1000000) :
    Calls Try.prog 12 #[.pointer (some ⟨g.g, 0, none⟩), .int .i64 a, .int .i64 n, .int .i64 k] W fun e w' => e = .returned (.bool (lookA y a n k)) ∧ TwoB w w' h g x lk ft y (ml + 1) (if lookA y a n k then mf else mf + 1) N X := by
  refine (refLook_any g _ y ml mf a n k W m.two.wr h1 h2).mono ?_
  rintro e w' ⟨rfl, hw, hf⟩
  exact ⟨rfl, m.two.frR hw hf, m.bx.fr hf m.bx.lt m.ng, m.nh, m.ng⟩
theorem TwoB.markC (m : TwoB w W h g x lk ft y ml mf N X) (a n k : Int) (h64 : is64 a) :
    Calls Try.prog 17 #[.pointer (some ⟨h.g, 0, none⟩), .int .i64 a, .int .i64 n, .int .i64 k] W fun e w' => e = .returned (.int .i64 (mrkA x a n k).2) ∧ TwoB w w' h g (mrkA x a n k).1 lk ft y ml mf N X := by
  refine (mark_any h _ x lk ft a n k W m.two.wa h64).mono ?_
  rintro e w' ⟨rfl, hw, hf⟩
  exact ⟨rfl, m.two.frC hw hf, m.bx.fr hf m.bx.lt m.nh, m.nh, m.ng⟩
theorem TwoB.markR (m : TwoB w W h g x lk ft y ml mf N X) (a n k : Int) :
    Calls Try.prog 18 #[.pointer (some ⟨g.g, 0, none⟩), .int .i64 a, .int .i64 n, .int .i64 k] W fun e w' => e = .returned (.int .i64 (mrkA y a n k).2) ∧ TwoB w w' h g x lk ft (mrkA y a n k).1 ml mf N X := by
  refine (refMark_any g _ y ml mf a n k W m.two.wr).mono ?_
  rintro e w' ⟨rfl, hw, hf⟩
  exact ⟨rfl, m.two.frR hw hf, m.bx.fr hf m.bx.lt m.ng, m.nh, m.ng⟩
theorem TwoB.kindC (m : TwoB w W h g x lk ft y ml mf N X) (a n : Int) (h64 : is64 a) :
    Calls Try.prog 13 #[.pointer (some ⟨h.g, 0, none⟩), .int .i64 a, .int .i64 n] W fun e w' => e = .returned (.int .i64 (kndA x a n)) ∧ TwoB w w' h g x lk ft y ml mf N X := by
  refine (kind_any h _ x lk ft a n W m.two.wa h64).mono ?_
  rintro e w' ⟨rfl, hb⟩
  exact ⟨rfl, m.below hb⟩
theorem TwoB.kindR (m : TwoB w W h g x lk ft y ml mf N X) (a n : Int) :
    Calls Try.prog 14 #[.pointer (some ⟨g.g, 0, none⟩), .int .i64 a, .int .i64 n] W fun e w' => e = .returned (.int .i64 (kndA y a n)) ∧ TwoB w w' h g x lk ft y ml mf N X := by
  refine (refKind_any g _ y ml mf a n W m.two.wr).mono ?_
  rintro e w' ⟨rfl, hb⟩
  exact ⟨rfl, m.below hb⟩
theorem TwoB.sumC (m : TwoB w W h g x lk ft y ml mf N X) (k : Int) :
    Calls Try.prog 15 #[.pointer (some ⟨h.g, 0, none⟩), .int .i64 k] W fun e w' => e = .returned (.int .i64 (cntA x k : Int)) ∧ TwoB w w' h g x lk ft y ml mf N X := by
  refine (sum_any h _ x lk ft k W m.two.wa).mono ?_
  rintro e w' ⟨rfl, hb⟩
  exact ⟨rfl, m.below hb⟩
theorem TwoB.sumR (m : TwoB w W h g x lk ft y ml mf N X) (k : Int) :
    Calls Try.prog 16 #[.pointer (some ⟨g.g, 0, none⟩), .int .i64 k] W fun e w' => e = .returned (.int .i64 (cntA y k : Int)) ∧ TwoB w w' h g x lk ft y ml mf N X := by
  refine (refSum_any g _ y ml mf k W m.two.wr).mono ?_
  rintro e w' ⟨rfl, rfl⟩
  exact ⟨rfl, m⟩
theorem TwoB.c1 {k a n o : Int} (m : TwoB w W h g x lk ft y ml mf N ⟨k, a, n, o⟩) : W.cell? ⟨N, 1, none⟩ = some (.int .i64 a) := m.bx.cells.2.1
theorem TwoB.c2 {k a n o : Int} (m : TwoB w W h g x lk ft y ml mf N ⟨k, a, n, o⟩) : W.cell? ⟨N, 2, none⟩ = some (.int .i64 n) := m.bx.cells.2.2.1
theorem TwoB.c3 {k a n o : Int} (m : TwoB w W h g x lk ft y ml mf N ⟨k, a, n, o⟩) : W.cell? ⟨N, 3, none⟩ = some (.int .i64 o) := m.bx.cells.2.2.2
end

theorem Two.drew {w W : World} {h g : Hw} {x y : List Int} {lk ft ml mf : Nat} (m : Two w W h g x lk ft y ml mf) : Two w W.drew h g x lk ft y ml mf := m.below (Below.refl _ _).drew
theorem Two.runsC {w W : World} {h g : Hw} {x y : List Int} {lk ft ml mf : Nat} (m : Two w W h g x lk ft y ml mf) : Calls Try.prog 22 #[.pointer (some ⟨h.g, 0, none⟩)] W fun e w' => ∃ u, e = .returned u ∧ RowR w' u (rl x x.length) ∧ Below W.heap.size W w' ∧ Two w w' h g x lk ft y ml mf := by
  refine (runsC_any h _ x lk ft W m.wa).mono ?_
  rintro e w' ⟨u, rfl, hr, hb⟩
  exact ⟨u, rfl, hr, hb, m.below hb⟩
theorem Two.runsR {w W : World} {h g : Hw} {x y : List Int} {lk ft ml mf : Nat} (m : Two w W h g x lk ft y ml mf) : Calls Try.prog 23 #[.pointer (some ⟨g.g, 0, none⟩)] W fun e w' => ∃ u, e = .returned u ∧ RowR w' u (rl y y.length) ∧ Below W.heap.size W w' ∧ Two w w' h g x lk ft y ml mf := by
  refine (refRuns_any g _ y ml mf W m.wr).mono ?_
  rintro e w' ⟨u, rfl, hr, hb⟩
  exact ⟨u, rfl, hr, hb, m.below hb⟩
theorem RowR.below {W W' : World} {u : Value} {P : List Rn} (h : RowR W u P) (hb : Below W.heap.size W W') : RowR W' u P := ARow.mono h hb (Nat.le_refl _)

set_option maxRecDepth 100000 in
set_option maxHeartbeats 16000000 in
theorem watchPlays_walk (n : Int) (v : Value) (L : List Act) (w : World) (hr : ActRow w v L) :
    Calls Try.prog 3 #[.int .i64 n, v] w fun e w' => e = .returned (.bool true) ∧ Below w.heap.size w w' := by
  have HW := Lib.hid (watchesW w)
  obtain ⟨ad, cap, U, rfl, q2, q3, q4, q5⟩ := hr
  have HC := Lib.hid q5
  have HS := Lib.hid q4
  clear q4 q5
  by_cases hn : 1024 < n ∧ n ≤ 1048576
  · obtain ⟨n1, n2⟩ := hn
    go_enter Try.func3, Try.ntmps3
    go_wp2_with fail
    refine (HW.out _ (Below.refl _ _)).mono ?_
    rintro e w1 ⟨rfl, hb⟩
    go_wp2
    go_ret
    exact ⟨rfl, hb⟩
  have hn1 : (decide (1024 < n) && decide (n ≤ 1048576)) = false := by
    rw [Bool.and_eq_false_iff, decide_eq_false_iff_not, decide_eq_false_iff_not]; omega
  by_cases hL : 60 < L.length
  · have hL1 : (60 : Int) < (L.length : Int) := by omega
    by_cases h1 : 1024 < n
    · have h2 : ¬ n ≤ 1048576 := by omega
      clear hn hn1
      go_enter Try.func3, Try.ntmps3
      go_wp2_with fail
      refine (HW.out _ (Below.refl _ _)).mono ?_
      rintro e w1 ⟨rfl, hb⟩
      go_wp2
      go_ret
      exact ⟨rfl, hb⟩
    · clear hn hn1
      go_enter Try.func3, Try.ntmps3
      go_wp2_with fail
      refine (HW.out _ (Below.refl _ _)).mono ?_
      rintro e w1 ⟨rfl, hb⟩
      go_wp2
      go_ret
      exact ⟨rfl, hb⟩
  have hL0 : ¬ (60 : Int) < (L.length : Int) := by omega
  have hL0' : decide ((60 : Int) < (L.length : Int)) = false := by rw [decide_eq_false_iff_not]; omega
  by_cases hm : mayW n = true
  · obtain ⟨m1, m2, m3⟩ := mayW_bd hm
    obtain ⟨M, rfl⟩ : ∃ M : Nat, n = M := ⟨n.toNat, by omega⟩
    have hM : M ≤ 1024 := by omega
    have HN1 := Lib.hid (new_yes M w hm)
    have HN2 := Lib.hid (fun (u : World) => refNew_yes M u hm)
    have hn3 : ¬ (1024 : Int) < (M : Int) := by omega
    clear hn hn1 m1 m2 m3 hm
    go_enter Try.func3, Try.ntmps3
    go_wp2_with fail
    refine HN1.out.mono ?_
    rintro e w1 ⟨v1, h, rfl, ha1, hb1, hk1⟩
    obtain rfl := ha1.1
    have HA1 := Lib.hid ha1
    have HB1 := Lib.hid hb1
    have HK1 := Lib.hid hk1
    clear ha1 hb1 hk1 HN1
    go_wp2_with fail
    refine (HN2.out _).mono ?_
    rintro e w2 ⟨v2, g, rfl, hr2, hb2, hk2⟩
    obtain rfl := hr2.1
    have HT : Hid (Two w w2 h g (List.replicate M 0) 0 0 (List.replicate M 0) 0 0) :=
      ⟨HA1.out.below hb2, hr2, fun k hh hg => by have h1 := HA1.out.lt k hh; have h2 := hk2 k hg; omega, HK1.out, fun k hk => Nat.le_trans HB1.out.size (hk2 k hk), HB1.out.trans (hb2.mono HB1.out.size)⟩
    clear hr2 hb2 hk2 HN2 HA1 HB1 HK1
    go_wp2
    go_loopw [7] (fun i wr => ∃ (j : Nat) (x : List Int) (lk ft : Nat), j ≤ L.length ∧ i = .int .i64 j ∧ lk ≤ j ∧ ft ≤ j ∧ Hid (x.length = M) ∧ Hid (Two w wr h g x lk ft x lk ft)) (fun i _ => L.length - (intOf i).toNat)
    case atStart => exact ⟨0, _, 0, 0, Nat.zero_le _, rfl, Nat.le_refl _, Nat.le_refl _, List.length_replicate, HT.out⟩
    case round =>
      obtain ⟨j, x, lk, ft, hj, rfl, hlk, hft, HX, HD⟩ := hrel
      by_cases hlt : j < L.length
      · have hlt1 : (j : Int) < (L.length : Int) := by omega
        have hlt0 : (0 : Int) ≤ (j : Int) := by omega
        obtain ⟨b, off, rfl, hlb, hc⟩ := HC.out (by rintro rfl; simp at hlt)
        obtain ⟨hs1, hs2, -, hx64, -⟩ := HS.out j hlt
        have hcell : ∀ i u, (L.getD j Act.zero).cells[i]? = some u → wr.cell? ⟨b, off + j * 4 + i, none⟩ = some u := fun i u hi => (HD.out.bel.cell (p := ⟨b, off + j * 4 + i, none⟩) hlb).trans (hc j hlt i u (by rw [hs2]; exact hi))
        obtain ⟨X, hX⟩ : ∃ X, X = L.getD j Act.zero := ⟨_, rfl⟩
        rw [← hX] at hcell hx64
        obtain ⟨yk, ya, ym, yo⟩ := X
        have d0 := hcell 0 _ rfl
        have d1 := hcell 1 _ rfl
        have d2 := hcell 2 _ rfl
        have d3 := hcell 3 _ rfl
        rw [Nat.add_zero] at d0
        simp only [] at hx64 d0 d1 d2 d3
        have hal := below_made wr (.cells #[.int .i64 yk, .int .i64 ya, .int .i64 ym, .int .i64 yo] 29)
        have hmB : TwoB w (wr.alloc (.cells #[.int .i64 yk, .int .i64 ya, .int .i64 ym, .int .i64 yo] 29)) h g x lk ft x lk ft wr.heap.size ⟨yk, ya, ym, yo⟩ :=
          ⟨HD.out.below hal, Box.made wr ⟨yk, ya, ym, yo⟩, fun hh => Nat.lt_irrefl _ (HD.out.wa.lt _ hh), fun hh => Nat.lt_irrefl _ (HD.out.wr.lt _ hh)⟩
        have HMB := Lib.hid hmB
        have e0 := hmB.bx.cells.1
        have hlx : lk ≤ 1000 := by omega
        have hfx : ft ≤ 1000 := by omega
        clear hc hs1 hs2 hcell hX hal hmB
        by_cases k2 : yk = 2
        · subst k2
          obtain ⟨r, hr⟩ : ∃ r, r = lookA x ya ym yo := ⟨_, rfl⟩
          obtain ⟨l2, hl2⟩ : ∃ l2, l2 = lk + 1 := ⟨_, rfl⟩
          obtain ⟨f2, hf2⟩ : ∃ f2, f2 = if r then ft else ft + 1 := ⟨_, rfl⟩
          have HC1 := Lib.hid (fun (V : World) (hm : TwoB w V h g x lk ft x lk ft wr.heap.size ⟨2, ya, ym, yo⟩) => hm.lookC ya ym yo hx64 (by omega) (by omega))
          have HC2 := Lib.hid (fun (V : World) (hm : TwoB w V h g x l2 f2 x lk ft wr.heap.size ⟨2, ya, ym, yo⟩) => hm.lookR ya ym yo (by omega) (by omega))
          rw [← hr, ← hl2, ← hf2] at HC1 HC2
          have hf3 : f2 ≤ ft + 1 := by rw [hf2]; split <;> omega
          have hrr : (r == r) = true := by simp
          have HX4 := HX
          clear hr hf2
          go_wp2_with fail
          have hm2 := HMB.out
          have c1 := hm2.c1
          have c2 := hm2.c2
          have c3 := hm2.c3
          generalize wr.alloc (.cells #[.int .i64 2, .int .i64 ya, .int .i64 ym, .int .i64 yo] 29) = W1 at hm2 c1 c2 c3 ⊢
          go_region_held3 (fun w' => w'.cell? ⟨wr.heap.size, 1, none⟩ = some (.int .i64 ya) ∧ w'.cell? ⟨wr.heap.size, 2, none⟩ = some (.int .i64 ym) ∧ w'.cell? ⟨wr.heap.size, 3, none⟩ = some (.int .i64 yo)) (first | exact ⟨c1, c2, c3⟩ | go_keep) ((first | (go_at_call 11; refine (HC1.out _ (by first | exact hm2 | exact hm2.drew)).mono ?_; rintro e w3 ⟨rfl, hm3⟩; replace c1 := hm3.c1; replace c2 := hm3.c2; replace c3 := hm3.c3) | (go_at_call 12; refine (HC2.out _ hm3).mono ?_; rintro e w4 ⟨rfl, hm4⟩; replace c1 := hm4.c1; replace c2 := hm4.c2; replace c3 := hm4.c3)))
          clear hm2 hm3 c1 c2 c3 HC1 HC2 HMB
          have HD4 := Lib.hid hm4.two
          have HLo := Lib.hid (fun (V : World) (hm : Two w V h g x l2 f2 x l2 f2) => looks_any h _ x l2 f2 V hm.wa)
          have HFa := Lib.hid (fun (V : World) (hm : Two w V h g x l2 f2 x l2 f2) => faults_any h _ x l2 f2 V hm.wa)
          have HR1 := Lib.hid (fun (V : World) (hm : Two w V h g x l2 f2 x l2 f2) => hm.runsC)
          have HR2 := Lib.hid (fun (V : World) (hm : Two w V h g x l2 f2 x l2 f2) => hm.runsR)
          have ht := hm4.two
          have z1 := ht.wr.cells.2.1
          have z2 := ht.wr.cells.2.2
          have hll : ((l2 : Int) != (l2 : Int)) = false := by simp
          have hff : ((f2 : Int) != (f2 : Int)) = false := by simp
          clear hm4
          go_wp2_with fail
          go_region_held3 (fun w' => w'.cell? ⟨g.g, 1, none⟩ = some (.int .i64 (l2 : Int)) ∧ w'.cell? ⟨g.g, 2, none⟩ = some (.int .i64 (f2 : Int))) (first | exact ⟨z1, z2⟩ | go_keep) ((first | (go_at_call 19; refine (HLo.out _ (by first | exact ht | exact ht.drew)).mono ?_; rintro e w6 ⟨rfl, rfl⟩) | (go_at_call 20; refine (HFa.out _ (by first | exact ht | exact ht.drew)).mono ?_; rintro e w6 ⟨rfl, rfl⟩) | (go_at_call 22; refine (HR1.out _ (by first | exact ht | exact ht.drew)).mono ?_; rintro e w6 ⟨u1, rfl, hr1, hb1, ht6⟩; replace ht := ht6; replace z1 := ht6.wr.cells.2.1; replace z2 := ht6.wr.cells.2.2) | (go_at_call 23; refine (HR2.out _ ht).mono ?_; rintro e w7 ⟨u2, rfl, hr2, hb2, ht7⟩; replace hr1 := hr1.below hb2; replace ht := ht7; replace z1 := ht7.wr.cells.2.1; replace z2 := ht7.wr.cells.2.2) | (go_at_call 21; refine (sameW_any _ _ _ _ hr1 hr2).mono ?_; rintro e w8 ⟨rfl, mm, rfl⟩)))
          have HD5 := Lib.hid (ht.below (below_drewN (Below.refl _ _) mm))
          clear ht z1 z2 hr1 hr2
          go_wp2
          go_roundw
          case rel => exact ⟨j + 1, x, l2, f2, by omega, by go_num, by omega, by omega, HX4.out, HD5.out⟩
          case measure => simp [intOf]; omega
        by_cases k3 : yk = 3
        · subst k3
          obtain ⟨r, hr⟩ : ∃ r, r = lookA x ya ym yo := ⟨_, rfl⟩
          obtain ⟨l2, hl2⟩ : ∃ l2, l2 = lk + 1 := ⟨_, rfl⟩
          obtain ⟨f2, hf2⟩ : ∃ f2, f2 = if r then ft else ft + 1 := ⟨_, rfl⟩
          have HC1 := Lib.hid (fun (V : World) (hm : TwoB w V h g x lk ft x lk ft wr.heap.size ⟨3, ya, ym, yo⟩) => hm.lookC ya ym yo hx64 (by omega) (by omega))
          have HC2 := Lib.hid (fun (V : World) (hm : TwoB w V h g x l2 f2 x lk ft wr.heap.size ⟨3, ya, ym, yo⟩) => hm.lookR ya ym yo (by omega) (by omega))
          rw [← hr, ← hl2, ← hf2] at HC1 HC2
          have hf3 : f2 ≤ ft + 1 := by rw [hf2]; split <;> omega
          have hrr : (r == r) = true := by simp
          have HX4 := HX
          clear hr hf2
          go_wp2_with fail
          have hm2 := HMB.out
          have c1 := hm2.c1
          have c2 := hm2.c2
          have c3 := hm2.c3
          generalize wr.alloc (.cells #[.int .i64 3, .int .i64 ya, .int .i64 ym, .int .i64 yo] 29) = W1 at hm2 c1 c2 c3 ⊢
          go_region_held3 (fun w' => w'.cell? ⟨wr.heap.size, 1, none⟩ = some (.int .i64 ya) ∧ w'.cell? ⟨wr.heap.size, 2, none⟩ = some (.int .i64 ym) ∧ w'.cell? ⟨wr.heap.size, 3, none⟩ = some (.int .i64 yo)) (first | exact ⟨c1, c2, c3⟩ | go_keep) ((first | (go_at_call 11; refine (HC1.out _ (by first | exact hm2 | exact hm2.drew)).mono ?_; rintro e w3 ⟨rfl, hm3⟩; replace c1 := hm3.c1; replace c2 := hm3.c2; replace c3 := hm3.c3) | (go_at_call 12; refine (HC2.out _ hm3).mono ?_; rintro e w4 ⟨rfl, hm4⟩; replace c1 := hm4.c1; replace c2 := hm4.c2; replace c3 := hm4.c3)))
          clear hm2 hm3 c1 c2 c3 HC1 HC2 HMB
          have HD4 := Lib.hid hm4.two
          have HLo := Lib.hid (fun (V : World) (hm : Two w V h g x l2 f2 x l2 f2) => looks_any h _ x l2 f2 V hm.wa)
          have HFa := Lib.hid (fun (V : World) (hm : Two w V h g x l2 f2 x l2 f2) => faults_any h _ x l2 f2 V hm.wa)
          have HR1 := Lib.hid (fun (V : World) (hm : Two w V h g x l2 f2 x l2 f2) => hm.runsC)
          have HR2 := Lib.hid (fun (V : World) (hm : Two w V h g x l2 f2 x l2 f2) => hm.runsR)
          have ht := hm4.two
          have z1 := ht.wr.cells.2.1
          have z2 := ht.wr.cells.2.2
          have hll : ((l2 : Int) != (l2 : Int)) = false := by simp
          have hff : ((f2 : Int) != (f2 : Int)) = false := by simp
          clear hm4
          go_wp2_with fail
          go_region_held3 (fun w' => w'.cell? ⟨g.g, 1, none⟩ = some (.int .i64 (l2 : Int)) ∧ w'.cell? ⟨g.g, 2, none⟩ = some (.int .i64 (f2 : Int))) (first | exact ⟨z1, z2⟩ | go_keep) ((first | (go_at_call 19; refine (HLo.out _ (by first | exact ht | exact ht.drew)).mono ?_; rintro e w6 ⟨rfl, rfl⟩) | (go_at_call 20; refine (HFa.out _ (by first | exact ht | exact ht.drew)).mono ?_; rintro e w6 ⟨rfl, rfl⟩) | (go_at_call 22; refine (HR1.out _ (by first | exact ht | exact ht.drew)).mono ?_; rintro e w6 ⟨u1, rfl, hr1, hb1, ht6⟩; replace ht := ht6; replace z1 := ht6.wr.cells.2.1; replace z2 := ht6.wr.cells.2.2) | (go_at_call 23; refine (HR2.out _ ht).mono ?_; rintro e w7 ⟨u2, rfl, hr2, hb2, ht7⟩; replace hr1 := hr1.below hb2; replace ht := ht7; replace z1 := ht7.wr.cells.2.1; replace z2 := ht7.wr.cells.2.2) | (go_at_call 21; refine (sameW_any _ _ _ _ hr1 hr2).mono ?_; rintro e w8 ⟨rfl, mm, rfl⟩)))
          have HD5 := Lib.hid (ht.below (below_drewN (Below.refl _ _) mm))
          clear ht z1 z2 hr1 hr2
          go_wp2
          go_roundw
          case rel => exact ⟨j + 1, x, l2, f2, by omega, by go_num, by omega, by omega, HX4.out, HD5.out⟩
          case measure => simp [intOf]; omega
        by_cases k4 : yk = 4
        · subst k4
          have HC1 := Lib.hid (fun (V : World) (hm : TwoB w V h g x lk ft x lk ft wr.heap.size ⟨4, ya, ym, yo⟩) => hm.kindC ya ym hx64)
          have HC2 := Lib.hid (fun (V : World) (hm : TwoB w V h g x lk ft x lk ft wr.heap.size ⟨4, ya, ym, yo⟩) => hm.kindR ya ym)
          obtain ⟨r, hr⟩ : ∃ r, r = kndA x ya ym := ⟨_, rfl⟩
          rw [← hr] at HC1 HC2
          have hrr : (r == r) = true := by simp
          have HX4 := HX
          clear hr
          go_wp2_with fail
          have hm2 := HMB.out
          have c1 := hm2.c1
          have c2 := hm2.c2
          have c3 := hm2.c3
          generalize wr.alloc (.cells #[.int .i64 4, .int .i64 ya, .int .i64 ym, .int .i64 yo] 29) = W1 at hm2 c1 c2 c3 ⊢
          go_region_held3 (fun w' => w'.cell? ⟨wr.heap.size, 1, none⟩ = some (.int .i64 ya) ∧ w'.cell? ⟨wr.heap.size, 2, none⟩ = some (.int .i64 ym) ∧ w'.cell? ⟨wr.heap.size, 3, none⟩ = some (.int .i64 yo)) (first | exact ⟨c1, c2, c3⟩ | go_keep) ((first | (go_at_call 13; refine (HC1.out _ (by first | exact hm2 | exact hm2.drew)).mono ?_; rintro e w3 ⟨rfl, hm3⟩; replace c1 := hm3.c1; replace c2 := hm3.c2; replace c3 := hm3.c3) | (go_at_call 14; refine (HC2.out _ hm3).mono ?_; rintro e w4 ⟨rfl, hm4⟩; replace c1 := hm4.c1; replace c2 := hm4.c2; replace c3 := hm4.c3)))
          clear hm2 hm3 c1 c2 c3 HC1 HC2 HMB
          have HD4 := Lib.hid hm4.two
          have HLo := Lib.hid (fun (V : World) (hm : Two w V h g x lk ft x lk ft) => looks_any h _ x lk ft V hm.wa)
          have HFa := Lib.hid (fun (V : World) (hm : Two w V h g x lk ft x lk ft) => faults_any h _ x lk ft V hm.wa)
          have HR1 := Lib.hid (fun (V : World) (hm : Two w V h g x lk ft x lk ft) => hm.runsC)
          have HR2 := Lib.hid (fun (V : World) (hm : Two w V h g x lk ft x lk ft) => hm.runsR)
          have ht := hm4.two
          have z1 := ht.wr.cells.2.1
          have z2 := ht.wr.cells.2.2
          have hll : ((lk : Int) != (lk : Int)) = false := by simp
          have hff : ((ft : Int) != (ft : Int)) = false := by simp
          clear hm4
          go_wp2_with fail
          go_region_held3 (fun w' => w'.cell? ⟨g.g, 1, none⟩ = some (.int .i64 (lk : Int)) ∧ w'.cell? ⟨g.g, 2, none⟩ = some (.int .i64 (ft : Int))) (first | exact ⟨z1, z2⟩ | go_keep) ((first | (go_at_call 19; refine (HLo.out _ (by first | exact ht | exact ht.drew)).mono ?_; rintro e w6 ⟨rfl, rfl⟩) | (go_at_call 20; refine (HFa.out _ (by first | exact ht | exact ht.drew)).mono ?_; rintro e w6 ⟨rfl, rfl⟩) | (go_at_call 22; refine (HR1.out _ (by first | exact ht | exact ht.drew)).mono ?_; rintro e w6 ⟨u1, rfl, hr1, hb1, ht6⟩; replace ht := ht6; replace z1 := ht6.wr.cells.2.1; replace z2 := ht6.wr.cells.2.2) | (go_at_call 23; refine (HR2.out _ ht).mono ?_; rintro e w7 ⟨u2, rfl, hr2, hb2, ht7⟩; replace hr1 := hr1.below hb2; replace ht := ht7; replace z1 := ht7.wr.cells.2.1; replace z2 := ht7.wr.cells.2.2) | (go_at_call 21; refine (sameW_any _ _ _ _ hr1 hr2).mono ?_; rintro e w8 ⟨rfl, mm, rfl⟩)))
          have HD5 := Lib.hid (ht.below (below_drewN (Below.refl _ _) mm))
          clear ht z1 z2 hr1 hr2
          go_wp2
          go_roundw
          case rel => exact ⟨j + 1, x, lk, ft, by omega, by go_num, by omega, by omega, HX4.out, HD5.out⟩
          case measure => simp [intOf]; omega
        by_cases k5 : yk = 5
        · subst k5
          have HC1 := Lib.hid (fun (V : World) (hm : TwoB w V h g x lk ft x lk ft wr.heap.size ⟨5, ya, ym, yo⟩) => hm.sumC yo)
          have HC2 := Lib.hid (fun (V : World) (hm : TwoB w V h g x lk ft x lk ft wr.heap.size ⟨5, ya, ym, yo⟩) => hm.sumR yo)
          obtain ⟨r, hr⟩ : ∃ r, r = cntA x yo := ⟨_, rfl⟩
          rw [← hr] at HC1 HC2
          have hrr : ((r : Int) == (r : Int)) = true := by simp
          have HX4 := HX
          clear hr
          go_wp2_with fail
          have hm2 := HMB.out
          have c1 := hm2.c1
          have c2 := hm2.c2
          have c3 := hm2.c3
          generalize wr.alloc (.cells #[.int .i64 5, .int .i64 ya, .int .i64 ym, .int .i64 yo] 29) = W1 at hm2 c1 c2 c3 ⊢
          go_region_held3 (fun w' => w'.cell? ⟨wr.heap.size, 1, none⟩ = some (.int .i64 ya) ∧ w'.cell? ⟨wr.heap.size, 2, none⟩ = some (.int .i64 ym) ∧ w'.cell? ⟨wr.heap.size, 3, none⟩ = some (.int .i64 yo)) (first | exact ⟨c1, c2, c3⟩ | go_keep) ((first | (go_at_call 15; refine (HC1.out _ (by first | exact hm2 | exact hm2.drew)).mono ?_; rintro e w3 ⟨rfl, hm3⟩; replace c1 := hm3.c1; replace c2 := hm3.c2; replace c3 := hm3.c3) | (go_at_call 16; refine (HC2.out _ hm3).mono ?_; rintro e w4 ⟨rfl, hm4⟩; replace c1 := hm4.c1; replace c2 := hm4.c2; replace c3 := hm4.c3)))
          clear hm2 hm3 c1 c2 c3 HC1 HC2 HMB
          have HD4 := Lib.hid hm4.two
          have HLo := Lib.hid (fun (V : World) (hm : Two w V h g x lk ft x lk ft) => looks_any h _ x lk ft V hm.wa)
          have HFa := Lib.hid (fun (V : World) (hm : Two w V h g x lk ft x lk ft) => faults_any h _ x lk ft V hm.wa)
          have HR1 := Lib.hid (fun (V : World) (hm : Two w V h g x lk ft x lk ft) => hm.runsC)
          have HR2 := Lib.hid (fun (V : World) (hm : Two w V h g x lk ft x lk ft) => hm.runsR)
          have ht := hm4.two
          have z1 := ht.wr.cells.2.1
          have z2 := ht.wr.cells.2.2
          have hll : ((lk : Int) != (lk : Int)) = false := by simp
          have hff : ((ft : Int) != (ft : Int)) = false := by simp
          clear hm4
          go_wp2_with fail
          go_region_held3 (fun w' => w'.cell? ⟨g.g, 1, none⟩ = some (.int .i64 (lk : Int)) ∧ w'.cell? ⟨g.g, 2, none⟩ = some (.int .i64 (ft : Int))) (first | exact ⟨z1, z2⟩ | go_keep) ((first | (go_at_call 19; refine (HLo.out _ (by first | exact ht | exact ht.drew)).mono ?_; rintro e w6 ⟨rfl, rfl⟩) | (go_at_call 20; refine (HFa.out _ (by first | exact ht | exact ht.drew)).mono ?_; rintro e w6 ⟨rfl, rfl⟩) | (go_at_call 22; refine (HR1.out _ (by first | exact ht | exact ht.drew)).mono ?_; rintro e w6 ⟨u1, rfl, hr1, hb1, ht6⟩; replace ht := ht6; replace z1 := ht6.wr.cells.2.1; replace z2 := ht6.wr.cells.2.2) | (go_at_call 23; refine (HR2.out _ ht).mono ?_; rintro e w7 ⟨u2, rfl, hr2, hb2, ht7⟩; replace hr1 := hr1.below hb2; replace ht := ht7; replace z1 := ht7.wr.cells.2.1; replace z2 := ht7.wr.cells.2.2) | (go_at_call 21; refine (sameW_any _ _ _ _ hr1 hr2).mono ?_; rintro e w8 ⟨rfl, mm, rfl⟩)))
          have HD5 := Lib.hid (ht.below (below_drewN (Below.refl _ _) mm))
          clear ht z1 z2 hr1 hr2
          go_wp2
          go_roundw
          case rel => exact ⟨j + 1, x, lk, ft, by omega, by go_num, by omega, by omega, HX4.out, HD5.out⟩
          case measure => simp [intOf]; omega
        have e2 : (yk == 2) = false := by simpa using k2
        have e3 : (yk == 3) = false := by simpa using k3
        have e4 : (yk == 4) = false := by simpa using k4
        have e5 : (yk == 5) = false := by simpa using k5
        obtain ⟨x', hx'⟩ : ∃ x', x' = (mrkA x ya ym yo).1 := ⟨_, rfl⟩
        have HC1 := Lib.hid (fun (V : World) (hm : TwoB w V h g x lk ft x lk ft wr.heap.size ⟨yk, ya, ym, yo⟩) => hm.markC ya ym yo hx64)
        have HC2 := Lib.hid (fun (V : World) (hm : TwoB w V h g x' lk ft x lk ft wr.heap.size ⟨yk, ya, ym, yo⟩) => hm.markR ya ym yo)
        obtain ⟨r, hr⟩ : ∃ r, r = (mrkA x ya ym yo).2 := ⟨_, rfl⟩
        rw [← hr, ← hx'] at HC1 HC2
        have hrr : (r == r) = true := by simp
        have HX4 : Hid (x'.length = M) := by unfold Hid; rw [hx', mrkA_length]; exact HX.out
        clear hr hx'
        go_wp2_with fail
        have hm2 := HMB.out
        have c1 := hm2.c1
        have c2 := hm2.c2
        have c3 := hm2.c3
        generalize wr.alloc (.cells #[.int .i64 yk, .int .i64 ya, .int .i64 ym, .int .i64 yo] 29) = W1 at hm2 c1 c2 c3 ⊢
        go_region_held3 (fun w' => w'.cell? ⟨wr.heap.size, 1, none⟩ = some (.int .i64 ya) ∧ w'.cell? ⟨wr.heap.size, 2, none⟩ = some (.int .i64 ym) ∧ w'.cell? ⟨wr.heap.size, 3, none⟩ = some (.int .i64 yo)) (first | exact ⟨c1, c2, c3⟩ | go_keep) ((first | (go_at_call 17; refine (HC1.out _ (by first | exact hm2 | exact hm2.drew)).mono ?_; rintro e w3 ⟨rfl, hm3⟩; replace c1 := hm3.c1; replace c2 := hm3.c2; replace c3 := hm3.c3) | (go_at_call 18; refine (HC2.out _ hm3).mono ?_; rintro e w4 ⟨rfl, hm4⟩; replace c1 := hm4.c1; replace c2 := hm4.c2; replace c3 := hm4.c3)))
        clear hm2 hm3 c1 c2 c3 HC1 HC2 HMB
        have HD4 := Lib.hid hm4.two
        have HLo := Lib.hid (fun (V : World) (hm : Two w V h g x' lk ft x' lk ft) => looks_any h _ x' lk ft V hm.wa)
        have HFa := Lib.hid (fun (V : World) (hm : Two w V h g x' lk ft x' lk ft) => faults_any h _ x' lk ft V hm.wa)
        have HR1 := Lib.hid (fun (V : World) (hm : Two w V h g x' lk ft x' lk ft) => hm.runsC)
        have HR2 := Lib.hid (fun (V : World) (hm : Two w V h g x' lk ft x' lk ft) => hm.runsR)
        have ht := hm4.two
        have z1 := ht.wr.cells.2.1
        have z2 := ht.wr.cells.2.2
        have hll : ((lk : Int) != (lk : Int)) = false := by simp
        have hff : ((ft : Int) != (ft : Int)) = false := by simp
        clear hm4
        go_wp2_with fail
        go_region_held3 (fun w' => w'.cell? ⟨g.g, 1, none⟩ = some (.int .i64 (lk : Int)) ∧ w'.cell? ⟨g.g, 2, none⟩ = some (.int .i64 (ft : Int))) (first | exact ⟨z1, z2⟩ | go_keep) ((first | (go_at_call 19; refine (HLo.out _ (by first | exact ht | exact ht.drew)).mono ?_; rintro e w6 ⟨rfl, rfl⟩) | (go_at_call 20; refine (HFa.out _ (by first | exact ht | exact ht.drew)).mono ?_; rintro e w6 ⟨rfl, rfl⟩) | (go_at_call 22; refine (HR1.out _ (by first | exact ht | exact ht.drew)).mono ?_; rintro e w6 ⟨u1, rfl, hr1, hb1, ht6⟩; replace ht := ht6; replace z1 := ht6.wr.cells.2.1; replace z2 := ht6.wr.cells.2.2) | (go_at_call 23; refine (HR2.out _ ht).mono ?_; rintro e w7 ⟨u2, rfl, hr2, hb2, ht7⟩; replace hr1 := hr1.below hb2; replace ht := ht7; replace z1 := ht7.wr.cells.2.1; replace z2 := ht7.wr.cells.2.2) | (go_at_call 21; refine (sameW_any _ _ _ _ hr1 hr2).mono ?_; rintro e w8 ⟨rfl, mm, rfl⟩)))
        have HD5 := Lib.hid (ht.below (below_drewN (Below.refl _ _) mm))
        clear ht z1 z2 hr1 hr2
        go_wp2
        go_roundw
        case rel => exact ⟨j + 1, x', lk, ft, by omega, by go_num, by omega, by omega, HX4.out, HD5.out⟩
        case measure => simp [intOf]; omega
      · obtain rfl : j = L.length := by omega
        go_wp2_with fail
        refine (HW.out _ HD.out.bel).mono ?_
        rintro e w3 ⟨rfl, hb3⟩
        go_wp2
        go_ret
        exact ⟨rfl, hb3⟩
  · have hm' : mayW n = false := by simpa using hm
    have HN1 := Lib.hid (new_no n w hm')
    have HN2 := Lib.hid (refNew_no n w hm')
    clear hm hm'
    by_cases h1 : 1024 < n
    · have h2 : ¬ n ≤ 1048576 := by omega
      clear hn hn1
      go_enter Try.func3, Try.ntmps3
      go_wp2_with fail
      refine HN1.out.mono ?_
      rintro e w' ⟨rfl, rfl⟩
      go_wp2_with fail
      refine HN2.out.mono ?_
      rintro e w' ⟨rfl, rfl⟩
      go_wp2_with fail
      refine (HW.out _ (Below.refl _ _)).mono ?_
      rintro e w2 ⟨rfl, hb2⟩
      go_wp2
      go_ret
      exact ⟨rfl, hb2⟩
    · clear hn hn1
      go_enter Try.func3, Try.ntmps3
      go_wp2_with fail
      refine HN1.out.mono ?_
      rintro e w' ⟨rfl, rfl⟩
      go_wp2_with fail
      refine HN2.out.mono ?_
      rintro e w' ⟨rfl, rfl⟩
      go_wp2_with fail
      refine (HW.out _ (Below.refl _ _)).mono ?_
      rintro e w2 ⟨rfl, hb2⟩
      go_wp2
      go_ret
      exact ⟨rfl, hb2⟩
end Go.Proofs.Ytnpnigeghhcncaa.Wat
