/- The walk of ListsPlays. -/
import Derived.Test.YtcakoikcafiolaaDoorJ13
import Derived.Laws.StructEq
namespace Go.Proofs.YtcakoikcafiolaaDoor.Lis
open Go.RowKit Num Arn
open Mem (Mm MemC MRet Hm rd blkM)
set_option linter.unusedVariables false

theorem eq_hd (c l f x p : Int) (w : World) : (Op.equalIn 10000 37 (.agg #[.int .i64 c, .int .i64 l, .int .u32 f, .int .i64 x, .int .i64 p]) (.agg #[.int .i64 c, .int .i64 l, .int .u32 f, .int .i64 x, .int .i64 p])).run Tryd.prog w = .ok true w := by
  rw [show (10000 : Nat) = 9999 + 1 from rfl, run_equalIn_struct w 9999 37 _ _ (by kernel_rfl) (by kernel_rfl)]
  go_simp
theorem right_32 {n : Nat} (h7 : 7 ≤ n) (h64 : n ≤ 64) : Lay.rightC (n : Int) ((32 * n : Nat) : Int) = true := by
  unfold Lay.rightC
  rw [decide_eq_true_iff]
  omega
theorem Two.step {w0 W w' : World} {h : Hm} {C : Cf} {l0 : List Int} {q a b : Nat} {H : List Hx} {L : List Int} (d : Two w0 h C l0 q a b H L W) (h1 : Ls w0 h C l0 H L w') (hf : Fr W.heap.size (blkM h) W w') : Two w0 h C l0 q a b H L w' :=
  ⟨h1, d.dc.fr hf d.dc.lt ⟨d.own.1.2.1, d.own.2.1.2.1, d.own.2.2.2.1⟩, d.own⟩

set_option maxRecDepth 100000 in
set_option maxHeartbeats 8000000 in
theorem listsPlays_walk (n : Int) (v : Value) (A : List Act) (w : World) (ht : Tb w) (hr : ActRow w v A) :
    Calls Tryd.prog 3 #[.int .i64 n, v] w fun e w' => e = .returned (.bool true) ∧ Below w.heap.size w w' := by
  have HW := Lib.hid (fun V (hv : Tb V) => lines_any V hv)
  have HTb := Lib.hid ht
  obtain ⟨ad, cap, U, rfl, q2, q3, q4, q5⟩ := hr
  have HC := Lib.hid q5
  have HS := Lib.hid q4
  clear q4 q5
  by_cases h7 : n < 7
  · clear ht
    go_enter Tryd.func3, Tryd.ntmps3
    go_wp2_with fail
    refine (HW.out _ HTb.out).mono ?_
    rintro e w1 ⟨rfl, hb⟩
    go_wp2
    go_ret
    exact ⟨rfl, hb⟩
  have h7' : decide (n < 7) = false := by rw [decide_eq_false_iff_not]; omega
  by_cases h64 : 64 < n
  · clear ht
    go_enter Tryd.func3, Tryd.ntmps3
    go_wp2_with fail
    refine (HW.out _ HTb.out).mono ?_
    rintro e w1 ⟨rfl, hb⟩
    go_wp2
    go_ret
    exact ⟨rfl, hb⟩
  have h64' : decide (64 < n) = false := by rw [decide_eq_false_iff_not]; omega
  by_cases hL : 60 < A.length
  · have hL1 : (60 : Int) < (A.length : Int) := by omega
    clear ht
    go_enter Tryd.func3, Tryd.ntmps3
    go_wp2_with fail
    refine (HW.out _ HTb.out).mono ?_
    rintro e w1 ⟨rfl, hb⟩
    go_wp2
    go_ret
    exact ⟨rfl, hb⟩
  have hL0 : ¬ (60 : Int) < (A.length : Int) := by omega
  have hL0' : decide ((60 : Int) < (A.length : Int)) = false := by rw [decide_eq_false_iff_not]; omega
  obtain ⟨S, rfl⟩ : ∃ S : Nat, n = S := ⟨n.toNat, by omega⟩
  obtain ⟨M, hM⟩ : ∃ M, M = 32 * S := ⟨_, rfl⟩
  have hw32 : IntKind.i64.wrap (32 * (S : Int)) = (M : Int) := (Arn.wrap_id (by omega) (by omega)).trans (by omega)
  have HN := Lib.hid (begun S M w (by rw [hM]; exact right_32 (by omega) (by omega)) ht)
  have HRb := Lib.hid (fun W => refBegin_any S (by omega) W)
  have hS64 : S ≤ 64 := by omega
  clear hM ht
  go_enter Tryd.func3, Tryd.ntmps3
  go_wp2_with fail
  refine HN.out.mono ?_
  rintro e w1 ⟨C, h, l0, rfl, hC, hCs, hCf, hd1, hB⟩
  have HD1 := Lib.hid hd1
  have HB1 := Lib.hid hB
  have HCs := Lib.hid hCs
  have HCf := Lib.hid hCf
  clear hd1 hB hCs hCf HN
  go_wp2_with fail
  refine (HRb.out _).mono ?_
  rintro e w2 ⟨q, a, b, rfl, hdc, hb2, g1, g2, g3⟩
  have HB := Lib.hid (begun2 hC (HD1.out.below hb2) (by rw [HCs.out]; exact HB1.out))
  have HOw : Hid (Own w h q ∧ Own w h a ∧ Own w h b) := by
    have t := HD1.out.m.tabs
    have hsz := HD1.out.b.size
    have hlt : ∀ k, blkM h k → k < w1.heap.size := HD1.out.m.lt
    exact ⟨⟨by omega, fun z => by have := hlt _ z; omega, by omega, by omega⟩, ⟨by omega, fun z => by have := hlt _ z; omega, by omega, by omega⟩, ⟨by omega, fun z => by have := hlt _ z; omega, by omega, by omega⟩⟩
  have HDc := Lib.hid hdc
  clear hdc hb2 g1 g2 g3 HRb
  go_wp2_with fail
  refine HB.out.mono ?_
  rintro e w3 ⟨rfl, hl3, hf3⟩
  have HT : Hid (Two w h C l0 q a b (List.replicate C.s (0, 0, 0)) (List.replicate C.s 0) w3) := by
    have hd := HDc.out.fr hf3 HDc.out.lt ⟨HOw.out.1.2.1, HOw.out.2.1.2.1, HOw.out.2.2.2.1⟩
    rw [← HCs.out] at hd
    exact ⟨hl3, hd, HOw.out⟩
  clear hl3 hf3 HB HDc HOw HD1 HB1
  go_wp2
  go_loopw [7] (fun i wr => ∃ (j a b : Nat) (H : List Hx) (L : List Int), j ≤ A.length ∧ i = .int .i64 j ∧ Hid (Two w h C l0 q a b H L wr)) (fun i _ => A.length - (intOf i).toNat)
  case atStart => exact ⟨0, _, _, _, _, Nat.zero_le _, rfl, HT.out⟩
  case round =>
    obtain ⟨j, a, b, H, L, hj, rfl, HD⟩ := hrel
    by_cases hlt : j < A.length
    · have hlt1 : (j : Int) < (A.length : Int) := by omega
      have hlt0 : (0 : Int) ≤ (j : Int) := by omega
      obtain ⟨rb, off, rfl, hlb, hc⟩ := HC.out (by rintro rfl; simp at hlt)
      obtain ⟨hs1, hs2, hs3⟩ := HS.out j hlt
      have hcw : ∀ i u, (A.getD j Act.zero).cells[i]? = some u → wr.cell? ⟨rb, off + j * 5 + i, none⟩ = some u := fun i u hi => (HD.out.ls.b.cell (p := ⟨rb, off + j * 5 + i, none⟩) hlb).trans (hc j hlt i u (by rw [hs2]; exact hi))
      obtain ⟨X, hX⟩ : ∃ X, X = A.getD j Act.zero := ⟨_, rfl⟩
      rw [← hX] at hcw hs3
      have HAct := Lib.hid (act_any w h C hC l0 q a b H L X hs3.1 hs3.2 wr HD.out)
      obtain ⟨yk, yc, ys, yl, yf⟩ := X
      have d0 := hcw 0 _ rfl
      rw [Nat.add_zero] at d0
      have d1 := hcw 1 _ rfl
      have d2 := hcw 2 _ rfl
      have d3 := hcw 3 _ rfl
      have d4 := hcw 4 _ rfl
      simp only [] at d0 d1 d2 d3 d4
      unfold Act.agg at HAct
      clear hcw hX hs1 hs2 hs3 hc
      go_wp2_with fail
      refine HAct.out.mono ?_
      rintro e w4 ⟨rfl, a', b', H', L', ht4⟩
      have HT4 := Lib.hid ht4
      clear ht4 HAct d0 d1 d2 d3 d4
      go_wp2
      go_loopw [8] (fun i wq => ∃ s : Int, -1 ≤ s ∧ s ≤ (S : Int) + 1 ∧ i = .int .i64 s ∧ Hid (Two w h C l0 q a' b' H' L' wq)) (fun i _ => S + 2 - (intOf i + 1).toNat)
      case atStart => exact ⟨-1, by omega, by omega, rfl, HT4.out⟩
      case round =>
        obtain ⟨s, hs1, hs2, rfl, HT5⟩ := hrel
        by_cases hsS : s ≤ (S : Int)
        · have HG := Lib.hid (fun W (d : Two w h C l0 q a' b' H' L' W) => d.ls.get hC s)
          have HRG := Lib.hid (fun W (d : Two w h C l0 q a' b' H' L' W) => refGet_any q a' b' C.s H' L' s W d.dc)
          generalize gtD C.s H' L' s = gd at HG HRG
          generalize gtE C.s s = E at HG HRG
          obtain ⟨gc, gl, gf, gx, gp⟩ := gd
          unfold Hd.agg Hd.cells at HG HRG
          simp only at HG HRG
          have heq := fun W => eq_hd gc gl gf gx gp W
          have hEE : (E == E) = true := by simp
          go_wp2_with fail
          refine (HG.out _ HT5.out).mono ?_
          rintro e w5 ⟨rfl, hl5, hf5⟩
          have HT6 := Lib.hid (HT5.out.step hl5 hf5)
          have hal := below_made w5 (.cells (Hd.mk gc gl gf gx gp).cells 37)
          have hbk := heap_alloc_new w5 (.cells (Hd.mk gc gl gf gx gp).cells 37)
          have HT7 := Lib.hid (HT6.out.below hal)
          have HAl := Lib.hid hal
          have HBk := Lib.hid hbk
          have HSz : Hid ((w5.alloc (.cells (Hd.mk gc gl gf gx gp).cells 37)).heap.size = w5.heap.size + 1) := by simp [Hid]
          unfold Hd.cells at HT7 HAl HBk HSz
          simp only at HT7 HAl HBk HSz
          clear hl5 hf5 hal hbk HT5
          go_wp2_with fail
          refine (HRG.out _ HT7.out).mono ?_
          rintro e w6 ⟨rfl, hb6⟩
          have hal2 := below_made w6 (.cells (Hd.mk gc gl gf gx gp).cells 37)
          have hbk2 := heap_alloc_new w6 (.cells (Hd.mk gc gl gf gx gp).cells 37)
          have HT8 := Lib.hid ((HT7.out.below hb6).below hal2)
          have hs6 := hb6.size
          rw [HSz.out] at hs6
          have hbk1 := (hal2.block w5.heap.size (by omega)).trans ((hb6.block w5.heap.size (by rw [HSz.out]; omega)).trans HBk.out)
          obtain ⟨z0, z1, z2, z3, z4⟩ := Hd.five (d := Hd.mk gc gl gf gx gp) hbk1
          obtain ⟨x0, x1, x2, x3, x4⟩ := Hd.five hbk2
          unfold Hd.cells at HT8 z0 z1 z2 z3 z4 x0 x1 x2 x3 x4
          simp only at HT8 z0 z1 z2 z3 z4 x0 x1 x2 x3 x4
          clear hb6 hal2 hbk2 hbk1 HT7 HAl HBk HSz HT6 HG HRG
          go_wp2
          go_roundw
          case rel => exact ⟨s + 1, by omega, by omega, by go_num, HT8.out⟩
          case measure => simp [intOf]; omega
        · have HT9 := Lib.hid HT5.out
          clear HT5
          go_wp2
          go_loopw [13] (fun i wq => ∃ c : Int, -1 ≤ c ∧ c ≤ 11 ∧ i = .int .i64 c ∧ Hid (Two w h C l0 q a' b' H' L' wq)) (fun i _ => 12 - (intOf i + 1).toNat)
          case atStart => exact ⟨-1, by omega, by omega, rfl, HT9.out⟩
          case round =>
            obtain ⟨c, hc1, hc2, rfl, HT5⟩ := hrel
            by_cases hcS : c ≤ 10
            · have HF1 := Lib.hid (HT5.out.ls.first hC c)
              have HF2 := Lib.hid (fun W (d : Two w h C l0 q a' b' H' L' W) => refFirst_any q a' b' C.s H' L' c W d.dc)
              have HA1 := Lib.hid (fun W (d : Two w h C l0 q a' b' H' L' W) => d.ls.all hC c)
              have HA2 := Lib.hid (fun W (d : Two w h C l0 q a' b' H' L' W) => refAll_any q a' b' C.s H' L' c W d.dc)
              generalize fiI L' c = E at HF1 HF2
              generalize ints (alI L' c) = B at HA1 HA2
              have hEE : (E == E) = true := by simp
              go_wp2_with fail
              refine HF1.out.mono ?_
              rintro e w5 ⟨rfl, hl5, hf5⟩
              have HT6 := Lib.hid (HT5.out.step hl5 hf5)
              clear hl5 hf5 HT5 HF1
              go_wp2_with fail
              refine (HF2.out _ HT6.out).mono ?_
              rintro e w6 ⟨rfl, hb6⟩
              have HT7 := Lib.hid (HT6.out.below hb6)
              clear hb6 HT6 HF2
              go_wp2_with fail
              refine (HA1.out _ HT7.out).mono ?_
              rintro e w7 ⟨u7, rfl, hr7, -, hl7, hf7⟩
              have HT8 := Lib.hid (HT7.out.step hl7 hf7)
              have HR7 := Lib.hid hr7
              clear hl7 hf7 HT7 HA1 hr7
              go_wp2_with fail
              refine (HA2.out _ HT8.out).mono ?_
              rintro e w8 ⟨u8, rfl, hr8, -, hb8⟩
              have HT10 := Lib.hid (HT8.out.below hb8)
              have HSm := Lib.hid (refSame_any u7 u8 B w8 (HR7.out.mono hb8 (Nat.le_refl _)) hr8)
              clear hb8 hr8 HT8 HA2 HR7
              go_wp2_with fail
              refine HSm.out.mono ?_
              rintro e w9 ⟨rfl, hb9⟩
              have HT11 := Lib.hid (HT10.out.below hb9)
              clear hb9 HT10 HSm
              go_wp2
              go_roundw
              case rel => exact ⟨c + 1, by omega, by omega, by go_num, HT11.out⟩
              case measure => simp [intOf]; omega
            · have HT12 := Lib.hid HT5.out
              clear HT5
              go_wp2
              go_roundw
              case rel => exact ⟨j + 1, a', b', H', L', by omega, by go_num, HT12.out⟩
              case measure => simp [intOf]; omega
    · obtain rfl : j = A.length := by omega
      have HFa := Lib.hid HD.out.ls.faults
      rw [HCf.out] at HFa
      go_wp2_with fail
      refine HFa.out.mono ?_
      rintro e w5 ⟨rfl, hb5⟩
      have HLs := Lib.hid (HD.out.ls.below hb5)
      clear hb5 HFa
      go_wp2_with fail
      refine (HW.out _ HLs.out.tb).mono ?_
      rintro e w6 ⟨rfl, hb6⟩
      have HE : Hid (Below w.heap.size w w6) := HLs.out.b.trans (hb6.mono HLs.out.b.size)
      clear hb6
      go_wp2
      go_ret
      exact ⟨rfl, HE.out⟩
end Go.Proofs.YtcakoikcafiolaaDoor.Lis
