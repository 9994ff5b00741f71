/- The walk of IndexFinds. -/
import Derived.Test.YtcpfnmphcndmjaaGreatDoorJ24
import Derived.Deep.Cut
namespace Go.Proofs.YtcpfnmphcndmjaaGreatDoor.Ind
open Go.RowKit Num
open Pro
open Mem (Mm MemC MRet Hm rd blkM)
open Sla (Sl St Lv pl aT pV Lo tkF Ts X0)
open Arn (wrL is64)
set_option linter.unusedVariables false
set_option maxRecDepth 100000

theorem box8 {W V : World} {h : Hm} {w0 : Nat} {kd N p : Int} {nd : Bool} {nm ty hs : Int} {lb : ByteArray} (hg : W.heap[w0]? = some (.cells #[.int .i64 kd, .int .i64 N, .int .i64 p, .bool nd, .int .u32 nm, .int .u16 ty, .string lb, .int .u32 hs] 35 (0, 0))) :
    W.cell? ⟨w0, 0, none⟩ = some (.int .i64 kd) ∧ W.cell? ⟨w0, 1, none⟩ = some (.int .i64 N) ∧ W.cell? ⟨w0, 2, none⟩ = some (.int .i64 p) ∧ W.cell? ⟨w0, 3, none⟩ = some (.bool nd) ∧ W.cell? ⟨w0, 4, none⟩ = some (.int .u32 nm) ∧ W.cell? ⟨w0, 5, none⟩ = some (.int .u16 ty) ∧ W.cell? ⟨w0, 6, none⟩ = some (.string lb) ∧ W.cell? ⟨w0, 7, none⟩ = some (.int .u32 hs) :=
  ⟨(cell_block hg 0).trans rfl, (cell_block hg 1).trans rfl, (cell_block hg 2).trans rfl, (cell_block hg 3).trans rfl, (cell_block hg 4).trans rfl, (cell_block hg 5).trans rfl, (cell_block hg 6).trans rfl, (cell_block hg 7).trans rfl⟩
theorem box6 {W V : World} {h : Hm} {w0 : Nat} {p : Int} {nd : Bool} {nm ty hs : Int} {lb : ByteArray} (hg : W.heap[w0]? = some (.cells #[.int .i64 p, .bool nd, .int .u32 nm, .int .u16 ty, .string lb, .int .u32 hs] 33 (0, 0))) :
    W.cell? ⟨w0, 0, none⟩ = some (.int .i64 p) ∧ W.cell? ⟨w0, 1, none⟩ = some (.bool nd) ∧ W.cell? ⟨w0, 2, none⟩ = some (.int .u32 nm) ∧ W.cell? ⟨w0, 3, none⟩ = some (.int .u16 ty) ∧ W.cell? ⟨w0, 4, none⟩ = some (.string lb) ∧ W.cell? ⟨w0, 5, none⟩ = some (.int .u32 hs) :=
  ⟨(cell_block hg 0).trans rfl, (cell_block hg 1).trans rfl, (cell_block hg 2).trans rfl, (cell_block hg 3).trans rfl, (cell_block hg 4).trans rfl, (cell_block hg 5).trans rfl⟩
set_option maxHeartbeats 8000000 in
theorem indexFinds_walk (v : Value) (Q : List Act) (w : World) (ht : Ts w) (hr : ActRow w v Q) :
    Calls Tryz.prog 4 #[v] w fun e w' => e = .returned (.bool true) ∧ Below w.heap.size w w' := by
  have HR := Lib.hid hr
  have HTs := Lib.hid ht
  have HNm := Lib.hid (fun V (hv : Ts V) => names_any V hv)
  have HFw := Lib.hid (few_any v Q w hr)
  have HFr := Lib.hid (fun V (hv : Ts V) => fresh_any V hv)
  obtain ⟨ad, cap, U, rfl, q2, q3, q4, q5⟩ := hr
  have hc2 : (Q.length : Int) ≤ 9223372036854775807 := by omega
  clear U q4 q5 ht
  by_cases hL : 120 < Q.length
  · have hL1 : (120 : Int) < (Q.length : Int) := by omega
    go_enter Tryz.func4, Tryz.ntmps4
    go_wp2_with fail
    refine (HNm.out _ HTs.out).mono ?_
    rintro e w1 ⟨rfl, hb1⟩
    go_wp2
    go_ret
    exact ⟨rfl, hb1⟩
  have hL0 : ¬ (120 : Int) < (Q.length : Int) := by omega
  go_enter Tryz.func4, Tryz.ntmps4
  go_wp2_with fail
  refine HFw.out.mono ?_
  rintro e w1 ⟨⟨o, rfl, ho⟩, hb1⟩
  have HB1 := Lib.hid hb1
  cases o with
  | false =>
    clear hb1 ho HFw HFr
    go_wp2_with fail
    refine (HNm.out _ (HTs.out.keep HB1.out)).mono ?_
    rintro e w2 ⟨rfl, hb2⟩
    have HE := Lib.hid (HB1.out.trans (hb2.mono HB1.out.size))
    clear hb2
    go_wp2
    go_ret
    exact ⟨rfl, HE.out⟩
  | true =>
    have HO := Lib.hid (ho rfl)
    have HFr2 := Lib.hid (HFr.out w1 (HTs.out.keep hb1))
    clear hb1 ho HFw HFr
    unfold pV at HFr2
    go_wp2_with fail
    refine HFr2.out.mono ?_
    rintro e w3 ⟨h, lb3, rfl, hd3, hb3⟩
    obtain ⟨n1, hn1⟩ : ∃ n1, n1 = w3.heap.size := ⟨_, rfl⟩
    rw [← hn1] at hd3
    have HD3 : Hid (Fs w1 h n1 X0 [] B0 lb3 (fun _ => 0) (.slice none 0 0) (.slice none 0 0) [] [] 0 w3) := ⟨hd3, Ow2.nil _ _, Fi.nil _ _ (fun _ _ => rfl), Nat.le_refl _, Nat.le_refl _⟩
    clear hb3 hn1 hd3 HFr2
    go_wp2
    go_loopw [4, 5, 6] (fun u v i wr => ∃ (k : Nat) (T : List Sl) (E : List Nat) (B : Nat → Bk) (lb : List Int) (K : Nat → Nat) (A C : List Rb), k ≤ Q.length ∧ i = .int .i64 k ∧ Hid (Fs w1 h n1 T E B lb K u v A C k wr)) (fun _ _ i _ => Q.length - (intOf i).toNat)
    case atStart => exact ⟨0, _, _, _, _, _, _, _, Nat.zero_le _, rfl, HD3.out⟩
    case round =>
      clear HD3
      obtain ⟨k, T, E, B, lb, K, A, C, hk, rfl, HD⟩ := hrel
      by_cases hlt : k < Q.length
      · have hlt1 : (k : Int) < (Q.length : Int) := by omega
        have hlt0 : (0 : Int) ≤ (k : Int) := by omega
        have hkw : IntKind.i64.wrap ((k : Int) + 1) = ((k + 1 : Nat) : Int) := (Ind.wrap_id (by omega) (by omega)).trans (by omega)
        obtain ⟨rb, off, rfl, hty, hik, hin, hc⟩ := HR.out.at (HB1.out.trans (HD.out.d.b.mono HB1.out.size)) hlt
        have hfew := HO.out.2 k hlt
        obtain ⟨x, hx⟩ : ∃ x, x = Q.getD k Act.zero := ⟨_, rfl⟩
        rw [← hx] at hty hik hin hc hfew
        obtain ⟨kd, N, c⟩ := x
        simp only at hty hik hin hfew
        have HTy := Lib.hid hty
        have HFe := Lib.hid hfew
        have d0 : World.cell? wr ⟨rb, off + k * 8, none⟩ = some (.int .i64 kd) := hc 0 _ rfl
        have d1 : World.cell? wr ⟨rb, off + k * 8 + 1, none⟩ = some (.int .i64 N) := hc 1 _ rfl
        have d2 : World.cell? wr ⟨rb, off + k * 8 + 2, none⟩ = some (.int .i64 c.pos) := hc 2 _ rfl
        have d3 : World.cell? wr ⟨rb, off + k * 8 + 3, none⟩ = some (.bool c.node) := hc 3 _ rfl
        have d4 : World.cell? wr ⟨rb, off + k * 8 + 4, none⟩ = some (.int .u32 (c.name : Int)) := hc 4 _ rfl
        have d5 : World.cell? wr ⟨rb, off + k * 8 + 5, none⟩ = some (.int .u16 (c.typ : Int)) := hc 5 _ rfl
        have d6 : World.cell? wr ⟨rb, off + k * 8 + 6, none⟩ = some (.string c.lab) := hc 6 _ rfl
        have d7 : World.cell? wr ⟨rb, off + k * 8 + 7, none⟩ = some (.int .u32 (c.hash : Int)) := hc 7 _ rfl
        obtain ⟨wa, hwa⟩ : ∃ wa, wa = wr.alloc (.cells #[.int .i64 kd, .int .i64 N, .int .i64 c.pos, .bool c.node, .int .u32 (c.name : Int), .int .u16 (c.typ : Int), .string c.lab, .int .u32 (c.hash : Int)] 35) := ⟨_, rfl⟩
        have hg8 : wa.heap[wr.heap.size]? = some (.cells #[.int .i64 kd, .int .i64 N, .int .i64 c.pos, .bool c.node, .int .u32 (c.name : Int), .int .u16 (c.typ : Int), .string c.lab, .int .u32 (c.hash : Int)] 35 (0, 0)) := by rw [hwa]; exact heap_alloc_new _ _
        obtain ⟨c0, c1, c2, c3, c4, c5, c6, c7⟩ := @box8 wa wa h _ _ _ _ _ _ _ _ _ hg8
        have HD1 := Lib.hid (HD.out.below (below_made wr (.cells #[.int .i64 kd, .int .i64 N, .int .i64 c.pos, .bool c.node, .int .u32 (c.name : Int), .int .u16 (c.typ : Int), .string c.lab, .int .u32 (c.hash : Int)] 35)))
        rw [← hwa] at HD1
        have hrl : wr.heap.size < wa.heap.size := (Array.getElem?_eq_some_iff.1 hg8).1
        have hrb : ¬ blkM h wr.heap.size := fun z => by have := HD.out.d.lt _ z; omega
        clear hx hc hty hfew HD
        have hk3 : (kd < 2 ∨ 3 < kd) ∨ (¬ kd < 2 ∧ ¬ 3 < kd) := by omega
        rcases hk3 with hk3 | ⟨hk3, hk4⟩
        · have HBl := Lib.hid (HD1.out.block c HTy.out HFe.out)
          unfold Rb.agg at HBl
          unfold pV at HBl
          rcases hk3 with hk3 | hk3
          · go_upto_region 9 with fail
            rw [← hwa]
            clear hwa d0 d1 d2 d3 d4 d5 d6 d7
            go_wp2_with fail
            refine HBl.out.mono ?_
            rintro e w4 ⟨a, rfl, ho4, ⟨rfl, lb4, hd4⟩ | ⟨ha0, haE, lb4, T4, hd4⟩⟩
            · have HD4 := Lib.hid ((hd4.below (below_made w4 (.cells #[.int .i64 0, .bool c.node, .int .u32 (c.name : Int), .int .u16 (c.typ : Int), .string c.lab, .int .u32 (c.hash : Int)] 33))).next (Nat.le_succ k))
              rw [show ((0 : Nat) : Int) = 0 from rfl]
              clear ho4 hd4 c0 c1 c2 c3 c4 c5 c6 c7 HBl HD1
              go_wp2
              go_roundw
              case rel => exact ⟨k + 1, _, _, _, _, _, _, _, by omega, by go_num, HD4.out⟩
              case measure => simp [intOf]; omega
            · have hap : (0 : Int) < (a : Int) := by omega
              obtain ⟨W4, hW4⟩ : ∃ W4, W4 = w4.alloc (.cells #[.int .i64 (a : Int), .bool c.node, .int .u32 (c.name : Int), .int .u16 (c.typ : Int), .string c.lab, .int .u32 (c.hash : Int)] 33) := ⟨_, rfl⟩
              have hd5 : Wi w1 h n1 T4 (a :: E) (upB B a c.bk) lb4 K W4 := by rw [hW4]; exact hd4.below (below_made _ _)
              have ho5 := ho4.below (below_made w4 (.cells #[.int .i64 (a : Int), .bool c.node, .int .u32 (c.name : Int), .int .u16 (c.typ : Int), .string c.lab, .int .u32 (c.hash : Int)] 33))
              rw [← hW4] at ho5
              have hg : W4.heap[w4.heap.size]? = some (.cells #[.int .i64 (a : Int), .bool c.node, .int .u32 (c.name : Int), .int .u16 (c.typ : Int), .string c.lab, .int .u32 (c.hash : Int)] 33 (0, 0)) := by rw [hW4]; exact heap_alloc_new _ _
              have hgb : ¬ blkM h w4.heap.size := fun z => by have := hd4.lt _ z; omega
              have hgl : w4.heap.size < W4.heap.size := (Array.getElem?_eq_some_iff.1 hg).1
              have HIn := Lib.hid (hd5.insertF (k := k) ho5 HD1.out.f haE ha0 HFe.out HTy.out HD1.out.ka HD1.out.kc)
              unfold pV at HIn
              have HG : Hid (∀ V, Fr W4.heap.size (blkM h) W4 V → V.heap[w4.heap.size]? = some (.cells #[.int .i64 (a : Int), .bool c.node, .int .u32 (c.name : Int), .int .u16 (c.typ : Int), .string c.lab, .int .u32 (c.hash : Int)] 33 (0, 0))) := fun V hV => (hV.block _ hgl hgb).trans hg
              have e0 : World.cell? W4 ⟨w4.heap.size, 0, none⟩ = some (.int .i64 (a : Int)) := (cell_block hg 0).trans rfl
              have hk120 : k ≤ 1000 := by omega
              have HKa := Lib.hid (And.intro HD1.out.ka HD1.out.kc)
              clear ho4 hd4 hd5 ho5 hg c0 c1 c2 c3 c4 c5 c6 c7 HBl HD1
              go_wp2_with fail
              rw [← hW4]
              clear hW4
              refine HIn.out.mono ?_
              rintro e w5 ⟨hf5, ⟨rfl, hd6⟩ | ⟨rfl, K5, hd6, ho6, hf6⟩⟩
              · have HD6 := Lib.hid (hd6.next (Nat.le_succ k))
                clear hd6 hf5 HIn HG e0
                go_wp2
                go_roundw
                case rel => exact ⟨k + 1, _, _, _, _, _, _, _, by omega, by go_num, HD6.out⟩
                case measure => simp [intOf]; omega
              · obtain ⟨g0, g1, g2, g3, g4, g5⟩ := @box6 w5 w5 h _ _ _ _ _ _ _ (HG.out w5 hf5)
                obtain ⟨u7, w7, hrun7, hd7⟩ := hd6.pushA (k := k) ho6 hf6 HKa.out.1 HKa.out.2 hk120
                have HRun := Lib.hid hrun7
                have HD7 := Lib.hid hd7
                clear hd6 ho6 hf6 hf5 HIn HG e0 hrun7 hd7
                go_wp2_with (at_builtin; refine wpList_append_run rfl (.tmp 61) (.tmp 63) 47 47 rfl rfl _ _ _ _ rfl rfl HRun.out ?_)
                go_roundw
                case rel => exact ⟨k + 1, _, _, _, _, _, _, _, by omega, by go_num, HD7.out⟩
                case measure => simp [intOf]; omega
          · have hk4 : ¬ kd < 2 := by omega
            go_upto_region 9 with fail
            rw [← hwa]
            clear hwa d0 d1 d2 d3 d4 d5 d6 d7
            go_wp2_with fail
            refine HBl.out.mono ?_
            rintro e w4 ⟨a, rfl, ho4, ⟨rfl, lb4, hd4⟩ | ⟨ha0, haE, lb4, T4, hd4⟩⟩
            · have HD4 := Lib.hid ((hd4.below (below_made w4 (.cells #[.int .i64 0, .bool c.node, .int .u32 (c.name : Int), .int .u16 (c.typ : Int), .string c.lab, .int .u32 (c.hash : Int)] 33))).next (Nat.le_succ k))
              rw [show ((0 : Nat) : Int) = 0 from rfl]
              clear ho4 hd4 c0 c1 c2 c3 c4 c5 c6 c7 HBl HD1
              go_wp2
              go_roundw
              case rel => exact ⟨k + 1, _, _, _, _, _, _, _, by omega, by go_num, HD4.out⟩
              case measure => simp [intOf]; omega
            · have hap : (0 : Int) < (a : Int) := by omega
              obtain ⟨W4, hW4⟩ : ∃ W4, W4 = w4.alloc (.cells #[.int .i64 (a : Int), .bool c.node, .int .u32 (c.name : Int), .int .u16 (c.typ : Int), .string c.lab, .int .u32 (c.hash : Int)] 33) := ⟨_, rfl⟩
              have hd5 : Wi w1 h n1 T4 (a :: E) (upB B a c.bk) lb4 K W4 := by rw [hW4]; exact hd4.below (below_made _ _)
              have ho5 := ho4.below (below_made w4 (.cells #[.int .i64 (a : Int), .bool c.node, .int .u32 (c.name : Int), .int .u16 (c.typ : Int), .string c.lab, .int .u32 (c.hash : Int)] 33))
              rw [← hW4] at ho5
              have hg : W4.heap[w4.heap.size]? = some (.cells #[.int .i64 (a : Int), .bool c.node, .int .u32 (c.name : Int), .int .u16 (c.typ : Int), .string c.lab, .int .u32 (c.hash : Int)] 33 (0, 0)) := by rw [hW4]; exact heap_alloc_new _ _
              have hgb : ¬ blkM h w4.heap.size := fun z => by have := hd4.lt _ z; omega
              have hgl : w4.heap.size < W4.heap.size := (Array.getElem?_eq_some_iff.1 hg).1
              have HIn := Lib.hid (hd5.insertF (k := k) ho5 HD1.out.f haE ha0 HFe.out HTy.out HD1.out.ka HD1.out.kc)
              unfold pV at HIn
              have HG : Hid (∀ V, Fr W4.heap.size (blkM h) W4 V → V.heap[w4.heap.size]? = some (.cells #[.int .i64 (a : Int), .bool c.node, .int .u32 (c.name : Int), .int .u16 (c.typ : Int), .string c.lab, .int .u32 (c.hash : Int)] 33 (0, 0))) := fun V hV => (hV.block _ hgl hgb).trans hg
              have e0 : World.cell? W4 ⟨w4.heap.size, 0, none⟩ = some (.int .i64 (a : Int)) := (cell_block hg 0).trans rfl
              have hk120 : k ≤ 1000 := by omega
              have HKa := Lib.hid (And.intro HD1.out.ka HD1.out.kc)
              clear ho4 hd4 hd5 ho5 hg c0 c1 c2 c3 c4 c5 c6 c7 HBl HD1
              go_wp2_with fail
              rw [← hW4]
              clear hW4
              refine HIn.out.mono ?_
              rintro e w5 ⟨hf5, ⟨rfl, hd6⟩ | ⟨rfl, K5, hd6, ho6, hf6⟩⟩
              · have HD6 := Lib.hid (hd6.next (Nat.le_succ k))
                clear hd6 hf5 HIn HG e0
                go_wp2
                go_roundw
                case rel => exact ⟨k + 1, _, _, _, _, _, _, _, by omega, by go_num, HD6.out⟩
                case measure => simp [intOf]; omega
              · obtain ⟨g0, g1, g2, g3, g4, g5⟩ := @box6 w5 w5 h _ _ _ _ _ _ _ (HG.out w5 hf5)
                obtain ⟨u7, w7, hrun7, hd7⟩ := hd6.pushA (k := k) ho6 hf6 HKa.out.1 HKa.out.2 hk120
                have HRun := Lib.hid hrun7
                have HD7 := Lib.hid hd7
                clear hd6 ho6 hf6 hf5 HIn HG e0 hrun7 hd7
                go_wp2_with (at_builtin; refine wpList_append_run rfl (.tmp 61) (.tmp 63) 47 47 rfl rfl _ _ _ _ rfl rfl HRun.out ?_)
                go_roundw
                case rel => exact ⟨k + 1, _, _, _, _, _, _, _, by omega, by go_num, HD7.out⟩
                case measure => simp [intOf]; omega
        · clear hlt
          go_upto_region 9 with fail
          rw [← hwa]
          clear hwa d0 d1 d2 d3 d4 d5 d6 d7 c2 c3 c4 c5 c6 c7
          obtain ⟨ua, uc, rfl, hu1, hu2⟩ := HD1.out.o.a.row.slice
          have hka := HD1.out.ka
          have hkc := HD1.out.kc
          have hcut : (0 < A.length ∧ 0 ≤ N) ∨ (0 < A.length ∧ N < 0) ∨ A.length = 0 := by omega
          rcases hcut with ⟨hA, hN⟩ | ⟨hA, hN⟩ | hA
          rotate_left
          · have hA1 : (0 : Int) < (A.length : Int) := by omega
            have hN1 : ¬ (0 : Int) ≤ N := by omega
            have HD2 := Lib.hid (HD1.out.next (Nat.le_succ k))
            clear HD1
            go_wp2
            go_roundw
            case rel => exact ⟨k + 1, _, _, _, _, _, _, _, by omega, by go_num, HD2.out⟩
            case measure => simp [intOf]; omega
          · have hA1 : ¬ (0 : Int) < (A.length : Int) := by omega
            have HD2 := Lib.hid (HD1.out.next (Nat.le_succ k))
            clear HD1
            go_wp2
            go_roundw
            case rel => exact ⟨k + 1, _, _, _, _, _, _, _, by omega, by go_num, HD2.out⟩
            case measure => simp [intOf]; omega
          obtain ⟨N', rfl⟩ : ∃ N' : Nat, N = N' := ⟨N.toNat, by omega⟩
          have hmm : Int.tmod (N' : Int) (A.length : Int) = ((N' % A.length : Nat) : Int) := by rw [Int.tmod_eq_emod_of_nonneg (by omega)]; rfl
          obtain ⟨i, hi⟩ : ∃ i, i = N' % A.length := ⟨_, rfl⟩
          have hiA : i < A.length := by rw [hi]; exact Nat.mod_lt _ hA
          rw [← hi] at hmm
          clear hi
          have hA1 : (0 : Int) < (A.length : Int) := by omega
          have hAz : ((A.length : Int) == 0) = false := by rw [beq_eq_false_iff_ne]; omega
          have hN0 : (0 : Int) ≤ (N' : Int) := by omega
          have hi0 : (0 : Int) ≤ (i : Int) := by omega
          have hi1 : (i : Int) < (A.length : Int) := by omega
          obtain ⟨h1, ⟨-, h2⟩ | ⟨g, cap', cur, e3, hgb, hh, hh1, hh2, hh3, hh4⟩⟩ := id HD1.out.o.a
          · omega
          injection e3 with e3 e4 e5
          subst e3 e5
          obtain ⟨y, hy⟩ : ∃ y, y = A.getD i Rb.zero := ⟨_, rfl⟩
          have f0 := (HD1.out.o.a.row.kth hiA hy).1
          have HDe := Lib.hid (HD1.out.delete hiA)
          rw [← hy] at HDe
          unfold pV at HDe
          have HY : Hid (y = A.getD i Rb.zero) := hy
          clear hy h1 hh hh1 hh2 hh3 hh4 hgb e4
          go_wp2_with fail
          refine HDe.out.mono ?_
          rintro e w2 ⟨rfl, hf2, K2, hd2, hF2⟩
          have ho2 := HD1.out.o.fr hf2 HD1.out.d.lo
          obtain ⟨g0, g1, g2, g3, g4, g5⟩ := ho2.a.row.kth hiA HY.out
          obtain ⟨v3, w3, hrun3, hd3, ho3⟩ := hd2.pushC (c := y) ho2 (by omega)
          have HRun := Lib.hid hrun3
          have HD3 := Lib.hid hd3
          have HO3 := Lib.hid ho3
          have HF3 := Lib.hid hF2
          clear f0 HDe hd2 hF2 ho2 hf2 HD1 hrun3 hd3 ho3 HY c0 c1
          go_wp2_with (at_builtin; refine wpList_append_run rfl (.tmp 86) (.tmp 91) 47 47 rfl rfl _ _ _ _ rfl rfl HRun.out ?_)
          clear HRun g0 g1 g2 g3 g4 g5
          have hI : RRow w3 (.slice (some ⟨g, 0, none⟩) A.length uc) A := HO3.out.a.row
          have HE0 : Hid ((w3.alloc (.cells #[] 33)).ownsRow w3.heap.size 33 6 (.slice (some ⟨w3.heap.size, 0, none⟩) 0 0) 0 (valsA encR [])) :=
            ⟨rfl, .inr ⟨w3.heap.size, 0, #[], rfl, Nat.le_refl _, heap_alloc_new _ _, by omega, by unfold maxLen; omega, rfl, rfl⟩⟩
          have HBe := Lib.hid (below_made w3 (.cells #[] 33))
          have HA1 := Lib.hid (fun W (hb : Below w3.heap.size w3 W) ho => app_part (w0 := w3) (W := W) (lo := 0) (m := i) (n := 0) (cp := uc) (L := A) (X := []) (v := .slice (some ⟨w3.heap.size, 0, none⟩) 0 0) (ty := 47) hI (by omega) (by omega) (by omega) rfl hb ho ⟨g, 0, none⟩ (.inr rfl))
          have HA2 := Lib.hid (fun W v1 cp ad (hb : Below w3.heap.size w3 W) ho had => app_part (w0 := w3) (W := W) (lo := i + 1) (m := A.length - (i + 1)) (n := 0 + i) (cp := cp) (L := A) (X := [] ++ (A.drop 0).take i) (v := v1) (ty := 47) hI (by omega) (by omega) (by omega) (by rw [List.nil_append, List.length_take, List.drop_zero]; omega) hb ho ad had)
          have j2 : (i : Int) ≤ (uc : Int) := by omega
          have j5 : (A.length : Int) ≤ (uc : Int) := by omega
          have hw1 : IntKind.i64.wrap ((i : Int) + 1) = (i : Int) + 1 := Ind.wrap_id (by omega) (by omega)
          have j3 : (0 : Int) ≤ (i : Int) + 1 := by omega
          have j4 : (i : Int) + 1 ≤ (A.length : Int) := by omega
          have hcl : (C ++ [y]).length ≤ k + 1 := by simp; omega
          have hal0 : (A.eraseIdx i).length ≤ k + 1 := by rw [List.length_eraseIdx_of_lt hiA]; omega
          clear hI hmm hAz
          by_cases hvc : uc = i + 1
          · have hal : A.length = i + 1 := by omega
            have hz : A.length - (i + 1) = 0 := by omega
            subst hvc
            rw [hz] at HA2
            have j2' : (i : Int) ≤ (i : Int) + 1 := by omega
            clear j2 j4 j5
            go_region_held3 (fun _ => True) (exact trivial) ((first
              | (obtain ⟨v1, W1, hrun1, ho1, hb1⟩ := HA1.out (w3.alloc (.cells #[] 33)).drew HBe.out.drew HE0.out; refine step_append_run (by rfl) (.tmp 93) (.tmp 96) 47 _ (by rfl) (by rfl) _ _ v1 W1 (by rfl) (by rfl) hrun1 ?_)
              | (obtain ⟨v2, W2, hrun2, ho2, hb2⟩ := HA2.out W1 v1 0 ⟨g, 0, none⟩ hb1 ho1 (.inl (by first | rfl | trivial)); refine step_append_run (by rfl) (.tmp 97) (.tmp 101) 47 _ (by rfl) (by rfl) _ _ v2 W2 (by rfl) (by rfl) hrun2 ?_)))
            have HD4 := Lib.hid (HD3.out.anew HO3.out HF3.out hb2 (own_eraseR hiA (by rw [hz]; exact ho2)) hal0 hcl)
            clear hrun1 ho1 hb1 hrun2 ho2 hb2 HA1 HA2 HE0 HBe HD3 HO3 HF3
            go_wp2
            go_roundw
            case rel => exact ⟨k + 1, _, _, _, _, _, _, _, by omega, by go_num, HD4.out⟩
            case measure => simp [intOf]; omega
          · have hvc2 : ¬ ((uc : Int) = (i : Int) + 1) := by omega
            go_region_held3 (fun _ => True) (exact trivial) ((first
              | (obtain ⟨v1, W1, hrun1, ho1, hb1⟩ := HA1.out (w3.alloc (.cells #[] 33)).drew HBe.out.drew HE0.out; refine step_append_run (by rfl) (.tmp 93) (.tmp 96) 47 _ (by rfl) (by rfl) _ _ v1 W1 (by rfl) (by rfl) hrun1 ?_)
              | (obtain ⟨v2, W2, hrun2, ho2, hb2⟩ := HA2.out W1 v1 (uc - (i + 1)) ⟨g, (i + 1) * 6, none⟩ hb1 ho1 (.inr (by rw [Nat.zero_add])); refine step_append_run (by rfl) (.tmp 97) (.tmp 101) 47 _ (by rfl) (by rfl) _ _ v2 W2 (by rfl) (by rfl) hrun2 ?_)))
            have HD4 := Lib.hid (HD3.out.anew HO3.out HF3.out hb2 (own_eraseR hiA ho2) hal0 hcl)
            clear hrun1 ho1 hb1 hrun2 ho2 hb2 HA1 HA2 HE0 HBe HD3 HO3 HF3
            go_wp2
            go_roundw
            case rel => exact ⟨k + 1, _, _, _, _, _, _, _, by omega, by go_num, HD4.out⟩
            case measure => simp [intOf]; omega
      · obtain rfl : k = Q.length := by omega
        clear hlt HO HR
        have hka := HD.out.ka
        have hkc := HD.out.kc
        obtain ⟨ua, uc, rfl, hu1, hu2⟩ := HD.out.o.a.row.slice
        obtain ⟨va, vc, rfl, hv1, hv2⟩ := HD.out.o.c.row.slice
        have hql : Q.length ≤ 120 := by omega
        go_wp2
        go_loopw [10] (fun i wr => ∃ j : Nat, j ≤ A.length ∧ i = .int .i64 j ∧ Hid (Fs w1 h n1 T E B lb K (.slice ua A.length uc) (.slice va C.length vc) A C Q.length wr)) (fun i _ => A.length - (intOf i).toNat)
        case atStart => exact ⟨0, Nat.zero_le _, rfl, HD.out⟩
        case round =>
          clear HD
          obtain ⟨j, hj, rfl, HD⟩ := hrel
          by_cases hlt : j < A.length
          · have hlt1 : (j : Int) < (A.length : Int) := by omega
            have hlt0 : (0 : Int) ≤ (j : Int) := by omega
            have hkw : IntKind.i64.wrap ((j : Int) + 1) = ((j + 1 : Nat) : Int) := (Ind.wrap_id (by omega) (by omega)).trans (by omega)
            obtain ⟨g, o, rfl, hgl, hc⟩ := HD.out.o.a.row.at hlt
            obtain ⟨c, hcc⟩ : ∃ c, c = A.getD j Rb.zero := ⟨_, rfl⟩
            have hmem : c ∈ A := by rw [hcc]; exact memR hlt
            rw [← hcc] at hc
            have d0 : World.cell? wr ⟨g, o + j * 6, none⟩ = some (.int .i64 c.pos) := hc 0 _ rfl
            have d1 : World.cell? wr ⟨g, o + j * 6 + 1, none⟩ = some (.bool c.node) := hc 1 _ rfl
            have d2 : World.cell? wr ⟨g, o + j * 6 + 2, none⟩ = some (.int .u32 (c.name : Int)) := hc 2 _ rfl
            have d3 : World.cell? wr ⟨g, o + j * 6 + 3, none⟩ = some (.int .u16 (c.typ : Int)) := hc 3 _ rfl
            have d4 : World.cell? wr ⟨g, o + j * 6 + 4, none⟩ = some (.string c.lab) := hc 4 _ rfl
            have d5 : World.cell? wr ⟨g, o + j * 6 + 5, none⟩ = some (.int .u32 (c.hash : Int)) := hc 5 _ rfl
            have HEn0 := Lib.hid (fun W (F : Fs w1 h n1 T E B lb K (.slice (some ⟨g, o, none⟩) A.length uc) (.slice va C.length vc) A C Q.length W) (hn : c.node = false) => F.entry hmem hn)
            have HEn1 := Lib.hid (fun W (F : Fs w1 h n1 T E B lb K (.slice (some ⟨g, o, none⟩) A.length uc) (.slice va C.length vc) A C Q.length W) => F.entryX hmem)
            have HNd := Lib.hid (fun W (F : Fs w1 h n1 T E B lb K (.slice (some ⟨g, o, none⟩) A.length uc) (.slice va C.length vc) A C Q.length W) (hn : c.node = true) => F.node hmem hn)
            have HPl := Lib.hid (fun W (F : Fs w1 h n1 T E B lb K (.slice (some ⟨g, o, none⟩) A.length uc) (.slice va C.length vc) A C Q.length W) => F.placeA hmem)
            have HAl := Lib.hid (fun W p (F : Fs w1 h n1 T E B lb K (.slice (some ⟨g, o, none⟩) A.length uc) (.slice va C.length vc) A C Q.length W) (hl : Lk A c p) => F.alike (by omega) hl)
            unfold pV at HEn0 HEn1 HNd HPl
            unfold Rb.agg at HAl
            clear hcc hmem hc hlt
            cases hnd : c.node with
            | false =>
              rw [hnd] at d1 HAl
              obtain ⟨wa, hwa⟩ : ∃ wa, wa = World.alloc wr (.cells #[.int .i64 c.pos, .bool false, .int .u32 (c.name : Int), .int .u16 (c.typ : Int), .string c.lab, .int .u32 (c.hash : Int)] 33) := ⟨_, rfl⟩
              have hg6 : wa.heap[wr.heap.size]? = some (.cells #[.int .i64 c.pos, .bool false, .int .u32 (c.name : Int), .int .u16 (c.typ : Int), .string c.lab, .int .u32 (c.hash : Int)] 33 (0, 0)) := by rw [hwa]; exact heap_alloc_new _ _
              have hgb : ¬ blkM h wr.heap.size := fun z => by have := HD.out.d.lt _ z; omega
              have hgl6 : wr.heap.size < wa.heap.size := (Array.getElem?_eq_some_iff.1 hg6).1
              have HD1 := Lib.hid (HD.out.below (below_made wr (.cells #[.int .i64 c.pos, .bool false, .int .u32 (c.name : Int), .int .u16 (c.typ : Int), .string c.lab, .int .u32 (c.hash : Int)] 33)))
              rw [← hwa] at HD1
              have HG : Hid (∀ V, Fr wa.heap.size (blkM h) wa V → V.heap[wr.heap.size]? = some (.cells #[.int .i64 c.pos, .bool false, .int .u32 (c.name : Int), .int .u16 (c.typ : Int), .string c.lab, .int .u32 (c.hash : Int)] 33 (0, 0))) := fun V hV => (hV.block _ hgl6 hgb).trans hg6
              obtain ⟨c0, c1, c2, c3, c4, c5⟩ := @box6 wa wa h _ _ _ _ _ _ _ hg6
              clear hg6 HD
              go_upto_region 23 with fail
              rw [← hwa]
              clear hwa d0 d1 d2 d3 d4 d5
              go_wp2_with fail
              refine (HEn0.out _ HD1.out hnd).mono ?_
              rintro e w3 ⟨p, rfl, hlk, hd3, hf3⟩
              clear HEn0 HEn1 HNd HD1 c0 c1 c2 c3 c4 c5
              obtain ⟨c0, c1, c2, c3, c4, c5⟩ := @box6 w3 w3 h _ _ _ _ _ _ _ (HG.out _ hf3)
              go_wp2_with fail
              refine (HPl.out _ hd3).mono ?_
              rintro e w4 ⟨q, rfl, hd4, hf4⟩
              have hf5 := hf3.trans (hf4.mono hf3.size (fun _ _ q => q))
              clear c0 c1 c2 c3 c4 c5
              obtain ⟨c0, c1, c2, c3, c4, c5⟩ := @box6 w4 w4 h _ _ _ _ _ _ _ (HG.out _ hf5)
              have HAl2 := Lib.hid (HAl.out _ _ hd4 hlk)
              clear hd3 hd4 hf3 hf4 hf5 HPl HAl HG hlk
              go_wp2_with fail
              refine HAl2.out.mono ?_
              rintro e w5 ⟨rfl, hd5⟩
              have HD5 := Lib.hid hd5
              clear hd5 HAl2 c0 c1 c2 c3 c4 c5
              go_wp2
              go_roundw
              case rel => exact ⟨j + 1, by omega, by go_num, HD5.out⟩
              case measure => simp [intOf]; omega
            | true =>
              rw [hnd] at d1 HAl
              obtain ⟨wa, hwa⟩ : ∃ wa, wa = World.alloc wr (.cells #[.int .i64 c.pos, .bool true, .int .u32 (c.name : Int), .int .u16 (c.typ : Int), .string c.lab, .int .u32 (c.hash : Int)] 33) := ⟨_, rfl⟩
              have hg6 : wa.heap[wr.heap.size]? = some (.cells #[.int .i64 c.pos, .bool true, .int .u32 (c.name : Int), .int .u16 (c.typ : Int), .string c.lab, .int .u32 (c.hash : Int)] 33 (0, 0)) := by rw [hwa]; exact heap_alloc_new _ _
              have hgb : ¬ blkM h wr.heap.size := fun z => by have := HD.out.d.lt _ z; omega
              have hgl6 : wr.heap.size < wa.heap.size := (Array.getElem?_eq_some_iff.1 hg6).1
              have HD1 := Lib.hid (HD.out.below (below_made wr (.cells #[.int .i64 c.pos, .bool true, .int .u32 (c.name : Int), .int .u16 (c.typ : Int), .string c.lab, .int .u32 (c.hash : Int)] 33)))
              rw [← hwa] at HD1
              have HG : Hid (∀ V, Fr wa.heap.size (blkM h) wa V → V.heap[wr.heap.size]? = some (.cells #[.int .i64 c.pos, .bool true, .int .u32 (c.name : Int), .int .u16 (c.typ : Int), .string c.lab, .int .u32 (c.hash : Int)] 33 (0, 0))) := fun V hV => (hV.block _ hgl6 hgb).trans hg6
              obtain ⟨c0, c1, c2, c3, c4, c5⟩ := @box6 wa wa h _ _ _ _ _ _ _ hg6
              clear hg6 HD
              go_upto_region 23 with fail
              rw [← hwa]
              clear hwa d0 d1 d2 d3 d4 d5
              go_wp2_with fail
              refine (HEn1.out _ HD1.out).mono ?_
              rintro e w2 ⟨p0, o0, rfl, hd2, hf2⟩
              clear c0 c1 c2 c3 c4 c5
              obtain ⟨c0, c1, c2, c3, c4, c5⟩ := @box6 w2 w2 h _ _ _ _ _ _ _ (HG.out _ hf2)
              go_wp2_with fail
              refine (HNd.out _ hd2 hnd).mono ?_
              rintro e w3 ⟨p, rfl, hlk, hd3, hf23⟩
              have hf3 := hf2.trans (hf23.mono hf2.size (fun _ _ q => q))
              clear HEn0 HEn1 HNd HD1 c0 c1 c2 c3 c4 c5 hd2 hf2 hf23
              obtain ⟨c0, c1, c2, c3, c4, c5⟩ := @box6 w3 w3 h _ _ _ _ _ _ _ (HG.out _ hf3)
              go_wp2_with fail
              refine (HPl.out _ hd3).mono ?_
              rintro e w4 ⟨q, rfl, hd4, hf4⟩
              have hf5 := hf3.trans (hf4.mono hf3.size (fun _ _ q => q))
              clear c0 c1 c2 c3 c4 c5
              obtain ⟨c0, c1, c2, c3, c4, c5⟩ := @box6 w4 w4 h _ _ _ _ _ _ _ (HG.out _ hf5)
              have HAl2 := Lib.hid (HAl.out _ _ hd4 hlk)
              clear hd3 hd4 hf3 hf4 hf5 HPl HAl HG hlk
              go_wp2_with fail
              refine HAl2.out.mono ?_
              rintro e w5 ⟨rfl, hd5⟩
              have HD5 := Lib.hid hd5
              clear hd5 HAl2 c0 c1 c2 c3 c4 c5
              go_wp2
              go_roundw
              case rel => exact ⟨j + 1, by omega, by go_num, HD5.out⟩
              case measure => simp [intOf]; omega
          · obtain rfl : j = A.length := by omega
            clear hlt
            go_wp2
            go_loopw [16] (fun i wr => ∃ j : Nat, j ≤ C.length ∧ i = .int .i64 j ∧ Hid (Fs w1 h n1 T E B lb K (.slice ua A.length uc) (.slice va C.length vc) A C Q.length wr)) (fun i _ => C.length - (intOf i).toNat)
            case atStart => exact ⟨0, Nat.zero_le _, rfl, HD.out⟩
            case round =>
              clear HD
              obtain ⟨j, hj, rfl, HD⟩ := hrel
              by_cases hlt : j < C.length
              · have hlt1 : (j : Int) < (C.length : Int) := by omega
                have hlt0 : (0 : Int) ≤ (j : Int) := by omega
                have hkw : IntKind.i64.wrap ((j : Int) + 1) = ((j + 1 : Nat) : Int) := (Ind.wrap_id (by omega) (by omega)).trans (by omega)
                obtain ⟨g, o, rfl, hgl, hc⟩ := HD.out.o.c.row.at hlt
                obtain ⟨c, hcc⟩ : ∃ c, c = C.getD j Rb.zero := ⟨_, rfl⟩
                have hmem : c ∈ C := by rw [hcc]; exact memR hlt
                rw [← hcc] at hc
                have d0 : World.cell? wr ⟨g, o + j * 6, none⟩ = some (.int .i64 c.pos) := hc 0 _ rfl
                have HPl := Lib.hid (HD.out.placeC hmem)
                unfold pV at HPl
                clear hcc hmem hc hlt HD
                go_wp2_with fail
                refine HPl.out.mono ?_
                rintro e w2 ⟨p, rfl, hd2⟩
                have HD2 := Lib.hid hd2
                clear hd2 HPl d0
                go_wp2
                go_roundw
                case rel => exact ⟨j + 1, by omega, by go_num, HD2.out⟩
                case measure => simp [intOf]; omega
              · have HFa := Lib.hid (HD.out.d.ix.faults HD.out.d.z)
                unfold pV at HFa
                have HNn := Lib.hid (fun W (hb : Below wr.heap.size wr W) => HNm.out W (HTs.out.keep (HB1.out.trans ((HD.out.d.b.trans (hb.mono HD.out.d.b.size)).mono HB1.out.size))))
                have HEe := Lib.hid (fun W (hb : Below wr.heap.size wr W) => HB1.out.trans ((HD.out.d.b.trans (hb.mono HD.out.d.b.size)).mono HB1.out.size))
                obtain rfl : j = C.length := by omega
                clear hlt HD
                go_wp2_with fail
                refine HFa.out.mono ?_
                rintro e w2 ⟨rfl, hb2⟩
                have HB2 := Lib.hid hb2
                clear hb2 HFa
                go_wp2_with fail
                refine (HNn.out _ HB2.out).mono ?_
                rintro e w3 ⟨rfl, hb3⟩
                have HE := Lib.hid ((HEe.out _ HB2.out).trans (hb3.mono (HEe.out _ HB2.out).size))
                clear hb3 HNn HEe HB2
                go_wp2
                go_ret
                exact ⟨rfl, HE.out⟩
end Go.Proofs.YtcpfnmphcndmjaaGreatDoor.Ind
