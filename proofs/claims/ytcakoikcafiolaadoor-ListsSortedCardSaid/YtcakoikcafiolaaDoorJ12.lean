/- The statements on lists: the page's example. Acts on lists, as they come in as arguments. The walk of ListsBack. The walk of ListsSorted. -/
import Derived.Test.YtcakoikcafiolaaDoorJ11
import Derived.Test.YtcakoikcafiolaaDoorJ0
import Derived.Test.YtcakoikcafiolaaDoorJ2
import Derived.Deep.RegionHeld3
namespace Go.Proofs.YtcakoikcafiolaaDoor.Lis
open Go.RowKit Num
open Mem (Mm MemC MRet Hm rd blkM)
set_option linter.unusedVariables false

/-- A memory of the walk's own. -/
structure Md (w : World) (h : Hm) (C : Cf) (l : List Int) (W : World) : Prop where
  m : LM h C l W
  b : Below w.heap.size w W
  k : ∀ k, blkM h k → w.heap.size ≤ k
theorem Md.lr {w W W' : World} {h : Hm} {C : Cf} {l l' : List Int} {r : Value} {e : Ending} (d : Md w h C l W) (hr : LR h C l' r W e W') : Md w h C l' W' :=
  ⟨hr.2.1, d.b.trans (hr.2.2.toBelow d.b.size (fun k hk hh => by have := d.k k hh; omega)), d.k⟩
theorem Md.below {w W W' : World} {h : Hm} {C : Cf} {l : List Int} (d : Md w h C l W) (hb : Below W.heap.size W W') : Md w h C l W' := ⟨d.m.below hb, d.b.trans (hb.mono d.b.size), d.k⟩
theorem Md.drew {w W : World} {h : Hm} {C : Cf} {l : List Int} (d : Md w h C l W) : Md w h C l W.drew := d.below (Below.refl _ _).drew
theorem begun (S N : Nat) (w : World) (hr : Lay.rightC (S : Int) (N : Int) = true) (ht : Tb w) :
    Calls Tryd.prog 7 #[.agg #[.int .i64 (S : Int), .int .i64 (N : Int)]] w fun e w' => ∃ C h l, e = .returned (.pointer (some ⟨h.g, 0, none⟩)) ∧ C.Ok ∧ C.s = S ∧ C.ft = 0 ∧ Md w h C l w' ∧ B1 S l l 0 := by
  refine (new_any S N w hr ht).mono ?_
  rintro e w' ⟨h, l, rfl, hm, hb, hk⟩
  have hok := newCf_ok hr
  exact ⟨newCf S N, h, l, rfl, hok, rfl, rfl, ⟨hm, hb, hk⟩, B1.fresh (by rw [hm.len]; exact hok.len)⟩
theorem Md.faults {w W : World} {h : Hm} {C : Cf} {l : List Int} (d : Md w h C l W) : Calls Tryd.prog 18 #[.pointer (some ⟨h.g, 0, none⟩)] W fun e w' => e = .returned (.int .i64 C.ft) ∧ Below W.heap.size W w' := by
  obtain ⟨-, lk, hm⟩ := d.m
  exact Mem.faults_any h _ (C.mm l lk) W hm

theorem fs_is {S : Nat} {l0 l : List Int} {H : List Hx} {L : List Int} (hr : Rep S l0 l H L) {c v : Nat} (hc : c < 10) (hv : Nx L c 0 v) : fsC S l c = (v : Int) - 1 := by
  obtain ⟨u, h1, h2⟩ := hr.chn.fs hc
  rw [h1, nx_one h2 hv]

set_option maxRecDepth 100000 in
set_option maxHeartbeats 2000000 in
theorem lines_any (w : World) (ht : Tb w) : Calls Tryd.prog 6 #[] w fun e w' => e = .returned (.bool true) ∧ Below w.heap.size w w' := by
  have HN := Lib.hid (begun 7 224 w (by decide) ht)
  clear ht
  go_enter Tryd.func6, Tryd.ntmps6
  go_wp2_with fail
  refine HN.out.mono ?_
  rintro e w1 ⟨C, h, l, rfl, hC, hCs, hCf, hd1, hB⟩
  have HB := Lib.hid (begin_any h C l l w1 hC hd1.m (by rw [hCs]; exact hB))
  rw [hCs] at HB
  have HD1 := Lib.hid hd1
  clear hB hd1 HN
  go_wp2_with fail
  refine HB.out.mono ?_
  rintro e w2 ⟨l2, hl2, hr2⟩
  have HD2 := Lib.hid (HD1.out.lr hl2)
  have HR := Lib.hid (remove_any h C l l2 _ _ 0 0 w2 hC HD2.out.m (by rw [hCs]; exact hr2))
  rw [hCs, show rmE 7 (List.replicate 7 0) 0 0 = 0 by decide, show rmL 7 (List.replicate 7 0) 0 0 = [-1, 0, 0, 0, 0, 0, 0] by decide] at HR
  obtain rfl := hl2.1
  clear hl2 hr2 HB HD1
  go_wp2_with fail
  refine HR.out.mono ?_
  rintro e w3 ⟨l3, hl3, hr3⟩
  have HD3 := Lib.hid (HD2.out.lr hl3)
  have HI := Lib.hid (insert_any h C l l3 _ _ 3 0 w3 hC HD3.out.m (by rw [hCs]; exact hr3))
  rw [hCs, show inE 7 [-1, 0, 0, 0, 0, 0, 0] 3 0 = 0 by decide, show inL 7 [-1, 0, 0, 0, 0, 0, 0] 3 0 = [3, 0, 0, 0, 0, 0, 0] by decide] at HI
  obtain rfl := hl3.1
  clear hl3 hr3 HR HD2
  go_wp2_with fail
  refine HI.out.mono ?_
  rintro e w4 ⟨l4, hl4, hr4⟩
  have HD4 := Lib.hid (HD3.out.lr hl4)
  have HJ := Lib.hid (insert_any h C l l4 _ _ 0 0 w4 hC HD4.out.m (by rw [hCs]; exact hr4))
  rw [hCs, show inE 7 [3, 0, 0, 0, 0, 0, 0] 0 0 = 8 by decide, show inL 7 [3, 0, 0, 0, 0, 0, 0] 0 0 = [3, 0, 0, 0, 0, 0, 0] by decide] at HJ
  obtain rfl := hl4.1
  clear hl4 hr4 HI HD3
  go_wp2_with fail
  refine HJ.out.mono ?_
  rintro e w5 ⟨l5, hl5, hr5⟩
  have HD5 := Lib.hid (HD4.out.lr hl5)
  have hr5' : Rep C.s l l5 (List.replicate 7 (0, 0, 0)) [3, 0, 0, 0, 0, 0, 0] := by rw [hCs]; exact hr5
  have f0 : fsC C.s l5 0 = 1 := fs_is (c := 0) (v := 2) hr5' (by omega) (nx_skip (nx_here (by decide) (by decide)) (by decide))
  have f3 : fsC C.s l5 3 = 0 := fs_is (c := 3) (v := 1) hr5' (by omega) (nx_here (by decide) (by decide))
  have f4 : fsC C.s l5 4 = -1 := fs_is (c := 4) (v := 0) hr5' (by omega) (.inl ⟨rfl, fun j _ hj => (show ∀ j : Nat, j < 7 → at_ [3, 0, 0, 0, 0, 0, 0] j ≠ 4 by decide) j hj⟩)
  have HF0 := Lib.hid (fun V (d : Md w h C l5 V) => first_any h C l5 0 V hC d.m)
  have HF3 := Lib.hid (fun V (d : Md w h C l5 V) => first_any h C l5 3 V hC d.m)
  have HF4 := Lib.hid (fun V (d : Md w h C l5 V) => first_any h C l5 4 V hC d.m)
  have HA := Lib.hid (fun V (d : Md w h C l5 V) => all_any h C l5 _ 0 V hC d.m hr5'.chn)
  rw [f0] at HF0
  rw [f3] at HF3
  rw [f4] at HF4
  rw [show ints (alI [3, 0, 0, 0, 0, 0, 0] 0) = [1, 2, 3, 4, 5, 6] by decide] at HA
  have HFa := Lib.hid (fun V (d : Md w h C l5 V) => d.faults)
  rw [hCf] at HFa
  obtain rfl := hl5.1
  clear hl5 hr5 hr5' HJ HD4 f0 f3 f4
  go_wp2_with fail
  refine (HF0.out _ HD5.out).mono ?_
  rintro e w6 hl6
  obtain rfl := hl6.1
  have HD6 := Lib.hid (HD5.out.lr hl6)
  clear hl6 HD5
  go_wp2_with fail
  refine (HF3.out _ HD6.out).mono ?_
  rintro e w7 hl7
  obtain rfl := hl7.1
  have HD7 := Lib.hid (HD6.out.lr hl7)
  clear hl7 HD6
  go_wp2_with fail
  refine (HF4.out _ HD7.out).mono ?_
  rintro e w8 hl8
  obtain rfl := hl8.1
  have HD8 := Lib.hid (HD7.out.lr hl8)
  clear hl8 HD7
  go_wp2_with fail
  refine (HA.out _ HD8.out).mono ?_
  rintro e w9 ⟨u, hl9, hrow, -⟩
  obtain ⟨ad, cap, rfl, -⟩ := hrow
  obtain rfl := hl9.1
  have HD9 := Lib.hid (HD8.out.lr hl9)
  clear hl9 HD8
  go_wp2_with fail
  refine (HFa.out _ HD9.out).mono ?_
  rintro e w10 ⟨rfl, hb10⟩
  have HBe := Lib.hid (HD9.out.below hb10).b
  clear hb10 HD9
  go_wp2
  go_ret
  exact ⟨rfl, HBe.out⟩
end Go.Proofs.YtcakoikcafiolaaDoor.Lis

namespace Go.Proofs.YtcakoikcafiolaaDoor.Lis
open Go.RowKit Num Arn
set_option linter.unusedVariables false

structure Act where
  k : Int
  c : Int
  s : Int
  l : Int
  f : Int
def Act.zero : Act := ⟨0, 0, 0, 0, 0⟩
def Act.cells (x : Act) : List Value := [.int .i64 x.k, .int .i64 x.c, .int .i64 x.s, .int .i64 x.l, .int .u32 x.f]
def Act.agg (x : Act) : Value := .agg #[.int .i64 x.k, .int .i64 x.c, .int .i64 x.s, .int .i64 x.l, .int .u32 x.f]
def ActR (w : World) (cs : List Value) (x : Act) : Prop := cs = x.cells ∧ 0 ≤ x.f ∧ x.f < 4294967296
theorem actR_stays : GStays ActR := fun _ _ _ _ _ h _ _ => h
abbrev ActRow := GRow 5 ActR Act.zero

set_option maxRecDepth 100000 in
theorem act_cells {H : Type} {enc : TypeId × Value → H} {w : World} {base : Nat} {spare : Nat → Bool} {held : Bool} {n : Nat} {cs : List Value} {y : DataW H × List MemPlace}
    (h : DataW.trod enc Tryd.prog w base spare held n 35 cs = some y) : ∃ x, ActR w cs x := by
  obtain ⟨xs, n', -, -, hlen, hxs, hf⟩ := DataW.trod_struct Tryd.underlying35 h
  have h4 : cs.length = 5 := hlen.trans (by kernel_rfl)
  have x4 : xs.length = 5 := hxs
  match cs, h4, xs, x4 with
  | [c0, c1, c2, c3, c4], _, [y0, y1, y2, y3, y4], _ =>
    have f0 : DataW.trod enc Tryd.prog w base spare held n' 3 (([c0, c1, c2, c3, c4].drop 0).take (Tryd.prog.cellsOf 3)) = [y0, y1, y2, y3, y4][0]? := hf 0 _ rfl
    have f1 : DataW.trod enc Tryd.prog w base spare held n' 3 (([c0, c1, c2, c3, c4].drop 1).take (Tryd.prog.cellsOf 3)) = [y0, y1, y2, y3, y4][1]? := hf 1 _ rfl
    have f2 : DataW.trod enc Tryd.prog w base spare held n' 3 (([c0, c1, c2, c3, c4].drop 2).take (Tryd.prog.cellsOf 3)) = [y0, y1, y2, y3, y4][2]? := hf 2 _ rfl
    have f3 : DataW.trod enc Tryd.prog w base spare held n' 3 (([c0, c1, c2, c3, c4].drop 3).take (Tryd.prog.cellsOf 3)) = [y0, y1, y2, y3, y4][3]? := hf 3 _ rfl
    have f4 : DataW.trod enc Tryd.prog w base spare held n' 33 (([c0, c1, c2, c3, c4].drop 4).take (Tryd.prog.cellsOf 33)) = [y0, y1, y2, y3, y4][4]? := hf 4 _ rfl
    have q1 : Tryd.prog.cellsOf 3 = 1 := by kernel_rfl
    have q2 : Tryd.prog.cellsOf 33 = 1 := by kernel_rfl
    rw [q1] at f0 f1 f2 f3
    rw [q2] at f4
    simp only [List.drop, List.take, List.getElem?_cons_zero, List.getElem?_cons_succ] at f0 f1 f2 f3 f4
    obtain ⟨k0, e0, -, w0⟩ := DataW.trod_int Tryd.underlying3 f0
    obtain ⟨k1, e1, -, w1⟩ := DataW.trod_int Tryd.underlying3 f1
    obtain ⟨k2, e2, -, w2⟩ := DataW.trod_int Tryd.underlying3 f2
    obtain ⟨k3, e3, -, w3⟩ := DataW.trod_int Tryd.underlying3 f3
    obtain ⟨k4, e4, -, w4⟩ := DataW.trod_int Tryd.underlying33 f4
    simp at e0 e1 e2 e3 e4
    subst e0 e1 e2 e3 e4
    have hu := bounds_u32 w4
    exact ⟨⟨k0, k1, k2, k3, k4⟩, rfl, (show 0 ≤ k4 by omega), (show k4 < 4294967296 by omega)⟩
set_option maxRecDepth 100000 in
theorem open_acts {H : Type} {enc : TypeId × Value → H} {w : World} {base : Nat} {spare : Nat → Bool} {held : Bool} {r : Reach} {b0 : Nat} {v : Value} {d : DataW H} {p : List MemPlace}
    (hval : Value.okWide Tryd.prog w r b0 22 v) (h : DataW.Trod enc Tryd.prog w base spare held 22 v d p) : ∃ x : Value × List Act, v = x.1 ∧ ActRow w x.1 x.2 := by
  obtain ⟨a, len, cap, rfl⟩ := WideShapes.okWide_slice Tryd.underlying22 hval
  obtain ⟨fuel, hf⟩ := h
  obtain ⟨L, -, hrow⟩ := open_grow Act.zero Tryd.underlying22 (show Tryd.prog.cellsOf 35 = 5 by kernel_rfl) (by omega) (fun n cs y hy => act_cells hy) hf
  exact ⟨(_, L), rfl, hrow⟩

/-! ### A memory with its lists, call by call -/
open Mem (Mm MemC MRet Hm rd blkM)
/-- A memory whose bytes say H and L. -/
structure Ls (w : World) (h : Hm) (C : Cf) (l0 : List Int) (H : List Hx) (L : List Int) (W : World) : Prop where
  ex : ∃ l, Md w h C l W ∧ Rep C.s l0 l H L
theorem Ls.below {w W W' : World} {h : Hm} {C : Cf} {l0 : List Int} {H : List Hx} {L : List Int} (d : Ls w h C l0 H L W) (hb : Below W.heap.size W W') : Ls w h C l0 H L W' := by
  obtain ⟨l, d1, d2⟩ := d
  exact ⟨l, d1.below hb, d2⟩
theorem Ls.drew {w W : World} {h : Hm} {C : Cf} {l0 : List Int} {H : List Hx} {L : List Int} (d : Ls w h C l0 H L W) : Ls w h C l0 H L W.drew := d.below (Below.refl _ _).drew
theorem Ls.b {w W : World} {h : Hm} {C : Cf} {l0 : List Int} {H : List Hx} {L : List Int} (d : Ls w h C l0 H L W) : Below w.heap.size w W := by
  obtain ⟨l, d1, d2⟩ := d
  exact d1.b
theorem Ls.k {w W : World} {h : Hm} {C : Cf} {l0 : List Int} {H : List Hx} {L : List Int} (d : Ls w h C l0 H L W) : ∀ k, blkM h k → w.heap.size ≤ k := by
  obtain ⟨l, d1, d2⟩ := d
  exact d1.k
theorem Ls.lt {w W : World} {h : Hm} {C : Cf} {l0 : List Int} {H : List Hx} {L : List Int} (d : Ls w h C l0 H L W) : ∀ k, blkM h k → k < W.heap.size := by
  obtain ⟨l, d1, d2⟩ := d
  exact d1.m.lt
theorem Ls.tb {w W : World} {h : Hm} {C : Cf} {l0 : List Int} {H : List Hx} {L : List Int} (d : Ls w h C l0 H L W) : Tb W := by
  obtain ⟨l, d1, d2⟩ := d
  exact d1.m.1
theorem Ls.insert {w W : World} {h : Hm} {C : Cf} {l0 : List Int} {H : List Hx} {L : List Int} (hC : C.Ok) (d : Ls w h C l0 H L W) (c s : Int) :
    Calls Tryd.prog 19 #[.pointer (some ⟨h.g, 0, none⟩), .int .i64 c, .int .i64 s] W fun e w' => e = .returned (.int .i64 (inE C.s L c s)) ∧ Ls w h C l0 H (inL C.s L c s) w' ∧ Fr W.heap.size (blkM h) W w' := by
  obtain ⟨l, d1, d2⟩ := d
  refine (insert_any h C l0 l H L c s W hC d1.m d2).mono ?_
  rintro e w' ⟨l', hl, hr⟩
  exact ⟨hl.1, ⟨l', d1.lr hl, hr⟩, hl.2.2⟩
theorem Ls.remove {w W : World} {h : Hm} {C : Cf} {l0 : List Int} {H : List Hx} {L : List Int} (hC : C.Ok) (d : Ls w h C l0 H L W) (c s : Int) :
    Calls Tryd.prog 20 #[.pointer (some ⟨h.g, 0, none⟩), .int .i64 c, .int .i64 s] W fun e w' => e = .returned (.int .i64 (rmE C.s L c s)) ∧ Ls w h C l0 H (rmL C.s L c s) w' ∧ Fr W.heap.size (blkM h) W w' := by
  obtain ⟨l, d1, d2⟩ := d
  refine (remove_any h C l0 l H L c s W hC d1.m d2).mono ?_
  rintro e w' ⟨l', hl, hr⟩
  exact ⟨hl.1, ⟨l', d1.lr hl, hr⟩, hl.2.2⟩
def seH (S : Nat) (H : List Hx) (s c v f : Int) : List Hx := if stE S s c v = 0 then H.set s.toNat (c, v, f) else H
theorem Ls.set {w W : World} {h : Hm} {C : Cf} {l0 : List Int} {H : List Hx} {L : List Int} (hC : C.Ok) (d : Ls w h C l0 H L W) (s c v f : Int) (f0 : 0 ≤ f) (f1 : f < 4294967296) :
    Calls Tryd.prog 34 #[.pointer (some ⟨h.g, 0, none⟩), .int .i64 s, .int .i64 c, .int .i64 v, .int .u32 f] W fun e w' => e = .returned (.int .i64 (stE C.s s c v)) ∧ Ls w h C l0 (seH C.s H s c v f) L w' ∧ Fr W.heap.size (blkM h) W w' := by
  obtain ⟨l, d1, d2⟩ := d
  refine (set_any h C l s c v f W hC d1.m f0 f1).mono ?_
  rintro e w' hl
  refine ⟨hl.1, ⟨_, d1.lr hl, ?_⟩, hl.2.2⟩
  unfold stL seH
  by_cases he : stE C.s s c v = 0
  · rw [if_pos he, if_pos he]
    unfold stE at he
    by_cases h0 : 0 ≤ s ∧ s < (C.s : Int)
    · rw [if_pos h0] at he
      by_cases h1 : (isL c && okL v) = true
      · obtain ⟨q1, q2⟩ := (Bool.and_eq_true _ _).mp h1
        simp [isL] at q1
        simp [okL] at q2
        exact d2.set (by omega) (by omega) (by omega) ⟨f0, f1⟩
      · rw [if_neg h1] at he
        omega
    · rw [if_neg h0] at he
      omega
  · rw [if_neg he, if_neg he]
    exact d2
theorem Ls.begin {w W : World} {h : Hm} {C : Cf} {l0 : List Int} {H : List Hx} {L : List Int} (hC : C.Ok) (d : Ls w h C l0 H L W) :
    Calls Tryd.prog 9 #[.pointer (some ⟨h.g, 0, none⟩)] W fun e w' => e = .returned (.int .i64 0) ∧ Ls w h C l0 (List.replicate C.s (0, 0, 0)) (List.replicate C.s 0) w' ∧ Fr W.heap.size (blkM h) W w' := by
  obtain ⟨l, d1, d2⟩ := d
  refine (begin_any h C l0 l W hC d1.m d2.again).mono ?_
  rintro e w' ⟨l', hl, hr⟩
  exact ⟨hl.1, ⟨l', d1.lr hl, hr⟩, hl.2.2⟩
theorem begun2 {w W : World} {h : Hm} {C : Cf} {l : List Int} (hC : C.Ok) (d : Md w h C l W) (hb : B1 C.s l l 0) :
    Calls Tryd.prog 9 #[.pointer (some ⟨h.g, 0, none⟩)] W fun e w' => e = .returned (.int .i64 0) ∧ Ls w h C l (List.replicate C.s (0, 0, 0)) (List.replicate C.s 0) w' ∧ Fr W.heap.size (blkM h) W w' := by
  refine (begin_any h C l l W hC d.m hb).mono ?_
  rintro e w' ⟨l', hl, hr⟩
  exact ⟨hl.1, ⟨l', d.lr hl, hr⟩, hl.2.2⟩
theorem Ls.all {w W : World} {h : Hm} {C : Cf} {l0 : List Int} {H : List Hx} {L : List Int} (hC : C.Ok) (d : Ls w h C l0 H L W) (c : Int) :
    Calls Tryd.prog 16 #[.pointer (some ⟨h.g, 0, none⟩), .int .i64 c] W fun e w' => ∃ u, e = .returned u ∧ Row .i64 w' u (ints (alI L c)) ∧ (∀ b, u.ownBlock = some b → W.heap.size ≤ b) ∧ Ls w h C l0 H L w' ∧ Fr W.heap.size (blkM h) W w' := by
  obtain ⟨l, d1, d2⟩ := d
  refine (all_any h C l L c W hC d1.m d2.chn).mono ?_
  rintro e w' ⟨u, hl, hr, hb⟩
  exact ⟨u, hl.1, hr, hb, ⟨l, d1.lr hl, d2⟩, hl.2.2⟩
/-- The first of a list, or -1. -/
def fiI (L : List Int) (c : Int) : Int := (headN (alI L c) : Int) - 1
theorem Ls.first {w W : World} {h : Hm} {C : Cf} {l0 : List Int} {H : List Hx} {L : List Int} (hC : C.Ok) (d : Ls w h C l0 H L W) (c : Int) :
    Calls Tryd.prog 13 #[.pointer (some ⟨h.g, 0, none⟩), .int .i64 c] W fun e w' => e = .returned (.int .i64 (fiI L c)) ∧ Ls w h C l0 H L w' ∧ Fr W.heap.size (blkM h) W w' := by
  obtain ⟨l, d1, d2⟩ := d
  have e : fsC C.s l c = fiI L c := by
    unfold fiI alI
    cases hi : isL c with
    | true =>
      obtain ⟨k, rfl, hk⟩ := isL_nat hi
      rw [fs_is d2 hk (split_nx (pre := []) (rest := allL L k 0) (s := 0) (by simp) (by simp) (by simp))]
      rfl
    | false =>
      rw [fsC, if_neg (by rw [hi]; decide)]
      rfl
  refine (first_any h C l c W hC d1.m).mono ?_
  rintro e' w' hl
  rw [e] at hl
  exact ⟨hl.1, ⟨l, d1.lr hl, d2⟩, hl.2.2⟩
theorem Ls.faults {w W : World} {h : Hm} {C : Cf} {l0 : List Int} {H : List Hx} {L : List Int} (d : Ls w h C l0 H L W) : Calls Tryd.prog 18 #[.pointer (some ⟨h.g, 0, none⟩)] W fun e w' => e = .returned (.int .i64 C.ft) ∧ Below W.heap.size W w' := by
  obtain ⟨l, d1, d2⟩ := d
  exact d1.faults
/-- Blocks of others are written. -/
theorem Ls.other {w W W' : World} {h : Hm} {C : Cf} {l0 : List Int} {H : List Hx} {L : List Int} {S : Nat → Prop} (d : Ls w h C l0 H L W) (hf : Fr W.heap.size S W W') (hS : ∀ k, S k → w.heap.size ≤ k ∧ ¬ blkM h k ∧ k ≠ 0 ∧ k ≠ 1) : Ls w h C l0 H L W' := by
  obtain ⟨l, d1, d2⟩ := d
  exact ⟨l, ⟨d1.m.stay hf (fun k q => (hS k q).2), d1.b.trans (hf.toBelow d1.b.size (fun k hk q => by have := (hS k q).1; omega)), d1.k⟩, d2⟩
/-- A memory's bytes, as a row of its own: the same for the same heads and lists. -/
theorem Ls.image {w W : World} {h : Hm} {C : Cf} {l0 : List Int} {H : List Hx} {L : List Int} (d : Ls w h C l0 H L W) (X : List Int) (hX : ∀ l, Rep C.s l0 l H L → IsBytes l → l = X) :
    Calls Tryd.prog 21 #[.pointer (some ⟨h.g, 0, none⟩)] W fun e w' => ∃ u, e = .returned u ∧ Below W.heap.size W w' ∧ NewRow W.heap.size w' u X ∧ Ls w h C l0 H L w' := by
  obtain ⟨l, d1, d2⟩ := d
  obtain rfl := hX l d2 d1.m.bytes
  obtain ⟨-, lk, hm⟩ := id d1.m
  refine (Mem.image_any h _ (C.mm l lk) W hm).mono ?_
  rintro e w' ⟨u, rfl, hb, hr⟩
  exact ⟨u, rfl, hb, hr, ⟨l, d1.below hb, d2⟩⟩
theorem Ls.bytes {w W : World} {h : Hm} {C : Cf} {l0 : List Int} {H : List Hx} {L : List Int} (d : Ls w h C l0 H L W) : ∃ X, IsBytes X ∧ ∀ l, Rep C.s l0 l H L → IsBytes l → l = X := by
  obtain ⟨l, d1, d2⟩ := d
  exact ⟨l, d1.m.bytes, fun l' h1 h2 => h1.same d2 h2 d1.m.bytes⟩
end Go.Proofs.YtcakoikcafiolaaDoor.Lis

namespace Go.Proofs.YtcakoikcafiolaaDoor.Lis
open Go.RowKit Num Arn
open Mem (Mm MemC MRet Hm rd blkM)
set_option linter.unusedVariables false

theorem row_text {w : World} {v : Value} {l : List Int} (h : Row .u8 w v l) : (convert 52 9 v).run Tryd.prog w = .ok (.string (strOfNums l)) w := h.string 52 9 5 (by kernel_rfl) (by kernel_rfl) (by kernel_rfl)
theorem ck_zero {S : Nat} {L : List Int} {c s : Int} (hl : L.length = S) (h : inE S L c s = 0) : ∃ k n : Nat, c = k ∧ k < 10 ∧ s = n ∧ n < S ∧ at_ L n < 0 := by
  unfold inE at h
  by_cases h0 : ckB S c s = 0
  · obtain ⟨k, n, rfl, hk, rfl, hn⟩ := ckB_zero h0
    rw [if_pos h0, Int.toNat_natCast] at h
    refine ⟨k, n, rfl, hk, rfl, hn, ?_⟩
    by_cases h1 : 0 ≤ at_ L n
    · rw [if_pos h1] at h; omega
    · omega
  · rw [if_neg h0] at h
    exact absurd h h0
theorem set_back {L : List Int} {n : Nat} (hn : n < L.length) (c : Int) (h : at_ L n = -1) : (L.set n c).set n (-1) = L := by
  rw [List.set_set]
  unfold at_ List.getD at h
  rw [List.getElem?_eq_getElem hn] at h
  simp only [Option.getD_some] at h
  rw [← h, List.set_getElem_self]
theorem rm_back {S : Nat} {L : List Int} {k n : Nat} (hl : L.length = S) (hk : k < 10) (hn : n < S) (h : at_ L n = -1) : rmE S (L.set n k) k n = 0 ∧ rmL S (L.set n k) k n = L := by
  have h1 : ckB S k n = 0 := by
    unfold ckB ckS
    rw [if_pos (by simp [isL]; omega), if_pos (by omega)]
  have h2 : at_ (L.set n k) n = (k : Int) := by rw [at_set (by omega), if_pos rfl]
  have h3 : rmE S (L.set n k) k n = 0 := by rw [rmE, if_pos h1, Int.toNat_natCast, if_pos h2]
  exact ⟨h3, by rw [rmL, if_pos h3, Int.toNat_natCast, set_back (by omega) _ h]⟩
set_option maxRecDepth 100000 in
set_option maxHeartbeats 8000000 in
theorem listsBack_walk (v : Value) (A : List Act) (c s : Int) (w : World) (ht : Tb w) (hr : ActRow w v A) :
    Calls Tryd.prog 5 #[v, .int .i64 c, .int .i64 s] w fun e w' => e = .returned (.bool true) ∧ Below w.heap.size w w' := by
  have HW := Lib.hid (fun V (hv : Tb V) => lines_any V hv)
  have HTb := Lib.hid ht
  obtain ⟨ad, cap, U, rfl, q2, q3, q4, q5⟩ := hr
  have HC := Lib.hid q5
  have HS := Lib.hid q4
  have HN := Lib.hid (begun 16 512 w (by decide) ht)
  clear q4 q5 ht
  by_cases hL : 60 < A.length
  · have hL1 : (60 : Int) < (A.length : Int) := by omega
    go_enter Tryd.func5, Tryd.ntmps5
    go_wp2_with fail
    refine (HW.out _ HTb.out).mono ?_
    rintro e w1 ⟨rfl, hb⟩
    go_wp2
    go_ret
    exact ⟨rfl, hb⟩
  have hL0 : ¬ (60 : Int) < (A.length : Int) := by omega
  have hL0' : decide ((60 : Int) < (A.length : Int)) = false := by rw [decide_eq_false_iff_not]; omega
  go_enter Tryd.func5, Tryd.ntmps5
  go_wp2_with fail
  refine HN.out.mono ?_
  rintro e w1 ⟨C, h, l0, rfl, hC, hCs, hCf, hd1, hB⟩
  have HB := Lib.hid (begun2 hC hd1 (by rw [hCs]; exact hB))
  clear hB hd1 HN hCf
  go_wp2_with fail
  refine HB.out.mono ?_
  rintro e w2 ⟨rfl, hl2, -⟩
  have HL2 := Lib.hid hl2
  clear hl2 HB
  go_wp2
  go_loopw [8] (fun i wr => ∃ (j : Nat) (L : List Int), j ≤ A.length ∧ i = .int .i64 j ∧ Hid (Ls w h C l0 (List.replicate C.s (0, 0, 0)) L wr)) (fun i _ => A.length - (intOf i).toNat)
  case atStart => exact ⟨0, _, Nat.zero_le _, rfl, HL2.out⟩
  case round =>
    obtain ⟨j, L, hj, rfl, HD⟩ := hrel
    by_cases hlt : j < A.length
    · have hlt1 : (j : Int) < (A.length : Int) := by omega
      have hlt0 : (0 : Int) ≤ (j : Int) := by omega
      obtain ⟨b, off, rfl, hlb, hc⟩ := HC.out (by rintro rfl; simp at hlt)
      obtain ⟨hs1, hs2, -⟩ := HS.out j hlt
      have hcw : ∀ i u, (A.getD j Act.zero).cells[i]? = some u → w.cell? ⟨b, off + j * 5 + i, none⟩ = some u := fun i u hi => hc j hlt i u (by rw [hs2]; exact hi)
      obtain ⟨X, hX⟩ : ∃ X, X = A.getD j Act.zero := ⟨_, rfl⟩
      rw [← hX] at hcw
      obtain ⟨yk, yc, ys, yl, yf⟩ := X
      have d0 := hcw 0 _ rfl
      rw [Nat.add_zero] at d0
      have d1 := hcw 1 _ rfl
      have d2 := hcw 2 _ rfl
      simp only [] at d0 d1 d2
      have HCl : Hid (∀ W, Below w.heap.size w W → W.cell? ⟨b, off + j * 5 + 1, none⟩ = some (.int .i64 yc) ∧ W.cell? ⟨b, off + j * 5 + 2, none⟩ = some (.int .i64 ys)) := fun W hb => ⟨(hb.cell (p := ⟨b, off + j * 5 + 1, none⟩) hlb).trans d1, (hb.cell (p := ⟨b, off + j * 5 + 2, none⟩) hlb).trans d2⟩
      have e0 := (HD.out.b.cell (p := ⟨b, off + j * 5, none⟩) hlb).trans d0
      obtain ⟨c1, c2⟩ := HCl.out _ HD.out.b
      clear d0 d1 d2 hcw hX hs1 hs2 hc
      by_cases k3 : yk < 3
      · have HI := Lib.hid (fun V (d : Ls w h C l0 (List.replicate C.s (0, 0, 0)) L V) => d.insert hC yc ys)
        have hd2 := HD.out
        go_wp2_with fail
        go_region_held3 (fun w' => w'.cell? ⟨b, off + j * 5 + 1, none⟩ = some (.int .i64 yc) ∧ w'.cell? ⟨b, off + j * 5 + 2, none⟩ = some (.int .i64 ys)) (first | exact ⟨c1, c2⟩ | go_keep) ((go_at_call 19; refine (HI.out _ (by first | exact hd2 | exact hd2.drew)).mono ?_; rintro e w3 ⟨rfl, hd3, -⟩; replace c1 := (HCl.out _ hd3.b).1; replace c2 := (HCl.out _ hd3.b).2))
        have HD3 := Lib.hid hd3
        clear hd2 hd3 c1 c2 HI
        go_wp2
        go_roundw
        case rel => exact ⟨j + 1, _, by omega, by go_num, HD3.out⟩
        case measure => simp [intOf]; omega
      · have HI := Lib.hid (fun V (d : Ls w h C l0 (List.replicate C.s (0, 0, 0)) L V) => d.remove hC yc ys)
        have hd2 := HD.out
        go_wp2_with fail
        go_region_held3 (fun w' => w'.cell? ⟨b, off + j * 5 + 1, none⟩ = some (.int .i64 yc) ∧ w'.cell? ⟨b, off + j * 5 + 2, none⟩ = some (.int .i64 ys)) (first | exact ⟨c1, c2⟩ | go_keep) ((go_at_call 20; refine (HI.out _ (by first | exact hd2 | exact hd2.drew)).mono ?_; rintro e w3 ⟨rfl, hd3, -⟩; replace c1 := (HCl.out _ hd3.b).1; replace c2 := (HCl.out _ hd3.b).2))
        have HD3 := Lib.hid hd3
        clear hd2 hd3 c1 c2 HI
        go_wp2
        go_roundw
        case rel => exact ⟨j + 1, _, by omega, by go_num, HD3.out⟩
        case measure => simp [intOf]; omega
    · obtain rfl : j = A.length := by omega
      obtain ⟨X, hXb, hX⟩ := HD.out.bytes
      have HX := Lib.hid hX
      have HIm := Lib.hid (fun V (d : Ls w h C l0 (List.replicate C.s (0, 0, 0)) L V) => d.image X hX)
      have HI := Lib.hid (fun V (d : Ls w h C l0 (List.replicate C.s (0, 0, 0)) L V) => d.insert hC c s)
      have HLen : Hid (L.length = C.s) := by
        obtain ⟨l, -, d2⟩ := HD.out
        exact d2.len
      have HCls : Hid (∀ n, -1 ≤ at_ L n) := by
        obtain ⟨l, -, d2⟩ := HD.out
        exact fun n => (d2.cls n).1
      obtain ⟨S, hS⟩ : ∃ S, S = strOfNums X := ⟨_, rfl⟩
      have HSS : Hid (∀ V u, Row .u8 V u X → (convert 52 9 u).run Tryd.prog V = .ok (.string S) V) := fun V u hu => by
        rw [hS]
        exact row_text hu
      have heq : (S.toList == S.toList) = true := by simp
      clear hX hXb hS
      go_wp2_with fail
      refine (HIm.out _ HD.out).mono ?_
      rintro e w3 ⟨u, rfl, hb3, hn3, hd3⟩
      have HFr : Hid (∀ V, Fr w3.heap.size (blkM h) w3 V → Row .u8 V u X) := fun V hf => hn3.1.fr hf (fun hne b hb => by
        obtain ⟨a', c', rfl, -, -, -, q⟩ := hn3.1
        obtain ⟨b', o', rfl, hlt, -⟩ := q hne
        cases hb
        refine ⟨hlt, fun hk => ?_⟩
        have h1 : wr.heap.size ≤ b' := (hn3.2 _ _ _ _ rfl hne).1
        have h2 : b' < wr.heap.size := HD.out.lt _ hk
        omega)
      obtain ⟨ua, uc, rfl, -⟩ := hn3.1
      have HD3 := Lib.hid hd3
      clear hb3 hn3 hd3 HD
      go_wp2_with fail
      refine (HI.out _ HD3.out).mono ?_
      rintro e w4 ⟨rfl, hd4, hf4⟩
      obtain ⟨E, hE⟩ : ∃ E, E = inE C.s L c s := ⟨_, rfl⟩
      rw [← hE]
      have HR4 := Lib.hid (HFr.out _ hf4)
      by_cases h0 : E = 0
      · rw [h0] at hE ⊢
        obtain ⟨k, n, rfl, hk, rfl, hn, hat⟩ := ck_zero HLen.out hE.symm
        have hat1 : at_ L n = -1 := by have := HCls.out n; omega
        have hL1 : inL C.s L k n = L.set n k := by rw [inL, if_pos hE.symm, Int.toNat_natCast]
        rw [hL1] at hd4
        obtain ⟨hr1, hr2⟩ := rm_back HLen.out hk hn hat1
        have HRm := Lib.hid (hd4.remove hC (k : Int) (n : Int))
        rw [hr1, hr2] at HRm
        have HF4 := Lib.hid hf4
        clear hE hat hat1 hL1 hd4 hf4 hr1 hr2
        go_wp2_with fail
        refine HRm.out.mono ?_
        rintro e w5 ⟨rfl, hd5, hf5⟩
        have hr5 := HFr.out _ (HF4.out.trans (hf5.mono HF4.out.size (fun _ _ q => q)))
        clear hf5 HRm HF4 HR4
        go_wp2_with fail
        have hcv := HSS.out _ _ hr5
        have hcvd := HSS.out w5.drew _ (hr5.mono (Below.refl w5.heap.size w5).drew (Nat.le_refl _))
        go_region_with (first | (go_at_call 21; refine (HIm.out _ (by first | exact hd5 | exact hd5.drew)).mono ?_; rintro e w6 ⟨u6, rfl, hb6, hn6, hd6⟩; have hcv6 := HSS.out _ _ hn6.1; have hcw6 := HSS.out _ _ (hr5.mono ((Below.refl w5.heap.size w5).drew.trans hb6) (Nat.le_refl _)); obtain ⟨u6a, u6c, rfl, -⟩ := hn6.1) | (go_at_call 6; refine (HW.out _ hd6.tb).mono ?_; rintro e w7 ⟨rfl, hb7⟩))
        all_goals
          have HBe := Lib.hid (hd6.b.trans (hb7.mono hd6.b.size))
          clear hd6 hb7 hr5
          go_wp2
          go_ret
          exact ⟨rfl, HBe.out⟩
      · have hq : (E != 0) = true := by rw [bne_iff_ne]; exact h0
        have hL1 : inL C.s L c s = L := by rw [inL, if_neg (by rw [← hE]; exact h0)]
        rw [hL1] at hd4
        have hr4 := HR4.out
        have hcv := HSS.out _ _ hr4
        have hcvd := HSS.out w4.drew _ (hr4.mono (Below.refl w4.heap.size w4).drew (Nat.le_refl _))
        clear hE h0 hL1 hf4 HR4
        go_wp2_with fail
        go_region_with (first | (go_at_call 21; refine (HIm.out _ (by first | exact hd4 | exact hd4.drew)).mono ?_; rintro e w5 ⟨u5, rfl, hb5, hn5, hd5⟩; have hcv5 := HSS.out _ _ hn5.1; have hcw5 := HSS.out _ _ (hr4.mono ((Below.refl w4.heap.size w4).drew.trans hb5) (Nat.le_refl _)); obtain ⟨u5a, u5c, rfl, -⟩ := hn5.1) | (go_at_call 6; refine (HW.out _ hd5.tb).mono ?_; rintro e w6 ⟨rfl, hb6⟩))
        all_goals
          have HBe := Lib.hid (hd5.b.trans (hb6.mono hd5.b.size))
          clear hd5 hb6 hr4
          go_wp2
          go_ret
          exact ⟨rfl, HBe.out⟩
end Go.Proofs.YtcakoikcafiolaaDoor.Lis

namespace Go.Proofs.YtcakoikcafiolaaDoor.Lis
open Go.RowKit Num Arn
open Mem (Mm MemC MRet Hm rd blkM)
set_option linter.unusedVariables false

/-- A row of sixteen numbers. -/
def sv (F : Nat → Int) : Array Value := ((List.range 16).map fun y => Value.int .i64 (F y)).toArray
theorem sv_get (F : Nat → Int) (y : Nat) (hy : y < 16) : (sv F)[y]? = some (.int .i64 (F y)) := by simp [sv, hy]
theorem sv_set (F : Nat → Int) (y : Nat) (v : Int) : (sv F).setIfInBounds y (.int .i64 v) = sv (fun z => if z = y then v else F z) := by
  apply Array.ext_getElem?
  intro i
  rw [Array.getElem?_setIfInBounds]
  by_cases h : y = i
  · subst h
    by_cases h2 : y < 16
    · simp [sv, h2]
    · simp [sv, h2]
  · have h' : ¬ i = y := fun e => h e.symm
    by_cases h2 : i < 16
    · simp [sv, h, h', h2]
    · simp [sv, h, h2]
/-- How often each slab was seen: in the lists below c, and in the first i of list c. -/
def seenF (L : List Int) (c : Int) (i : Nat) (y : Nat) : Int := (if 0 ≤ at_ L y ∧ at_ L y < c then 1 else 0) + (if y ∈ (allL L c 0).take i then 1 else 0)
theorem seen_zero (L : List Int) (y : Nat) : seenF L 0 0 y = 0 := by
  unfold seenF
  rw [if_neg (by omega)]
  simp
theorem seen_next (L : List Int) (c : Nat) (y : Nat) : seenF L (c : Int) (allL L c 0).length y = seenF L ((c + 1 : Nat) : Int) 0 y := by
  unfold seenF
  rw [List.take_length]
  simp only [List.take_zero, List.not_mem_nil, if_false, mem_all]
  repeat' split
  all_goals omega
theorem seen_step {L : List Int} {c : Int} {i : Nat} (hi : i < (allL L c 0).length) (y : Nat) : seenF L c (i + 1) y = if y = (allL L c 0).getD i 0 then seenF L c i ((allL L c 0).getD i 0) + 1 else seenF L c i y := by
  have hs := all_sorted L c
  have ht := take_getD_snoc (allL L c 0) i hi
  have hnd : (allL L c 0).getD i 0 ∉ (allL L c 0).take i := by
    intro hm
    obtain ⟨k, hk, e⟩ := List.getElem_of_mem hm
    rw [List.getElem_take] at e
    have hk2 : k < i := by rw [List.length_take] at hk; omega
    have h1 := List.pairwise_iff_getElem.1 hs k i (by omega) hi hk2
    have h2 : (allL L c 0).getD i 0 = (allL L c 0)[i] := by simp [List.getD, hi]
    omega
  unfold seenF
  rw [ht]
  by_cases e : y = (allL L c 0).getD i 0
  · rw [if_pos e, e, if_neg hnd, if_pos (show (allL L c 0).getD i 0 ∈ (allL L c 0).take i ++ [(allL L c 0).getD i 0] from List.mem_append_right _ (List.mem_singleton.2 rfl))]
    omega
  · rw [if_neg e]
    have h1 : (y ∈ (allL L c 0).take i ++ [(allL L c 0).getD i 0]) ↔ y ∈ (allL L c 0).take i := by
      rw [List.mem_append, List.mem_singleton]
      exact ⟨fun h => h.resolve_right e, .inl⟩
    simp only [h1]
theorem seen_le (L : List Int) (c : Int) (y : Nat) : seenF L c 0 y ≤ 1 := by
  unfold seenF
  simp only [List.take_zero, List.not_mem_nil, if_false]
  split <;> omega
theorem seen_bd (L : List Int) (c : Int) (i y : Nat) : 0 ≤ seenF L c i y ∧ seenF L c i y ≤ 2 := by
  unfold seenF
  repeat' split
  all_goals omega
theorem all_asc {L : List Int} {c : Int} {i : Nat} (hi : i + 1 < (allL L c 0).length) : (allL L c 0).getD i 0 < (allL L c 0).getD (i + 1) 0 := by
  have h1 := List.pairwise_iff_getElem.1 (all_sorted L c) i (i + 1) (by omega) hi (by omega)
  simpa [List.getD, hi, show i < (allL L c 0).length by omega] using h1

set_option maxRecDepth 100000 in
set_option maxHeartbeats 8000000 in
theorem listsSorted_walk (v : Value) (A : List Act) (w : World) (ht : Tb w) (hr : ActRow w v A) :
    Calls Tryd.prog 4 #[v] w fun e w' => e = .returned (.bool true) ∧ Below w.heap.size w w' := by
  have HW := Lib.hid (fun V (hv : Tb V) => lines_any V hv)
  have HTb := Lib.hid ht
  obtain ⟨ad, cap, U, rfl, q2, q3, q4, q5⟩ := hr
  have HC := Lib.hid q5
  have HS := Lib.hid q4
  have HN := Lib.hid (begun 16 512 w (by decide) ht)
  clear q4 q5 ht
  by_cases hL : 60 < A.length
  · have hL1 : (60 : Int) < (A.length : Int) := by omega
    go_enter Tryd.func4, Tryd.ntmps4
    go_wp2_with fail
    refine (HW.out _ HTb.out).mono ?_
    rintro e w1 ⟨rfl, hb⟩
    go_wp2
    go_ret
    exact ⟨rfl, hb⟩
  have hL0 : ¬ (60 : Int) < (A.length : Int) := by omega
  have hL0' : decide ((60 : Int) < (A.length : Int)) = false := by rw [decide_eq_false_iff_not]; omega
  go_enter Tryd.func4, Tryd.ntmps4
  go_wp2_with fail
  refine HN.out.mono ?_
  rintro e w1 ⟨C, h, l0, rfl, hC, hCs, hCf, hd1, hB⟩
  have HB := Lib.hid (begun2 hC hd1 (by rw [hCs]; exact hB))
  clear hB hd1 HN hCf
  go_wp2_with fail
  refine HB.out.mono ?_
  rintro e w2 ⟨rfl, hl2, -⟩
  have HL2 := Lib.hid hl2
  clear hl2 HB
  go_wp2
  go_loopw [4] (fun i wr => ∃ (j : Nat) (L : List Int), j ≤ A.length ∧ i = .int .i64 j ∧ Hid (Ls w h C l0 (List.replicate C.s (0, 0, 0)) L wr)) (fun i _ => A.length - (intOf i).toNat)
  case atStart => exact ⟨0, _, Nat.zero_le _, rfl, HL2.out⟩
  case round =>
    obtain ⟨j, L, hj, rfl, HD⟩ := hrel
    by_cases hlt : j < A.length
    · have hlt1 : (j : Int) < (A.length : Int) := by omega
      have hlt0 : (0 : Int) ≤ (j : Int) := by omega
      obtain ⟨b, off, rfl, hlb, hc⟩ := HC.out (by rintro rfl; simp at hlt)
      obtain ⟨hs1, hs2, -⟩ := HS.out j hlt
      have hcw : ∀ i u, (A.getD j Act.zero).cells[i]? = some u → w.cell? ⟨b, off + j * 5 + i, none⟩ = some u := fun i u hi => hc j hlt i u (by rw [hs2]; exact hi)
      obtain ⟨X, hX⟩ : ∃ X, X = A.getD j Act.zero := ⟨_, rfl⟩
      rw [← hX] at hcw
      obtain ⟨yk, yc, ys, yl, yf⟩ := X
      have d0 := hcw 0 _ rfl
      rw [Nat.add_zero] at d0
      have d1 := hcw 1 _ rfl
      have d2 := hcw 2 _ rfl
      simp only [] at d0 d1 d2
      have HCl : Hid (∀ W, Below w.heap.size w W → W.cell? ⟨b, off + j * 5 + 1, none⟩ = some (.int .i64 yc) ∧ W.cell? ⟨b, off + j * 5 + 2, none⟩ = some (.int .i64 ys)) := fun W hb => ⟨(hb.cell (p := ⟨b, off + j * 5 + 1, none⟩) hlb).trans d1, (hb.cell (p := ⟨b, off + j * 5 + 2, none⟩) hlb).trans d2⟩
      have e0 := (HD.out.b.cell (p := ⟨b, off + j * 5, none⟩) hlb).trans d0
      obtain ⟨c1, c2⟩ := HCl.out _ HD.out.b
      clear d0 d1 d2 hcw hX hs1 hs2 hc
      by_cases k3 : yk < 3
      · have HI := Lib.hid (fun V (d : Ls w h C l0 (List.replicate C.s (0, 0, 0)) L V) => d.insert hC yc ys)
        have hd2 := HD.out
        go_wp2_with fail
        go_region_held3 (fun w' => w'.cell? ⟨b, off + j * 5 + 1, none⟩ = some (.int .i64 yc) ∧ w'.cell? ⟨b, off + j * 5 + 2, none⟩ = some (.int .i64 ys)) (first | exact ⟨c1, c2⟩ | go_keep) ((go_at_call 19; refine (HI.out _ (by first | exact hd2 | exact hd2.drew)).mono ?_; rintro e w3 ⟨rfl, hd3, -⟩; replace c1 := (HCl.out _ hd3.b).1; replace c2 := (HCl.out _ hd3.b).2))
        have HD3 := Lib.hid hd3
        clear hd2 hd3 c1 c2 HI
        go_wp2
        go_roundw
        case rel => exact ⟨j + 1, _, by omega, by go_num, HD3.out⟩
        case measure => simp [intOf]; omega
      · have HI := Lib.hid (fun V (d : Ls w h C l0 (List.replicate C.s (0, 0, 0)) L V) => d.remove hC yc ys)
        have hd2 := HD.out
        go_wp2_with fail
        go_region_held3 (fun w' => w'.cell? ⟨b, off + j * 5 + 1, none⟩ = some (.int .i64 yc) ∧ w'.cell? ⟨b, off + j * 5 + 2, none⟩ = some (.int .i64 ys)) (first | exact ⟨c1, c2⟩ | go_keep) ((go_at_call 20; refine (HI.out _ (by first | exact hd2 | exact hd2.drew)).mono ?_; rintro e w3 ⟨rfl, hd3, -⟩; replace c1 := (HCl.out _ hd3.b).1; replace c2 := (HCl.out _ hd3.b).2))
        have HD3 := Lib.hid hd3
        clear hd2 hd3 c1 c2 HI
        go_wp2
        go_roundw
        case rel => exact ⟨j + 1, _, by omega, by go_num, HD3.out⟩
        case measure => simp [intOf]; omega
    · obtain rfl : j = A.length := by omega
      obtain ⟨i0, hi, hz0, hz1, hz2⟩ := info_parts infoInt
      have HLen : Hid (L.length = 16) := by
        obtain ⟨l, -, d2⟩ := HD.out
        exact d2.len.trans hCs
      go_wp2_with (first | (refine wpList_make_row rfl _ _ 45 rfl 3 i0 (.int .i64 0) 8 Tryd.underlying45 hi hz0 hz1 hz2 .i64 .i64 16 rfl rfl (by decide) (by decide) ?_))
      have hmk : madeCells #[Value.int .i64 0] 16 = sv (seenF L ((0 : Nat) : Int) 0) := by
        have e : seenF L ((0 : Nat) : Int) 0 = fun _ => 0 := funext (seen_zero L)
        rw [e]
        rw [madeCells_one]
        simp [sv, List.range, List.range.loop, List.replicate]
      rw [hmk]
      have hblk := heap_alloc_new wr (.cells (sv (seenF L ((0 : Nat) : Int) 0)) 3)
      have hal := below_made wr (.cells (sv (seenF L ((0 : Nat) : Int) 0)) 3)
      have hd5 := HD.out.below hal
      have hsz5 : (wr.alloc (.cells (sv (seenF L ((0 : Nat) : Int) 0)) 3)).heap.size = wr.heap.size + 1 := by simp
      have HSb : Hid (w.heap.size ≤ wr.heap.size ∧ ¬ blkM h wr.heap.size ∧ wr.heap.size ≠ 0 ∧ wr.heap.size ≠ 1) := by
        obtain ⟨l, d1, -⟩ := HD.out
        have t := d1.m.tabs
        refine ⟨d1.b.size, fun q => ?_, by omega, by omega⟩
        have : wr.heap.size < wr.heap.size := d1.m.lt _ q
        omega
      generalize wr.alloc (.cells (sv (seenF L ((0 : Nat) : Int) 0)) 3) = W5 at hblk hal hd5 hsz5 ⊢
      have HD5 := Lib.hid hd5
      have HBk := Lib.hid hblk
      generalize wr.heap.size = Sb at hsz5 HSb HBk hblk ⊢
      have hSb5 : Sb < W5.heap.size := by omega
      clear hmk hblk hal hd5 hi hz0 hz1 hz2 HD
      go_loopw [6] (fun i wq => ∃ c : Nat, c ≤ 10 ∧ i = .int .i64 c ∧ Hid (Ls w h C l0 (List.replicate C.s (0, 0, 0)) L wq) ∧ Hid (wq.heap[Sb]? = some (.cells (sv (seenF L (c : Int) 0)) 3 (0, 0)))) (fun i _ => 10 - (intOf i).toNat)
      case atStart => exact ⟨0, by omega, rfl, HD5.out, HBk.out⟩
      case round =>
        obtain ⟨c, hc10, rfl, HLs, HSv⟩ := hrel
        by_cases hlt : c < 10
        · have hlt1 : (c : Int) < 10 := by omega
          have hlt0 : (0 : Int) ≤ (c : Int) := by omega
          have hAl := HLs.out.all hC (c : Int)
          have hal0 : alI L (c : Int) = allL L (c : Int) 0 := by rw [alI, if_pos (by simp [isL]; omega)]
          rw [hal0] at hAl
          have HAl := Lib.hid hAl
          clear hAl
          go_wp2_with fail
          refine HAl.out.mono ?_
          rintro e w3 ⟨u, rfl, hrow, hown, hd3, hf3⟩
          have hSlt : Sb < wr.heap.size := (Array.getElem?_eq_some_iff.1 HSv.out).1
          have hsv3 := (hf3.block Sb hSlt HSb.out.2.1).trans HSv.out
          have hk3 : ∀ k, blkM h k → k < wr.heap.size := HLs.out.lt
          have HRow : Hid (∀ V, Fr w3.heap.size (fun k => blkM h k ∨ k = Sb) w3 V → Row .i64 V u (ints (allL L (c : Int) 0))) := fun V hf => hrow.fr hf (fun hne b hb => by
            have h1 := hown b hb
            obtain ⟨a', c', rfl, -, -, -, q⟩ := hrow
            obtain ⟨b', o', rfl, hlt', -⟩ := q hne
            cases hb
            refine ⟨hlt', ?_⟩
            rintro (q | q)
            · have := hk3 _ q
              omega
            · omega)
          have HNb : Hid (∀ b, u.ownBlock = some b → ¬ blkM h b) := fun b e q => by
            have h1 := hown b e
            have h2 := hk3 _ q
            omega
          have HD3 := Lib.hid hd3
          have HS3 := Lib.hid hsv3
          have hx15 : ∀ i, i < (allL L (c : Int) 0).length → (allL L (c : Int) 0).getD i 0 < 16 := fun i hi => by
            have h1 : (allL L (c : Int) 0).getD i 0 ∈ allL L (c : Int) 0 := by
              have e : (allL L (c : Int) 0).getD i 0 = (allL L (c : Int) 0)[i] := by simp [List.getD, hi]
              rw [e]
              exact List.getElem_mem hi
            have h2 := all_lt h1
            have h3 := HLen.out
            omega
          have HX15 := Lib.hid hx15
          have HAsc := Lib.hid (fun i (hi : i + 1 < (allL L (c : Int) 0).length) => all_asc hi)
          have HStep := Lib.hid (fun i (hi : i < (allL L (c : Int) 0).length) => seen_step hi)
          have HNext := Lib.hid (fun y => seen_next L c y)
          have HBd := Lib.hid (fun i y => seen_bd L (c : Int) i y)
          obtain ⟨ua, uc, rfl, r2, r3, -, -⟩ := id hrow
          rw [ints_length] at r2 HRow ⊢
          obtain ⟨B, hBq⟩ : ∃ B, B = allL L (c : Int) 0 := ⟨_, rfl⟩
          rw [← hBq] at r2 HRow HX15 HAsc HStep HNext ⊢
          have HFi : Hid (fiI L (c : Int) = (headN B : Int) - 1) := by rw [Hid, fiI, hal0, hBq]
          clear hrow hown hd3 hf3 hsv3 hk3 hx15 HAl hal0 hBq
          go_wp2_with fail
          go_loopw [8] (fun i wq => ∃ k : Nat, k ≤ B.length ∧ i = .int .i64 k ∧ Hid (Ls w h C l0 (List.replicate C.s (0, 0, 0)) L wq) ∧ Hid (Fr w3.heap.size (fun k => blkM h k ∨ k = Sb) w3 wq) ∧ Hid (wq.heap[Sb]? = some (.cells (sv (seenF L (c : Int) k)) 3 (0, 0)))) (fun i _ => B.length - (intOf i).toNat)
          case atStart => exact ⟨0, Nat.zero_le _, rfl, HD3.out, Fr.refl _ _ _, HS3.out⟩
          case round =>
            obtain ⟨k, hk, rfl, HL4, HF4, HS4⟩ := hrel
            by_cases hlt : k < B.length
            · have hlt2 : (k : Int) < (B.length : Int) := by omega
              have hlt3 : (0 : Int) ≤ (k : Int) := by omega
              have hrw := HRow.out _ HF4.out
              obtain ⟨ua', uc', e', -, -, -, r5⟩ := hrw
              injection e' with e1 e2 e3
              subst e1 e3
              clear e2
              obtain ⟨b, o, rfl, hbl, hcell⟩ := r5 (by intro q; have h1 := congrArg List.length q; rw [ints_length, List.length_nil] at h1; omega)
              have hc1 := hcell k (by rw [ints_length]; exact hlt)
              rw [ints_get] at hc1
              have hx := HX15.out k hlt
              obtain ⟨x, hxq⟩ : ∃ x, x = B.getD k 0 := ⟨_, rfl⟩
              rw [← hxq] at hc1 hx
              have hg1 : decide ((x : Int) < 0) = false := by rw [decide_eq_false_iff_not]; omega
              have hg2 : decide ((15 : Int) < (x : Int)) = false := by rw [decide_eq_false_iff_not]; omega
              have HXq := Lib.hid hxq
              have HCk := Lib.hid hc1
              have HQ : Hid (∀ nq, ∀ b' o' u', wr.cell? ⟨b', o', none⟩ = some u' → (wr.drewN nq).cell? ⟨b', o', none⟩ = some u') := fun nq b' o' u' hq => ((below_drewN (Below.refl wr.heap.size wr) nq).cell (p := ⟨b', o', none⟩) (cell_lt hq)).trans hq
              have HLt := Lib.hid (cell_lt hc1)
              have hfin : ∀ V, Below wr.heap.size wr V → V.cell? ⟨b, o + k, none⟩ = some (.int .i64 (x : Int)) ∧ V.cell? ⟨Sb, x, none⟩ = some (.int .i64 (seenF L (c : Int) k x)) ∧ V.frozen? ⟨Sb, x, none⟩ = false ∧ Ls w h C l0 (List.replicate C.s (0, 0, 0)) L (V.setCell ⟨Sb, x, none⟩ (.int .i64 (seenF L (c : Int) k x + 1))) ∧ Fr w3.heap.size (fun k => blkM h k ∨ k = Sb) w3 (V.setCell ⟨Sb, x, none⟩ (.int .i64 (seenF L (c : Int) k x + 1))) ∧ (V.setCell ⟨Sb, x, none⟩ (.int .i64 (seenF L (c : Int) k x + 1))).heap[Sb]? = some (.cells (sv (seenF L (c : Int) (k + 1))) 3 (0, 0)) := fun V hb => by
                have hblk := (hb.block Sb (Array.getElem?_eq_some_iff.1 HS4.out).1).trans HS4.out
                refine ⟨(hb.cell (p := ⟨b, o + k, none⟩) HLt.out).trans HCk.out, (cell_block hblk x).trans (sv_get _ x hx), Wat.frozen_block hblk x, (HL4.out.below hb).other ((Fr.refl V.heap.size (fun j => j = Sb) V).setCell (p := ⟨Sb, x, none⟩) (.inr rfl) _) (fun j e => by rw [e]; exact HSb.out), (HF4.out.trans ((Fr.of_below hb).mono HF4.out.size (fun _ _ q => q))).setCell (p := ⟨Sb, x, none⟩) (.inr (.inr rfl)) _, ?_⟩
                refine (heap_setCell_own hblk _).trans ?_
                rw [sv_set]
                congr 2
                have e : seenF L (c : Int) (k + 1) = fun z => if z = x then seenF L (c : Int) k x + 1 else seenF L (c : Int) k z := funext fun z => by
                  have := HStep.out k hlt z
                  rw [← HXq.out] at this
                  exact this
                rw [e]
              have HFin := Lib.hid hfin
              have hbd := HBd.out k x
              obtain ⟨f, hf⟩ : ∃ f, f = seenF L (c : Int) k x := ⟨_, rfl⟩
              rw [← hf] at hbd HFin
              obtain ⟨f1, hf1⟩ : ∃ f1, f1 = f + 1 := ⟨_, rfl⟩
              rw [← hf1] at HFin
              have hw1 : IntKind.i64.wrap (f + 1) = f1 := (wrap_id (by omega) (by omega)).trans hf1.symm
              have hx0 : (0 : Int) ≤ (x : Int) := by omega
              have hx16 : (x : Int) < 16 := by omega
              have hS0 := HS4.out
              have HCl2 : Hid (∀ i, i < B.length → wr.cell? ⟨b, o + i, none⟩ = some (.int .i64 ((B.getD i 0 : Nat) : Int))) := fun i hi => by
                have := hcell i (by rw [ints_length]; exact hi)
                rw [ints_get] at this
                exact this
              clear hfin hf hf1 hbd hcell hxq
              by_cases hk0 : k = 0
              · have hg3 : decide ((0 : Int) < (k : Int)) = false := by rw [decide_eq_false_iff_not]; omega
                have hg3' : decide (0 < k) = false := by rw [decide_eq_false_iff_not]; omega
                clear hk0
                go_wp2_with fail
                go_quiet (fail)
                go_wp2_with fail
                obtain ⟨m1, m2, m3, -, -, -⟩ := HFin.out (wr.drewN nq) (below_drewN (Below.refl _ _) nq)
                have HV : Hid (Below wr.heap.size wr (wr.drewN nq)) := below_drewN (Below.refl _ _) nq
                generalize wr.drewN nq = V at m1 m2 m3 HV ⊢
                go_region
                obtain ⟨-, -, -, m4, m5, m6⟩ := HFin.out V HV.out
                have M4 := Lib.hid m4.drew
                have M5 := Lib.hid m5.drew
                have M6 : Hid ((V.setCell ⟨Sb, x, none⟩ (.int .i64 f1)).drew.heap[Sb]? = some (.cells (sv (seenF L (c : Int) (k + 1))) 3 (0, 0))) := m6
                clear m1 m2 m3 m4 m5 m6 hc1 hS0
                go_wp2
                go_roundw
                case rel => exact ⟨k + 1, by omega, by go_num, M4.out, M5.out, M6.out⟩
                case measure => simp [intOf]; omega
              · obtain ⟨k1, hk1⟩ : ∃ k1, k1 = k - 1 := ⟨_, rfl⟩
                have hg3 : decide ((0 : Int) < (k : Int)) = true := by rw [decide_eq_true_iff]; omega
                have hg3' : decide (0 < k) = true := by rw [decide_eq_true_iff]; omega
                have hg5 : (0 : Int) < (k : Int) := by omega
                have hc2 := HCl2.out k1 (by omega)
                have hasc := HAsc.out k1 (by omega)
                rw [show k1 + 1 = k by omega, ← HXq.out] at hasc
                obtain ⟨xp, hxp⟩ : ∃ xp, xp = B.getD k1 0 := ⟨_, rfl⟩
                rw [← hxp] at hc2 hasc
                have hg4 : decide ((x : Int) ≤ (xp : Int)) = false := by rw [decide_eq_false_iff_not]; omega
                have hg6 : (xp : Int) < (x : Int) := by omega
                have hwk : IntKind.i64.wrap ((k : Int) - 1) = (k1 : Int) := (wrap_id (by omega) (by omega)).trans (by omega)
                have hk11 : (k1 : Int) < (B.length : Int) := by omega
                have hk10 : (0 : Int) ≤ (k1 : Int) := by omega
                have hk12 : k1 < B.length := by omega
                clear hk0 hk1 hasc hxp
                go_wp2_with fail
                go_quiet (fail)
                go_wp2_with fail
                obtain ⟨m1, m2, m3, -, -, -⟩ := HFin.out (wr.drewN nq) (below_drewN (Below.refl _ _) nq)
                have HV : Hid (Below wr.heap.size wr (wr.drewN nq)) := below_drewN (Below.refl _ _) nq
                generalize wr.drewN nq = V at m1 m2 m3 HV ⊢
                go_region
                obtain ⟨-, -, -, m4, m5, m6⟩ := HFin.out V HV.out
                have M4 := Lib.hid m4.drew
                have M5 := Lib.hid m5.drew
                have M6 : Hid ((V.setCell ⟨Sb, x, none⟩ (.int .i64 f1)).drew.heap[Sb]? = some (.cells (sv (seenF L (c : Int) (k + 1))) 3 (0, 0))) := m6
                clear m1 m2 m3 m4 m5 m6 hc1 hS0
                go_wp2
                go_roundw
                case rel => exact ⟨k + 1, by omega, by go_num, M4.out, M5.out, M6.out⟩
                case measure => simp [intOf]; omega
            · obtain rfl : k = B.length := by omega
              have hnx : seenF L (c : Int) B.length = seenF L ((c + 1 : Nat) : Int) 0 := funext HNext.out
              have hs4 := HS4.out
              rw [hnx] at hs4
              have HSx : Hid (∀ V, Fr wr.heap.size (blkM h) wr V → V.heap[Sb]? = some (.cells (sv (seenF L ((c + 1 : Nat) : Int) 0)) 3 (0, 0))) := fun V hf => (hf.block Sb (Array.getElem?_eq_some_iff.1 hs4).1 HSb.out.2.1).trans hs4
              have hrw := HRow.out _ HF4.out
              have HFst := Lib.hid (fun V (d : Ls w h C l0 (List.replicate C.s (0, 0, 0)) L V) => d.first hC (c : Int))
              have hd := HL4.out
              clear hnx hs4
              by_cases hn : B.length = 0
              · have hB0 : B = [] := List.eq_nil_of_length_eq_zero hn
                subst hB0
                have hfi := HFi.out
                rw [show fiI L (c : Int) = -1 from hfi] at HFst
                have HFst2 : Hid (∀ kk : KM (fun V => Ls w h C l0 (List.replicate C.s (0, 0, 0)) L V ∧ Fr wr.heap.size (blkM h) wr V), Calls Tryd.prog 13 #[.pointer (some ⟨h.g, 0, none⟩), .int .i64 (c : Int)] kk.w fun e w' => e = .returned (.int .i64 (-1)) ∧ (Ls w h C l0 (List.replicate C.s (0, 0, 0)) L w' ∧ Fr wr.heap.size (blkM h) wr w')) := fun kk => (HFst.out _ kk.ok.1).mono fun e w' q => ⟨q.1, q.2.1, kk.ok.2.trans (q.2.2.mono kk.ok.2.size (fun _ _ z => z))⟩
                clear hfi hn hrw
                go_wp2_with fail
                refine wp_region_km (Φ := fun V => Ls w h C l0 (List.replicate C.s (0, 0, 0)) L V ∧ Fr wr.heap.size (blkM h) wr V) (by kernel_rfl) (by kernel_rfl) ⟨hd.drew, (Fr.refl _ _ _).drew⟩ ?_
                intro hne
                repeat (first | (go_big_quiet_step ((go_at_call 13; exact Calls.km_of (HFst2.out _)))) | (quiet_step (first | rfl | (go_at_call 13; exact Calls.km_of (HFst2.out _)))))
                refine wpQuiet_nil ?_
                intro _ hw'
                obtain ⟨kk, rfl⟩ := hw'
                have HD5' := Lib.hid kk.ok.1
                have HS5' := Lib.hid (HSx.out _ kk.ok.2)
                clear hd HL4 HF4 HS4
                go_wp2
                go_roundw
                case rel => exact ⟨c + 1, by omega, by go_num, HD5'.out, HS5'.out⟩
                case measure => simp [intOf]; omega
              · obtain ⟨ua', uc', e', -, -, -, r5⟩ := hrw
                injection e' with e1 e2 e3
                subst e1 e3
                clear e2
                obtain ⟨b, o, rfl, hbl, hcell⟩ := r5 (by intro q; have h1 := congrArg List.length q; rw [ints_length, List.length_nil] at h1; omega)
                have hc0 := hcell 0 (by rw [ints_length]; omega)
                rw [ints_get, Nat.add_zero] at hc0
                have hx := HX15.out 0 (by omega)
                have hfi := HFi.out
                obtain ⟨x0, hx0⟩ : ∃ x0, x0 = B.getD 0 0 := ⟨_, rfl⟩
                have hfi2 : fiI L (c : Int) = (x0 : Int) := by
                  rw [hfi, hx0]
                  cases B with
                  | nil => exact absurd rfl hn
                  | cons y r => simp only [headN, List.getD_cons_zero]; omega
                rw [hfi2] at HFst
                rw [← hx0] at hc0
                have hq1 : ((B.length : Int) == 0) = false := by rw [beq_eq_false_iff_ne]; omega
                have hq2 : decide ((0 : Int) < (B.length : Int)) = true := by rw [decide_eq_true_iff]; omega
                have hq3 : (0 : Int) < (B.length : Int) := by omega
                have hq4 : 0 < B.length := by omega
                have hq6 : decide (0 < B.length) = true := by rw [decide_eq_true_iff]; omega
                have hq5 : ((x0 : Int) != (x0 : Int)) = false := by simp
                have hbn : ¬ blkM h b := HNb.out b rfl
                have k0 : ∀ kk : KM (fun V => Ls w h C l0 (List.replicate C.s (0, 0, 0)) L V ∧ Fr wr.heap.size (blkM h) wr V), kk.w.cell? ⟨b, o, none⟩ = some (.int .i64 (x0 : Int)) := fun kk => kk.ok.2.cell hc0 hbl hbn
                have HFst2 : Hid (∀ kk : KM (fun V => Ls w h C l0 (List.replicate C.s (0, 0, 0)) L V ∧ Fr wr.heap.size (blkM h) wr V), Calls Tryd.prog 13 #[.pointer (some ⟨h.g, 0, none⟩), .int .i64 (c : Int)] kk.w fun e w' => e = .returned (.int .i64 (x0 : Int)) ∧ (Ls w h C l0 (List.replicate C.s (0, 0, 0)) L w' ∧ Fr wr.heap.size (blkM h) wr w')) := fun kk => (HFst.out _ kk.ok.1).mono fun e w' q => ⟨q.1, q.2.1, kk.ok.2.trans (q.2.2.mono kk.ok.2.size (fun _ _ z => z))⟩
                clear hfi hfi2 hx0 hx hn hcell
                go_wp2_with fail
                refine wp_region_km (Φ := fun V => Ls w h C l0 (List.replicate C.s (0, 0, 0)) L V ∧ Fr wr.heap.size (blkM h) wr V) (by kernel_rfl) (by kernel_rfl) ⟨hd.drew, (Fr.refl _ _ _).drew⟩ ?_
                intro hne
                repeat (first | (go_big_quiet_step ((go_at_call 13; exact Calls.km_of (HFst2.out _)))) | (quiet_step (first | rfl | (go_at_call 13; exact Calls.km_of (HFst2.out _)))))
                refine wpQuiet_nil ?_
                intro _ hw'
                obtain ⟨kk, rfl⟩ := hw'
                have HD5' := Lib.hid kk.ok.1
                have HS5' := Lib.hid (HSx.out _ kk.ok.2)
                clear hd HL4 HF4 HS4
                go_wp2
                go_roundw
                case rel => exact ⟨c + 1, by omega, by go_num, HD5'.out, HS5'.out⟩
                case measure => simp [intOf]; omega
        · obtain rfl : c = 10 := by omega
          go_wp2
          go_loopw [9] (fun i wq => ∃ k : Nat, k ≤ 16 ∧ i = .int .i64 k ∧ wq = wr) (fun i _ => 16 - (intOf i).toNat)
          case atStart => exact ⟨0, by omega, rfl, rfl⟩
          case round =>
            obtain ⟨k, hk, rfl, rfl⟩ := hrel
            by_cases hk16 : k < 16
            · have hlt1 : (k : Int) < 16 := by omega
              have hlt0 : (0 : Int) ≤ (k : Int) := by omega
              have hc1 := (cell_block HSv.out k).trans (sv_get _ k hk16)
              have hle := seen_le L ((10 : Nat) : Int) k
              obtain ⟨f, hf⟩ : ∃ f, f = seenF L ((10 : Nat) : Int) 0 k := ⟨_, rfl⟩
              rw [← hf] at hc1 hle
              have hg1 : ¬ (1 : Int) < f := by omega
              clear hf hle
              go_wp2
              go_roundw
              case rel => exact ⟨k + 1, by omega, by go_num, trivial⟩
              case measure => simp [intOf]; omega
            · obtain rfl : k = 16 := by omega
              go_wp2_with fail
              refine (HW.out _ HLs.out.tb).mono ?_
              rintro e w6 ⟨rfl, hb6⟩
              have HBe := Lib.hid (HLs.out.b.trans (hb6.mono HLs.out.b.size))
              clear hb6
              go_wp2
              go_ret
              exact ⟨rfl, HBe.out⟩
end Go.Proofs.YtcakoikcafiolaaDoor.Lis
