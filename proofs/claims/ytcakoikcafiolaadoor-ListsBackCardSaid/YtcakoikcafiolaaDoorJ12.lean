/- The statements on lists: the page's example. Acts on lists, as they come in as arguments. The walk of ListsBack. The walk of ListsSorted. The document's lists: what they say, All, First, Same. Get, of the landed lists and of the document's: the same header. Get of the document's lists. The document's lists: Begin, Set, Insert, Remove. Begin of the document's lists. -/
import Derived.Test.YtcakoikcafiolaaDoorJ11
import Derived.Test.YtcakoikcafiolaaDoorJ0
import Derived.Test.YtcakoikcafiolaaDoorJ2
import Derived.Deep.RegionHeld3
import Derived.Laws.MakeOwn
namespace Go.Proofs.YtcakoikcafiolaaDoor.Lis
open Go.RowKit Num
open Mem (Mm MemC MRet Hm rd blkM)
set_option linter.unusedVariables false

/-- A memory of the walk's own. -/
structure Md (w : World) (h : Hm) (C : Cf) (l : List Int) (W : World) : Prop where
  m : LM h C l W
  b : Below w.heap.size w W
  k : ∀ k, blkM h k → w.heap.size ≤ k
theorem Md.lr {w W W' : World} {h : Hm} {C : Cf} {l l' : List Int} {r : Value} {e : Ending} (d : Md w h C l W) (hr : LR h C l' r W e W') : Md w h C l' W' :=
  ⟨hr.2.1, d.b.trans (hr.2.2.toBelow d.b.size (fun k hk hh => by have := d.k k hh; omega)), d.k⟩
theorem Md.below {w W W' : World} {h : Hm} {C : Cf} {l : List Int} (d : Md w h C l W) (hb : Below W.heap.size W W') : Md w h C l W' := ⟨d.m.below hb, d.b.trans (hb.mono d.b.size), d.k⟩
theorem Md.drew {w W : World} {h : Hm} {C : Cf} {l : List Int} (d : Md w h C l W) : Md w h C l W.drew := d.below (Below.refl _ _).drew
theorem begun (S N : Nat) (w : World) (hr : Lay.rightC (S : Int) (N : Int) = true) (ht : Tb w) :
    Calls Tryd.prog 7 #[.agg #[.int .i64 (S : Int), .int .i64 (N : Int)]] w fun e w' => ∃ C h l, e = .returned (.pointer (some ⟨h.g, 0, none⟩)) ∧ C.Ok ∧ C.s = S ∧ C.ft = 0 ∧ Md w h C l w' ∧ B1 S l l 0 := by
  refine (new_any S N w hr ht).mono ?_
  rintro e w' ⟨h, l, rfl, hm, hb, hk⟩
  have hok := newCf_ok hr
  exact ⟨newCf S N, h, l, rfl, hok, rfl, rfl, ⟨hm, hb, hk⟩, B1.fresh (by rw [hm.len]; exact hok.len)⟩
theorem Md.faults {w W : World} {h : Hm} {C : Cf} {l : List Int} (d : Md w h C l W) : Calls Tryd.prog 18 #[.pointer (some ⟨h.g, 0, none⟩)] W fun e w' => e = .returned (.int .i64 C.ft) ∧ Below W.heap.size W w' := by
  obtain ⟨-, lk, hm⟩ := d.m
  exact Mem.faults_any h _ (C.mm l lk) W hm

theorem fs_is {S : Nat} {l0 l : List Int} {H : List Hx} {L : List Int} (hr : Rep S l0 l H L) {c v : Nat} (hc : c < 10) (hv : Nx L c 0 v) : fsC S l c = (v : Int) - 1 := by
  obtain ⟨u, h1, h2⟩ := hr.chn.fs hc
  rw [h1, nx_one h2 hv]

set_option maxRecDepth 100000 in
set_option maxHeartbeats 2000000 in
theorem lines_any (w : World) (ht : Tb w) : Calls Tryd.prog 6 #[] w fun e w' => e = .returned (.bool true) ∧ Below w.heap.size w w' := by
  have HN := Lib.hid (begun 7 224 w (by decide) ht)
  clear ht
  go_enter Tryd.func6, Tryd.ntmps6
  go_wp2_with fail
  refine HN.out.mono ?_
  rintro e w1 ⟨C, h, l, rfl, hC, hCs, hCf, hd1, hB⟩
  have HB := Lib.hid (begin_any h C l l w1 hC hd1.m (by rw [hCs]; exact hB))
  rw [hCs] at HB
  have HD1 := Lib.hid hd1
  clear hB hd1 HN
  go_wp2_with fail
  refine HB.out.mono ?_
  rintro e w2 ⟨l2, hl2, hr2⟩
  have HD2 := Lib.hid (HD1.out.lr hl2)
  have HR := Lib.hid (remove_any h C l l2 _ _ 0 0 w2 hC HD2.out.m (by rw [hCs]; exact hr2))
  rw [hCs, show rmE 7 (List.replicate 7 0) 0 0 = 0 by decide, show rmL 7 (List.replicate 7 0) 0 0 = [-1, 0, 0, 0, 0, 0, 0] by decide] at HR
  obtain rfl := hl2.1
  clear hl2 hr2 HB HD1
  go_wp2_with fail
  refine HR.out.mono ?_
  rintro e w3 ⟨l3, hl3, hr3⟩
  have HD3 := Lib.hid (HD2.out.lr hl3)
  have HI := Lib.hid (insert_any h C l l3 _ _ 3 0 w3 hC HD3.out.m (by rw [hCs]; exact hr3))
  rw [hCs, show inE 7 [-1, 0, 0, 0, 0, 0, 0] 3 0 = 0 by decide, show inL 7 [-1, 0, 0, 0, 0, 0, 0] 3 0 = [3, 0, 0, 0, 0, 0, 0] by decide] at HI
  obtain rfl := hl3.1
  clear hl3 hr3 HR HD2
  go_wp2_with fail
  refine HI.out.mono ?_
  rintro e w4 ⟨l4, hl4, hr4⟩
  have HD4 := Lib.hid (HD3.out.lr hl4)
  have HJ := Lib.hid (insert_any h C l l4 _ _ 0 0 w4 hC HD4.out.m (by rw [hCs]; exact hr4))
  rw [hCs, show inE 7 [3, 0, 0, 0, 0, 0, 0] 0 0 = 8 by decide, show inL 7 [3, 0, 0, 0, 0, 0, 0] 0 0 = [3, 0, 0, 0, 0, 0, 0] by decide] at HJ
  obtain rfl := hl4.1
  clear hl4 hr4 HI HD3
  go_wp2_with fail
  refine HJ.out.mono ?_
  rintro e w5 ⟨l5, hl5, hr5⟩
  have HD5 := Lib.hid (HD4.out.lr hl5)
  have hr5' : Rep C.s l l5 (List.replicate 7 (0, 0, 0)) [3, 0, 0, 0, 0, 0, 0] := by rw [hCs]; exact hr5
  have f0 : fsC C.s l5 0 = 1 := fs_is (c := 0) (v := 2) hr5' (by omega) (nx_skip (nx_here (by decide) (by decide)) (by decide))
  have f3 : fsC C.s l5 3 = 0 := fs_is (c := 3) (v := 1) hr5' (by omega) (nx_here (by decide) (by decide))
  have f4 : fsC C.s l5 4 = -1 := fs_is (c := 4) (v := 0) hr5' (by omega) (.inl ⟨rfl, fun j _ hj => (show ∀ j : Nat, j < 7 → at_ [3, 0, 0, 0, 0, 0, 0] j ≠ 4 by decide) j hj⟩)
  have HF0 := Lib.hid (fun V (d : Md w h C l5 V) => first_any h C l5 0 V hC d.m)
  have HF3 := Lib.hid (fun V (d : Md w h C l5 V) => first_any h C l5 3 V hC d.m)
  have HF4 := Lib.hid (fun V (d : Md w h C l5 V) => first_any h C l5 4 V hC d.m)
  have HA := Lib.hid (fun V (d : Md w h C l5 V) => all_any h C l5 _ 0 V hC d.m hr5'.chn)
  rw [f0] at HF0
  rw [f3] at HF3
  rw [f4] at HF4
  rw [show ints (alI [3, 0, 0, 0, 0, 0, 0] 0) = [1, 2, 3, 4, 5, 6] by decide] at HA
  have HFa := Lib.hid (fun V (d : Md w h C l5 V) => d.faults)
  rw [hCf] at HFa
  obtain rfl := hl5.1
  clear hl5 hr5 hr5' HJ HD4 f0 f3 f4
  go_wp2_with fail
  refine (HF0.out _ HD5.out).mono ?_
  rintro e w6 hl6
  obtain rfl := hl6.1
  have HD6 := Lib.hid (HD5.out.lr hl6)
  clear hl6 HD5
  go_wp2_with fail
  refine (HF3.out _ HD6.out).mono ?_
  rintro e w7 hl7
  obtain rfl := hl7.1
  have HD7 := Lib.hid (HD6.out.lr hl7)
  clear hl7 HD6
  go_wp2_with fail
  refine (HF4.out _ HD7.out).mono ?_
  rintro e w8 hl8
  obtain rfl := hl8.1
  have HD8 := Lib.hid (HD7.out.lr hl8)
  clear hl8 HD7
  go_wp2_with fail
  refine (HA.out _ HD8.out).mono ?_
  rintro e w9 ⟨u, hl9, hrow, -⟩
  obtain ⟨ad, cap, rfl, -⟩ := hrow
  obtain rfl := hl9.1
  have HD9 := Lib.hid (HD8.out.lr hl9)
  clear hl9 HD8
  go_wp2_with fail
  refine (HFa.out _ HD9.out).mono ?_
  rintro e w10 ⟨rfl, hb10⟩
  have HBe := Lib.hid (HD9.out.below hb10).b
  clear hb10 HD9
  go_wp2
  go_ret
  exact ⟨rfl, HBe.out⟩
end Go.Proofs.YtcakoikcafiolaaDoor.Lis

namespace Go.Proofs.YtcakoikcafiolaaDoor.Lis
open Go.RowKit Num Arn
set_option linter.unusedVariables false

structure Act where
  k : Int
  c : Int
  s : Int
  l : Int
  f : Int
def Act.zero : Act := ⟨0, 0, 0, 0, 0⟩
def Act.cells (x : Act) : List Value := [.int .i64 x.k, .int .i64 x.c, .int .i64 x.s, .int .i64 x.l, .int .u32 x.f]
def Act.agg (x : Act) : Value := .agg #[.int .i64 x.k, .int .i64 x.c, .int .i64 x.s, .int .i64 x.l, .int .u32 x.f]
def ActR (w : World) (cs : List Value) (x : Act) : Prop := cs = x.cells ∧ 0 ≤ x.f ∧ x.f < 4294967296
theorem actR_stays : GStays ActR := fun _ _ _ _ _ h _ _ => h
abbrev ActRow := GRow 5 ActR Act.zero

set_option maxRecDepth 100000 in
theorem act_cells {H : Type} {enc : TypeId × Value → H} {w : World} {base : Nat} {spare : Nat → Bool} {held : Bool} {n : Nat} {cs : List Value} {y : DataW H × List MemPlace}
    (h : DataW.trod enc Tryd.prog w base spare held n 35 cs = some y) : ∃ x, ActR w cs x := by
  obtain ⟨xs, n', -, -, hlen, hxs, hf⟩ := DataW.trod_struct Tryd.underlying35 h
  have h4 : cs.length = 5 := hlen.trans (by kernel_rfl)
  have x4 : xs.length = 5 := hxs
  match cs, h4, xs, x4 with
  | [c0, c1, c2, c3, c4], _, [y0, y1, y2, y3, y4], _ =>
    have f0 : DataW.trod enc Tryd.prog w base spare held n' 3 (([c0, c1, c2, c3, c4].drop 0).take (Tryd.prog.cellsOf 3)) = [y0, y1, y2, y3, y4][0]? := hf 0 _ rfl
    have f1 : DataW.trod enc Tryd.prog w base spare held n' 3 (([c0, c1, c2, c3, c4].drop 1).take (Tryd.prog.cellsOf 3)) = [y0, y1, y2, y3, y4][1]? := hf 1 _ rfl
    have f2 : DataW.trod enc Tryd.prog w base spare held n' 3 (([c0, c1, c2, c3, c4].drop 2).take (Tryd.prog.cellsOf 3)) = [y0, y1, y2, y3, y4][2]? := hf 2 _ rfl
    have f3 : DataW.trod enc Tryd.prog w base spare held n' 3 (([c0, c1, c2, c3, c4].drop 3).take (Tryd.prog.cellsOf 3)) = [y0, y1, y2, y3, y4][3]? := hf 3 _ rfl
    have f4 : DataW.trod enc Tryd.prog w base spare held n' 33 (([c0, c1, c2, c3, c4].drop 4).take (Tryd.prog.cellsOf 33)) = [y0, y1, y2, y3, y4][4]? := hf 4 _ rfl
    have q1 : Tryd.prog.cellsOf 3 = 1 := by kernel_rfl
    have q2 : Tryd.prog.cellsOf 33 = 1 := by kernel_rfl
    rw [q1] at f0 f1 f2 f3
    rw [q2] at f4
    simp only [List.drop, List.take, List.getElem?_cons_zero, List.getElem?_cons_succ] at f0 f1 f2 f3 f4
    obtain ⟨k0, e0, -, w0⟩ := DataW.trod_int Tryd.underlying3 f0
    obtain ⟨k1, e1, -, w1⟩ := DataW.trod_int Tryd.underlying3 f1
    obtain ⟨k2, e2, -, w2⟩ := DataW.trod_int Tryd.underlying3 f2
    obtain ⟨k3, e3, -, w3⟩ := DataW.trod_int Tryd.underlying3 f3
    obtain ⟨k4, e4, -, w4⟩ := DataW.trod_int Tryd.underlying33 f4
    simp at e0 e1 e2 e3 e4
    subst e0 e1 e2 e3 e4
    have hu := bounds_u32 w4
    exact ⟨⟨k0, k1, k2, k3, k4⟩, rfl, (show 0 ≤ k4 by omega), (show k4 < 4294967296 by omega)⟩
set_option maxRecDepth 100000 in
theorem open_acts {H : Type} {enc : TypeId × Value → H} {w : World} {base : Nat} {spare : Nat → Bool} {held : Bool} {r : Reach} {b0 : Nat} {v : Value} {d : DataW H} {p : List MemPlace}
    (hval : Value.okWide Tryd.prog w r b0 22 v) (h : DataW.Trod enc Tryd.prog w base spare held 22 v d p) : ∃ x : Value × List Act, v = x.1 ∧ ActRow w x.1 x.2 := by
  obtain ⟨a, len, cap, rfl⟩ := WideShapes.okWide_slice Tryd.underlying22 hval
  obtain ⟨fuel, hf⟩ := h
  obtain ⟨L, -, hrow⟩ := open_grow Act.zero Tryd.underlying22 (show Tryd.prog.cellsOf 35 = 5 by kernel_rfl) (by omega) (fun n cs y hy => act_cells hy) hf
  exact ⟨(_, L), rfl, hrow⟩

/-! ### A memory with its lists, call by call -/
open Mem (Mm MemC MRet Hm rd blkM)
/-- A memory whose bytes say H and L. -/
structure Ls (w : World) (h : Hm) (C : Cf) (l0 : List Int) (H : List Hx) (L : List Int) (W : World) : Prop where
  ex : ∃ l, Md w h C l W ∧ Rep C.s l0 l H L
theorem Ls.below {w W W' : World} {h : Hm} {C : Cf} {l0 : List Int} {H : List Hx} {L : List Int} (d : Ls w h C l0 H L W) (hb : Below W.heap.size W W') : Ls w h C l0 H L W' := by
  obtain ⟨l, d1, d2⟩ := d
  exact ⟨l, d1.below hb, d2⟩
theorem Ls.drew {w W : World} {h : Hm} {C : Cf} {l0 : List Int} {H : List Hx} {L : List Int} (d : Ls w h C l0 H L W) : Ls w h C l0 H L W.drew := d.below (Below.refl _ _).drew
theorem Ls.b {w W : World} {h : Hm} {C : Cf} {l0 : List Int} {H : List Hx} {L : List Int} (d : Ls w h C l0 H L W) : Below w.heap.size w W := by
  obtain ⟨l, d1, d2⟩ := d
  exact d1.b
theorem Ls.k {w W : World} {h : Hm} {C : Cf} {l0 : List Int} {H : List Hx} {L : List Int} (d : Ls w h C l0 H L W) : ∀ k, blkM h k → w.heap.size ≤ k := by
  obtain ⟨l, d1, d2⟩ := d
  exact d1.k
theorem Ls.lt {w W : World} {h : Hm} {C : Cf} {l0 : List Int} {H : List Hx} {L : List Int} (d : Ls w h C l0 H L W) : ∀ k, blkM h k → k < W.heap.size := by
  obtain ⟨l, d1, d2⟩ := d
  exact d1.m.lt
theorem Ls.tb {w W : World} {h : Hm} {C : Cf} {l0 : List Int} {H : List Hx} {L : List Int} (d : Ls w h C l0 H L W) : Tb W := by
  obtain ⟨l, d1, d2⟩ := d
  exact d1.m.1
theorem Ls.insert {w W : World} {h : Hm} {C : Cf} {l0 : List Int} {H : List Hx} {L : List Int} (hC : C.Ok) (d : Ls w h C l0 H L W) (c s : Int) :
    Calls Tryd.prog 19 #[.pointer (some ⟨h.g, 0, none⟩), .int .i64 c, .int .i64 s] W fun e w' => e = .returned (.int .i64 (inE C.s L c s)) ∧ Ls w h C l0 H (inL C.s L c s) w' ∧ Fr W.heap.size (blkM h) W w' := by
  obtain ⟨l, d1, d2⟩ := d
  refine (insert_any h C l0 l H L c s W hC d1.m d2).mono ?_
  rintro e w' ⟨l', hl, hr⟩
  exact ⟨hl.1, ⟨l', d1.lr hl, hr⟩, hl.2.2⟩
theorem Ls.remove {w W : World} {h : Hm} {C : Cf} {l0 : List Int} {H : List Hx} {L : List Int} (hC : C.Ok) (d : Ls w h C l0 H L W) (c s : Int) :
    Calls Tryd.prog 20 #[.pointer (some ⟨h.g, 0, none⟩), .int .i64 c, .int .i64 s] W fun e w' => e = .returned (.int .i64 (rmE C.s L c s)) ∧ Ls w h C l0 H (rmL C.s L c s) w' ∧ Fr W.heap.size (blkM h) W w' := by
  obtain ⟨l, d1, d2⟩ := d
  refine (remove_any h C l0 l H L c s W hC d1.m d2).mono ?_
  rintro e w' ⟨l', hl, hr⟩
  exact ⟨hl.1, ⟨l', d1.lr hl, hr⟩, hl.2.2⟩
def seH (S : Nat) (H : List Hx) (s c v f : Int) : List Hx := if stE S s c v = 0 then H.set s.toNat (c, v, f) else H
theorem Ls.set {w W : World} {h : Hm} {C : Cf} {l0 : List Int} {H : List Hx} {L : List Int} (hC : C.Ok) (d : Ls w h C l0 H L W) (s c v f : Int) (f0 : 0 ≤ f) (f1 : f < 4294967296) :
    Calls Tryd.prog 34 #[.pointer (some ⟨h.g, 0, none⟩), .int .i64 s, .int .i64 c, .int .i64 v, .int .u32 f] W fun e w' => e = .returned (.int .i64 (stE C.s s c v)) ∧ Ls w h C l0 (seH C.s H s c v f) L w' ∧ Fr W.heap.size (blkM h) W w' := by
  obtain ⟨l, d1, d2⟩ := d
  refine (set_any h C l s c v f W hC d1.m f0 f1).mono ?_
  rintro e w' hl
  refine ⟨hl.1, ⟨_, d1.lr hl, ?_⟩, hl.2.2⟩
  unfold stL seH
  by_cases he : stE C.s s c v = 0
  · rw [if_pos he, if_pos he]
    unfold stE at he
    by_cases h0 : 0 ≤ s ∧ s < (C.s : Int)
    · rw [if_pos h0] at he
      by_cases h1 : (isL c && okL v) = true
      · obtain ⟨q1, q2⟩ := (Bool.and_eq_true _ _).mp h1
        simp [isL] at q1
        simp [okL] at q2
        exact d2.set (by omega) (by omega) (by omega) ⟨f0, f1⟩
      · rw [if_neg h1] at he
        omega
    · rw [if_neg h0] at he
      omega
  · rw [if_neg he, if_neg he]
    exact d2
theorem Ls.begin {w W : World} {h : Hm} {C : Cf} {l0 : List Int} {H : List Hx} {L : List Int} (hC : C.Ok) (d : Ls w h C l0 H L W) :
    Calls Tryd.prog 9 #[.pointer (some ⟨h.g, 0, none⟩)] W fun e w' => e = .returned (.int .i64 0) ∧ Ls w h C l0 (List.replicate C.s (0, 0, 0)) (List.replicate C.s 0) w' ∧ Fr W.heap.size (blkM h) W w' := by
  obtain ⟨l, d1, d2⟩ := d
  refine (begin_any h C l0 l W hC d1.m d2.again).mono ?_
  rintro e w' ⟨l', hl, hr⟩
  exact ⟨hl.1, ⟨l', d1.lr hl, hr⟩, hl.2.2⟩
theorem begun2 {w W : World} {h : Hm} {C : Cf} {l : List Int} (hC : C.Ok) (d : Md w h C l W) (hb : B1 C.s l l 0) :
    Calls Tryd.prog 9 #[.pointer (some ⟨h.g, 0, none⟩)] W fun e w' => e = .returned (.int .i64 0) ∧ Ls w h C l (List.replicate C.s (0, 0, 0)) (List.replicate C.s 0) w' ∧ Fr W.heap.size (blkM h) W w' := by
  refine (begin_any h C l l W hC d.m hb).mono ?_
  rintro e w' ⟨l', hl, hr⟩
  exact ⟨hl.1, ⟨l', d.lr hl, hr⟩, hl.2.2⟩
theorem Ls.all {w W : World} {h : Hm} {C : Cf} {l0 : List Int} {H : List Hx} {L : List Int} (hC : C.Ok) (d : Ls w h C l0 H L W) (c : Int) :
    Calls Tryd.prog 16 #[.pointer (some ⟨h.g, 0, none⟩), .int .i64 c] W fun e w' => ∃ u, e = .returned u ∧ Row .i64 w' u (ints (alI L c)) ∧ (∀ b, u.ownBlock = some b → W.heap.size ≤ b) ∧ Ls w h C l0 H L w' ∧ Fr W.heap.size (blkM h) W w' := by
  obtain ⟨l, d1, d2⟩ := d
  refine (all_any h C l L c W hC d1.m d2.chn).mono ?_
  rintro e w' ⟨u, hl, hr, hb⟩
  exact ⟨u, hl.1, hr, hb, ⟨l, d1.lr hl, d2⟩, hl.2.2⟩
/-- The first of a list, or -1. -/
def fiI (L : List Int) (c : Int) : Int := (headN (alI L c) : Int) - 1
theorem Ls.first {w W : World} {h : Hm} {C : Cf} {l0 : List Int} {H : List Hx} {L : List Int} (hC : C.Ok) (d : Ls w h C l0 H L W) (c : Int) :
    Calls Tryd.prog 13 #[.pointer (some ⟨h.g, 0, none⟩), .int .i64 c] W fun e w' => e = .returned (.int .i64 (fiI L c)) ∧ Ls w h C l0 H L w' ∧ Fr W.heap.size (blkM h) W w' := by
  obtain ⟨l, d1, d2⟩ := d
  have e : fsC C.s l c = fiI L c := by
    unfold fiI alI
    cases hi : isL c with
    | true =>
      obtain ⟨k, rfl, hk⟩ := isL_nat hi
      rw [fs_is d2 hk (split_nx (pre := []) (rest := allL L k 0) (s := 0) (by simp) (by simp) (by simp))]
      rfl
    | false =>
      rw [fsC, if_neg (by rw [hi]; decide)]
      rfl
  refine (first_any h C l c W hC d1.m).mono ?_
  rintro e' w' hl
  rw [e] at hl
  exact ⟨hl.1, ⟨l, d1.lr hl, d2⟩, hl.2.2⟩
theorem Ls.faults {w W : World} {h : Hm} {C : Cf} {l0 : List Int} {H : List Hx} {L : List Int} (d : Ls w h C l0 H L W) : Calls Tryd.prog 18 #[.pointer (some ⟨h.g, 0, none⟩)] W fun e w' => e = .returned (.int .i64 C.ft) ∧ Below W.heap.size W w' := by
  obtain ⟨l, d1, d2⟩ := d
  exact d1.faults
/-- Blocks of others are written. -/
theorem Ls.other {w W W' : World} {h : Hm} {C : Cf} {l0 : List Int} {H : List Hx} {L : List Int} {S : Nat → Prop} (d : Ls w h C l0 H L W) (hf : Fr W.heap.size S W W') (hS : ∀ k, S k → w.heap.size ≤ k ∧ ¬ blkM h k ∧ k ≠ 0 ∧ k ≠ 1) : Ls w h C l0 H L W' := by
  obtain ⟨l, d1, d2⟩ := d
  exact ⟨l, ⟨d1.m.stay hf (fun k q => (hS k q).2), d1.b.trans (hf.toBelow d1.b.size (fun k hk q => by have := (hS k q).1; omega)), d1.k⟩, d2⟩
/-- A memory's bytes, as a row of its own: the same for the same heads and lists. -/
theorem Ls.image {w W : World} {h : Hm} {C : Cf} {l0 : List Int} {H : List Hx} {L : List Int} (d : Ls w h C l0 H L W) (X : List Int) (hX : ∀ l, Rep C.s l0 l H L → IsBytes l → l = X) :
    Calls Tryd.prog 21 #[.pointer (some ⟨h.g, 0, none⟩)] W fun e w' => ∃ u, e = .returned u ∧ Below W.heap.size W w' ∧ NewRow W.heap.size w' u X ∧ Ls w h C l0 H L w' := by
  obtain ⟨l, d1, d2⟩ := d
  obtain rfl := hX l d2 d1.m.bytes
  obtain ⟨-, lk, hm⟩ := id d1.m
  refine (Mem.image_any h _ (C.mm l lk) W hm).mono ?_
  rintro e w' ⟨u, rfl, hb, hr⟩
  exact ⟨u, rfl, hb, hr, ⟨l, d1.below hb, d2⟩⟩
theorem Ls.bytes {w W : World} {h : Hm} {C : Cf} {l0 : List Int} {H : List Hx} {L : List Int} (d : Ls w h C l0 H L W) : ∃ X, IsBytes X ∧ ∀ l, Rep C.s l0 l H L → IsBytes l → l = X := by
  obtain ⟨l, d1, d2⟩ := d
  exact ⟨l, d1.m.bytes, fun l' h1 h2 => h1.same d2 h2 d1.m.bytes⟩
end Go.Proofs.YtcakoikcafiolaaDoor.Lis

namespace Go.Proofs.YtcakoikcafiolaaDoor.Lis
open Go.RowKit Num Arn
open Mem (Mm MemC MRet Hm rd blkM)
set_option linter.unusedVariables false

theorem row_text {w : World} {v : Value} {l : List Int} (h : Row .u8 w v l) : (convert 52 9 v).run Tryd.prog w = .ok (.string (strOfNums l)) w := h.string 52 9 5 (by kernel_rfl) (by kernel_rfl) (by kernel_rfl)
theorem ck_zero {S : Nat} {L : List Int} {c s : Int} (hl : L.length = S) (h : inE S L c s = 0) : ∃ k n : Nat, c = k ∧ k < 10 ∧ s = n ∧ n < S ∧ at_ L n < 0 := by
  unfold inE at h
  by_cases h0 : ckB S c s = 0
  · obtain ⟨k, n, rfl, hk, rfl, hn⟩ := ckB_zero h0
    rw [if_pos h0, Int.toNat_natCast] at h
    refine ⟨k, n, rfl, hk, rfl, hn, ?_⟩
    by_cases h1 : 0 ≤ at_ L n
    · rw [if_pos h1] at h; omega
    · omega
  · rw [if_neg h0] at h
    exact absurd h h0
theorem set_back {L : List Int} {n : Nat} (hn : n < L.length) (c : Int) (h : at_ L n = -1) : (L.set n c).set n (-1) = L := by
  rw [List.set_set]
  unfold at_ List.getD at h
  rw [List.getElem?_eq_getElem hn] at h
  simp only [Option.getD_some] at h
  rw [← h, List.set_getElem_self]
theorem rm_back {S : Nat} {L : List Int} {k n : Nat} (hl : L.length = S) (hk : k < 10) (hn : n < S) (h : at_ L n = -1) : rmE S (L.set n k) k n = 0 ∧ rmL S (L.set n k) k n = L := by
  have h1 : ckB S k n = 0 := by
    unfold ckB ckS
    rw [if_pos (by simp [isL]; omega), if_pos (by omega)]
  have h2 : at_ (L.set n k) n = (k : Int) := by rw [at_set (by omega), if_pos rfl]
  have h3 : rmE S (L.set n k) k n = 0 := by rw [rmE, if_pos h1, Int.toNat_natCast, if_pos h2]
  exact ⟨h3, by rw [rmL, if_pos h3, Int.toNat_natCast, set_back (by omega) _ h]⟩
set_option maxRecDepth 100000 in
set_option maxHeartbeats 8000000 in
theorem listsBack_walk (v : Value) (A : List Act) (c s : Int) (w : World) (ht : Tb w) (hr : ActRow w v A) :
    Calls Tryd.prog 5 #[v, .int .i64 c, .int .i64 s] w fun e w' => e = .returned (.bool true) ∧ Below w.heap.size w w' := by
  have HW := Lib.hid (fun V (hv : Tb V) => lines_any V hv)
  have HTb := Lib.hid ht
  obtain ⟨ad, cap, U, rfl, q2, q3, q4, q5⟩ := hr
  have HC := Lib.hid q5
  have HS := Lib.hid q4
  have HN := Lib.hid (begun 16 512 w (by decide) ht)
  clear q4 q5 ht
  by_cases hL : 60 < A.length
  · have hL1 : (60 : Int) < (A.length : Int) := by omega
    go_enter Tryd.func5, Tryd.ntmps5
    go_wp2_with fail
    refine (HW.out _ HTb.out).mono ?_
    rintro e w1 ⟨rfl, hb⟩
    go_wp2
    go_ret
    exact ⟨rfl, hb⟩
  have hL0 : ¬ (60 : Int) < (A.length : Int) := by omega
  have hL0' : decide ((60 : Int) < (A.length : Int)) = false := by rw [decide_eq_false_iff_not]; omega
  go_enter Tryd.func5, Tryd.ntmps5
  go_wp2_with fail
  refine HN.out.mono ?_
  rintro e w1 ⟨C, h, l0, rfl, hC, hCs, hCf, hd1, hB⟩
  have HB := Lib.hid (begun2 hC hd1 (by rw [hCs]; exact hB))
  clear hB hd1 HN hCf
  go_wp2_with fail
  refine HB.out.mono ?_
  rintro e w2 ⟨rfl, hl2, -⟩
  have HL2 := Lib.hid hl2
  clear hl2 HB
  go_wp2
  go_loopw [8] (fun i wr => ∃ (j : Nat) (L : List Int), j ≤ A.length ∧ i = .int .i64 j ∧ Hid (Ls w h C l0 (List.replicate C.s (0, 0, 0)) L wr)) (fun i _ => A.length - (intOf i).toNat)
  case atStart => exact ⟨0, _, Nat.zero_le _, rfl, HL2.out⟩
  case round =>
    obtain ⟨j, L, hj, rfl, HD⟩ := hrel
    by_cases hlt : j < A.length
    · have hlt1 : (j : Int) < (A.length : Int) := by omega
      have hlt0 : (0 : Int) ≤ (j : Int) := by omega
      obtain ⟨b, off, rfl, hlb, hc⟩ := HC.out (by rintro rfl; simp at hlt)
      obtain ⟨hs1, hs2, -⟩ := HS.out j hlt
      have hcw : ∀ i u, (A.getD j Act.zero).cells[i]? = some u → w.cell? ⟨b, off + j * 5 + i, none⟩ = some u := fun i u hi => hc j hlt i u (by rw [hs2]; exact hi)
      obtain ⟨X, hX⟩ : ∃ X, X = A.getD j Act.zero := ⟨_, rfl⟩
      rw [← hX] at hcw
      obtain ⟨yk, yc, ys, yl, yf⟩ := X
      have d0 := hcw 0 _ rfl
      rw [Nat.add_zero] at d0
      have d1 := hcw 1 _ rfl
      have d2 := hcw 2 _ rfl
      simp only [] at d0 d1 d2
      have HCl : Hid (∀ W, Below w.heap.size w W → W.cell? ⟨b, off + j * 5 + 1, none⟩ = some (.int .i64 yc) ∧ W.cell? ⟨b, off + j * 5 + 2, none⟩ = some (.int .i64 ys)) := fun W hb => ⟨(hb.cell (p := ⟨b, off + j * 5 + 1, none⟩) hlb).trans d1, (hb.cell (p := ⟨b, off + j * 5 + 2, none⟩) hlb).trans d2⟩
      have e0 := (HD.out.b.cell (p := ⟨b, off + j * 5, none⟩) hlb).trans d0
      obtain ⟨c1, c2⟩ := HCl.out _ HD.out.b
      clear d0 d1 d2 hcw hX hs1 hs2 hc
      by_cases k3 : yk < 3
      · have HI := Lib.hid (fun V (d : Ls w h C l0 (List.replicate C.s (0, 0, 0)) L V) => d.insert hC yc ys)
        have hd2 := HD.out
        go_wp2_with fail
        go_region_held3 (fun w' => w'.cell? ⟨b, off + j * 5 + 1, none⟩ = some (.int .i64 yc) ∧ w'.cell? ⟨b, off + j * 5 + 2, none⟩ = some (.int .i64 ys)) (first | exact ⟨c1, c2⟩ | go_keep) ((go_at_call 19; refine (HI.out _ (by first | exact hd2 | exact hd2.drew)).mono ?_; rintro e w3 ⟨rfl, hd3, -⟩; replace c1 := (HCl.out _ hd3.b).1; replace c2 := (HCl.out _ hd3.b).2))
        have HD3 := Lib.hid hd3
        clear hd2 hd3 c1 c2 HI
        go_wp2
        go_roundw
        case rel => exact ⟨j + 1, _, by omega, by go_num, HD3.out⟩
        case measure => simp [intOf]; omega
      · have HI := Lib.hid (fun V (d : Ls w h C l0 (List.replicate C.s (0, 0, 0)) L V) => d.remove hC yc ys)
        have hd2 := HD.out
        go_wp2_with fail
        go_region_held3 (fun w' => w'.cell? ⟨b, off + j * 5 + 1, none⟩ = some (.int .i64 yc) ∧ w'.cell? ⟨b, off + j * 5 + 2, none⟩ = some (.int .i64 ys)) (first | exact ⟨c1, c2⟩ | go_keep) ((go_at_call 20; refine (HI.out _ (by first | exact hd2 | exact hd2.drew)).mono ?_; rintro e w3 ⟨rfl, hd3, -⟩; replace c1 := (HCl.out _ hd3.b).1; replace c2 := (HCl.out _ hd3.b).2))
        have HD3 := Lib.hid hd3
        clear hd2 hd3 c1 c2 HI
        go_wp2
        go_roundw
        case rel => exact ⟨j + 1, _, by omega, by go_num, HD3.out⟩
        case measure => simp [intOf]; omega
    · obtain rfl : j = A.length := by omega
      obtain ⟨X, hXb, hX⟩ := HD.out.bytes
      have HX := Lib.hid hX
      have HIm := Lib.hid (fun V (d : Ls w h C l0 (List.replicate C.s (0, 0, 0)) L V) => d.image X hX)
      have HI := Lib.hid (fun V (d : Ls w h C l0 (List.replicate C.s (0, 0, 0)) L V) => d.insert hC c s)
      have HLen : Hid (L.length = C.s) := by
        obtain ⟨l, -, d2⟩ := HD.out
        exact d2.len
      have HCls : Hid (∀ n, -1 ≤ at_ L n) := by
        obtain ⟨l, -, d2⟩ := HD.out
        exact fun n => (d2.cls n).1
      obtain ⟨S, hS⟩ : ∃ S, S = strOfNums X := ⟨_, rfl⟩
      have HSS : Hid (∀ V u, Row .u8 V u X → (convert 52 9 u).run Tryd.prog V = .ok (.string S) V) := fun V u hu => by
        rw [hS]
        exact row_text hu
      have heq : (S.toList == S.toList) = true := by simp
      clear hX hXb hS
      go_wp2_with fail
      refine (HIm.out _ HD.out).mono ?_
      rintro e w3 ⟨u, rfl, hb3, hn3, hd3⟩
      have HFr : Hid (∀ V, Fr w3.heap.size (blkM h) w3 V → Row .u8 V u X) := fun V hf => hn3.1.fr hf (fun hne b hb => by
        obtain ⟨a', c', rfl, -, -, -, q⟩ := hn3.1
        obtain ⟨b', o', rfl, hlt, -⟩ := q hne
        cases hb
        refine ⟨hlt, fun hk => ?_⟩
        have h1 : wr.heap.size ≤ b' := (hn3.2 _ _ _ _ rfl hne).1
        have h2 : b' < wr.heap.size := HD.out.lt _ hk
        omega)
      obtain ⟨ua, uc, rfl, -⟩ := hn3.1
      have HD3 := Lib.hid hd3
      clear hb3 hn3 hd3 HD
      go_wp2_with fail
      refine (HI.out _ HD3.out).mono ?_
      rintro e w4 ⟨rfl, hd4, hf4⟩
      obtain ⟨E, hE⟩ : ∃ E, E = inE C.s L c s := ⟨_, rfl⟩
      rw [← hE]
      have HR4 := Lib.hid (HFr.out _ hf4)
      by_cases h0 : E = 0
      · rw [h0] at hE ⊢
        obtain ⟨k, n, rfl, hk, rfl, hn, hat⟩ := ck_zero HLen.out hE.symm
        have hat1 : at_ L n = -1 := by have := HCls.out n; omega
        have hL1 : inL C.s L k n = L.set n k := by rw [inL, if_pos hE.symm, Int.toNat_natCast]
        rw [hL1] at hd4
        obtain ⟨hr1, hr2⟩ := rm_back HLen.out hk hn hat1
        have HRm := Lib.hid (hd4.remove hC (k : Int) (n : Int))
        rw [hr1, hr2] at HRm
        have HF4 := Lib.hid hf4
        clear hE hat hat1 hL1 hd4 hf4 hr1 hr2
        go_wp2_with fail
        refine HRm.out.mono ?_
        rintro e w5 ⟨rfl, hd5, hf5⟩
        have hr5 := HFr.out _ (HF4.out.trans (hf5.mono HF4.out.size (fun _ _ q => q)))
        clear hf5 HRm HF4 HR4
        go_wp2_with fail
        have hcv := HSS.out _ _ hr5
        have hcvd := HSS.out w5.drew _ (hr5.mono (Below.refl w5.heap.size w5).drew (Nat.le_refl _))
        go_region_with (first | (go_at_call 21; refine (HIm.out _ (by first | exact hd5 | exact hd5.drew)).mono ?_; rintro e w6 ⟨u6, rfl, hb6, hn6, hd6⟩; have hcv6 := HSS.out _ _ hn6.1; have hcw6 := HSS.out _ _ (hr5.mono ((Below.refl w5.heap.size w5).drew.trans hb6) (Nat.le_refl _)); obtain ⟨u6a, u6c, rfl, -⟩ := hn6.1) | (go_at_call 6; refine (HW.out _ hd6.tb).mono ?_; rintro e w7 ⟨rfl, hb7⟩))
        all_goals
          have HBe := Lib.hid (hd6.b.trans (hb7.mono hd6.b.size))
          clear hd6 hb7 hr5
          go_wp2
          go_ret
          exact ⟨rfl, HBe.out⟩
      · have hq : (E != 0) = true := by rw [bne_iff_ne]; exact h0
        have hL1 : inL C.s L c s = L := by rw [inL, if_neg (by rw [← hE]; exact h0)]
        rw [hL1] at hd4
        have hr4 := HR4.out
        have hcv := HSS.out _ _ hr4
        have hcvd := HSS.out w4.drew _ (hr4.mono (Below.refl w4.heap.size w4).drew (Nat.le_refl _))
        clear hE h0 hL1 hf4 HR4
        go_wp2_with fail
        go_region_with (first | (go_at_call 21; refine (HIm.out _ (by first | exact hd4 | exact hd4.drew)).mono ?_; rintro e w5 ⟨u5, rfl, hb5, hn5, hd5⟩; have hcv5 := HSS.out _ _ hn5.1; have hcw5 := HSS.out _ _ (hr4.mono ((Below.refl w4.heap.size w4).drew.trans hb5) (Nat.le_refl _)); obtain ⟨u5a, u5c, rfl, -⟩ := hn5.1) | (go_at_call 6; refine (HW.out _ hd5.tb).mono ?_; rintro e w6 ⟨rfl, hb6⟩))
        all_goals
          have HBe := Lib.hid (hd5.b.trans (hb6.mono hd5.b.size))
          clear hd5 hb6 hr4
          go_wp2
          go_ret
          exact ⟨rfl, HBe.out⟩
end Go.Proofs.YtcakoikcafiolaaDoor.Lis

namespace Go.Proofs.YtcakoikcafiolaaDoor.Lis
open Go.RowKit Num Arn
open Mem (Mm MemC MRet Hm rd blkM)
set_option linter.unusedVariables false

/-- A row of sixteen numbers. -/
def sv (F : Nat → Int) : Array Value := ((List.range 16).map fun y => Value.int .i64 (F y)).toArray
theorem sv_get (F : Nat → Int) (y : Nat) (hy : y < 16) : (sv F)[y]? = some (.int .i64 (F y)) := by simp [sv, hy]
theorem sv_set (F : Nat → Int) (y : Nat) (v : Int) : (sv F).setIfInBounds y (.int .i64 v) = sv (fun z => if z = y then v else F z) := by
  apply Array.ext_getElem?
  intro i
  rw [Array.getElem?_setIfInBounds]
  by_cases h : y = i
  · subst h
    by_cases h2 : y < 16
    · simp [sv, h2]
    · simp [sv, h2]
  · have h' : ¬ i = y := fun e => h e.symm
    by_cases h2 : i < 16
    · simp [sv, h, h', h2]
    · simp [sv, h, h2]
/-- How often each slab was seen: in the lists below c, and in the first i of list c. -/
def seenF (L : List Int) (c : Int) (i : Nat) (y : Nat) : Int := (if 0 ≤ at_ L y ∧ at_ L y < c then 1 else 0) + (if y ∈ (allL L c 0).take i then 1 else 0)
theorem seen_zero (L : List Int) (y : Nat) : seenF L 0 0 y = 0 := by
  unfold seenF
  rw [if_neg (by omega)]
  simp
theorem seen_next (L : List Int) (c : Nat) (y : Nat) : seenF L (c : Int) (allL L c 0).length y = seenF L ((c + 1 : Nat) : Int) 0 y := by
  unfold seenF
  rw [List.take_length]
  simp only [List.take_zero, List.not_mem_nil, if_false, mem_all]
  repeat' split
  all_goals omega
theorem seen_step {L : List Int} {c : Int} {i : Nat} (hi : i < (allL L c 0).length) (y : Nat) : seenF L c (i + 1) y = if y = (allL L c 0).getD i 0 then seenF L c i ((allL L c 0).getD i 0) + 1 else seenF L c i y := by
  have hs := all_sorted L c
  have ht := take_getD_snoc (allL L c 0) i hi
  have hnd : (allL L c 0).getD i 0 ∉ (allL L c 0).take i := by
    intro hm
    obtain ⟨k, hk, e⟩ := List.getElem_of_mem hm
    rw [List.getElem_take] at e
    have hk2 : k < i := by rw [List.length_take] at hk; omega
    have h1 := List.pairwise_iff_getElem.1 hs k i (by omega) hi hk2
    have h2 : (allL L c 0).getD i 0 = (allL L c 0)[i] := by simp [List.getD, hi]
    omega
  unfold seenF
  rw [ht]
  by_cases e : y = (allL L c 0).getD i 0
  · rw [if_pos e, e, if_neg hnd, if_pos (show (allL L c 0).getD i 0 ∈ (allL L c 0).take i ++ [(allL L c 0).getD i 0] from List.mem_append_right _ (List.mem_singleton.2 rfl))]
    omega
  · rw [if_neg e]
    have h1 : (y ∈ (allL L c 0).take i ++ [(allL L c 0).getD i 0]) ↔ y ∈ (allL L c 0).take i := by
      rw [List.mem_append, List.mem_singleton]
      exact ⟨fun h => h.resolve_right e, .inl⟩
    simp only [h1]
theorem seen_le (L : List Int) (c : Int) (y : Nat) : seenF L c 0 y ≤ 1 := by
  unfold seenF
  simp only [List.take_zero, List.not_mem_nil, if_false]
  split <;> omega
theorem seen_bd (L : List Int) (c : Int) (i y : Nat) : 0 ≤ seenF L c i y ∧ seenF L c i y ≤ 2 := by
  unfold seenF
  repeat' split
  all_goals omega
theorem all_asc {L : List Int} {c : Int} {i : Nat} (hi : i + 1 < (allL L c 0).length) : (allL L c 0).getD i 0 < (allL L c 0).getD (i + 1) 0 := by
  have h1 := List.pairwise_iff_getElem.1 (all_sorted L c) i (i + 1) (by omega) hi (by omega)
  simpa [List.getD, hi, show i < (allL L c 0).length by omega] using h1

set_option maxRecDepth 100000 in
set_option maxHeartbeats 8000000 in
theorem listsSorted_walk (v : Value) (A : List Act) (w : World) (ht : Tb w) (hr : ActRow w v A) :
    Calls Tryd.prog 4 #[v] w fun e w' => e = .returned (.bool true) ∧ Below w.heap.size w w' := by
  have HW := Lib.hid (fun V (hv : Tb V) => lines_any V hv)
  have HTb := Lib.hid ht
  obtain ⟨ad, cap, U, rfl, q2, q3, q4, q5⟩ := hr
  have HC := Lib.hid q5
  have HS := Lib.hid q4
  have HN := Lib.hid (begun 16 512 w (by decide) ht)
  clear q4 q5 ht
  by_cases hL : 60 < A.length
  · have hL1 : (60 : Int) < (A.length : Int) := by omega
    go_enter Tryd.func4, Tryd.ntmps4
    go_wp2_with fail
    refine (HW.out _ HTb.out).mono ?_
    rintro e w1 ⟨rfl, hb⟩
    go_wp2
    go_ret
    exact ⟨rfl, hb⟩
  have hL0 : ¬ (60 : Int) < (A.length : Int) := by omega
  have hL0' : decide ((60 : Int) < (A.length : Int)) = false := by rw [decide_eq_false_iff_not]; omega
  go_enter Tryd.func4, Tryd.ntmps4
  go_wp2_with fail
  refine HN.out.mono ?_
  rintro e w1 ⟨C, h, l0, rfl, hC, hCs, hCf, hd1, hB⟩
  have HB := Lib.hid (begun2 hC hd1 (by rw [hCs]; exact hB))
  clear hB hd1 HN hCf
  go_wp2_with fail
  refine HB.out.mono ?_
  rintro e w2 ⟨rfl, hl2, -⟩
  have HL2 := Lib.hid hl2
  clear hl2 HB
  go_wp2
  go_loopw [4] (fun i wr => ∃ (j : Nat) (L : List Int), j ≤ A.length ∧ i = .int .i64 j ∧ Hid (Ls w h C l0 (List.replicate C.s (0, 0, 0)) L wr)) (fun i _ => A.length - (intOf i).toNat)
  case atStart => exact ⟨0, _, Nat.zero_le _, rfl, HL2.out⟩
  case round =>
    obtain ⟨j, L, hj, rfl, HD⟩ := hrel
    by_cases hlt : j < A.length
    · have hlt1 : (j : Int) < (A.length : Int) := by omega
      have hlt0 : (0 : Int) ≤ (j : Int) := by omega
      obtain ⟨b, off, rfl, hlb, hc⟩ := HC.out (by rintro rfl; simp at hlt)
      obtain ⟨hs1, hs2, -⟩ := HS.out j hlt
      have hcw : ∀ i u, (A.getD j Act.zero).cells[i]? = some u → w.cell? ⟨b, off + j * 5 + i, none⟩ = some u := fun i u hi => hc j hlt i u (by rw [hs2]; exact hi)
      obtain ⟨X, hX⟩ : ∃ X, X = A.getD j Act.zero := ⟨_, rfl⟩
      rw [← hX] at hcw
      obtain ⟨yk, yc, ys, yl, yf⟩ := X
      have d0 := hcw 0 _ rfl
      rw [Nat.add_zero] at d0
      have d1 := hcw 1 _ rfl
      have d2 := hcw 2 _ rfl
      simp only [] at d0 d1 d2
      have HCl : Hid (∀ W, Below w.heap.size w W → W.cell? ⟨b, off + j * 5 + 1, none⟩ = some (.int .i64 yc) ∧ W.cell? ⟨b, off + j * 5 + 2, none⟩ = some (.int .i64 ys)) := fun W hb => ⟨(hb.cell (p := ⟨b, off + j * 5 + 1, none⟩) hlb).trans d1, (hb.cell (p := ⟨b, off + j * 5 + 2, none⟩) hlb).trans d2⟩
      have e0 := (HD.out.b.cell (p := ⟨b, off + j * 5, none⟩) hlb).trans d0
      obtain ⟨c1, c2⟩ := HCl.out _ HD.out.b
      clear d0 d1 d2 hcw hX hs1 hs2 hc
      by_cases k3 : yk < 3
      · have HI := Lib.hid (fun V (d : Ls w h C l0 (List.replicate C.s (0, 0, 0)) L V) => d.insert hC yc ys)
        have hd2 := HD.out
        go_wp2_with fail
        go_region_held3 (fun w' => w'.cell? ⟨b, off + j * 5 + 1, none⟩ = some (.int .i64 yc) ∧ w'.cell? ⟨b, off + j * 5 + 2, none⟩ = some (.int .i64 ys)) (first | exact ⟨c1, c2⟩ | go_keep) ((go_at_call 19; refine (HI.out _ (by first | exact hd2 | exact hd2.drew)).mono ?_; rintro e w3 ⟨rfl, hd3, -⟩; replace c1 := (HCl.out _ hd3.b).1; replace c2 := (HCl.out _ hd3.b).2))
        have HD3 := Lib.hid hd3
        clear hd2 hd3 c1 c2 HI
        go_wp2
        go_roundw
        case rel => exact ⟨j + 1, _, by omega, by go_num, HD3.out⟩
        case measure => simp [intOf]; omega
      · have HI := Lib.hid (fun V (d : Ls w h C l0 (List.replicate C.s (0, 0, 0)) L V) => d.remove hC yc ys)
        have hd2 := HD.out
        go_wp2_with fail
        go_region_held3 (fun w' => w'.cell? ⟨b, off + j * 5 + 1, none⟩ = some (.int .i64 yc) ∧ w'.cell? ⟨b, off + j * 5 + 2, none⟩ = some (.int .i64 ys)) (first | exact ⟨c1, c2⟩ | go_keep) ((go_at_call 20; refine (HI.out _ (by first | exact hd2 | exact hd2.drew)).mono ?_; rintro e w3 ⟨rfl, hd3, -⟩; replace c1 := (HCl.out _ hd3.b).1; replace c2 := (HCl.out _ hd3.b).2))
        have HD3 := Lib.hid hd3
        clear hd2 hd3 c1 c2 HI
        go_wp2
        go_roundw
        case rel => exact ⟨j + 1, _, by omega, by go_num, HD3.out⟩
        case measure => simp [intOf]; omega
    · obtain rfl : j = A.length := by omega
      obtain ⟨i0, hi, hz0, hz1, hz2⟩ := info_parts infoInt
      have HLen : Hid (L.length = 16) := by
        obtain ⟨l, -, d2⟩ := HD.out
        exact d2.len.trans hCs
      go_wp2_with (first | (refine wpList_make_row rfl _ _ 45 rfl 3 i0 (.int .i64 0) 8 Tryd.underlying45 hi hz0 hz1 hz2 .i64 .i64 16 rfl rfl (by decide) (by decide) ?_))
      have hmk : madeCells #[Value.int .i64 0] 16 = sv (seenF L ((0 : Nat) : Int) 0) := by
        have e : seenF L ((0 : Nat) : Int) 0 = fun _ => 0 := funext (seen_zero L)
        rw [e]
        rw [madeCells_one]
        simp [sv, List.range, List.range.loop, List.replicate]
      rw [hmk]
      have hblk := heap_alloc_new wr (.cells (sv (seenF L ((0 : Nat) : Int) 0)) 3)
      have hal := below_made wr (.cells (sv (seenF L ((0 : Nat) : Int) 0)) 3)
      have hd5 := HD.out.below hal
      have hsz5 : (wr.alloc (.cells (sv (seenF L ((0 : Nat) : Int) 0)) 3)).heap.size = wr.heap.size + 1 := by simp
      have HSb : Hid (w.heap.size ≤ wr.heap.size ∧ ¬ blkM h wr.heap.size ∧ wr.heap.size ≠ 0 ∧ wr.heap.size ≠ 1) := by
        obtain ⟨l, d1, -⟩ := HD.out
        have t := d1.m.tabs
        refine ⟨d1.b.size, fun q => ?_, by omega, by omega⟩
        have : wr.heap.size < wr.heap.size := d1.m.lt _ q
        omega
      generalize wr.alloc (.cells (sv (seenF L ((0 : Nat) : Int) 0)) 3) = W5 at hblk hal hd5 hsz5 ⊢
      have HD5 := Lib.hid hd5
      have HBk := Lib.hid hblk
      generalize wr.heap.size = Sb at hsz5 HSb HBk hblk ⊢
      have hSb5 : Sb < W5.heap.size := by omega
      clear hmk hblk hal hd5 hi hz0 hz1 hz2 HD
      go_loopw [6] (fun i wq => ∃ c : Nat, c ≤ 10 ∧ i = .int .i64 c ∧ Hid (Ls w h C l0 (List.replicate C.s (0, 0, 0)) L wq) ∧ Hid (wq.heap[Sb]? = some (.cells (sv (seenF L (c : Int) 0)) 3 (0, 0)))) (fun i _ => 10 - (intOf i).toNat)
      case atStart => exact ⟨0, by omega, rfl, HD5.out, HBk.out⟩
      case round =>
        obtain ⟨c, hc10, rfl, HLs, HSv⟩ := hrel
        by_cases hlt : c < 10
        · have hlt1 : (c : Int) < 10 := by omega
          have hlt0 : (0 : Int) ≤ (c : Int) := by omega
          have hAl := HLs.out.all hC (c : Int)
          have hal0 : alI L (c : Int) = allL L (c : Int) 0 := by rw [alI, if_pos (by simp [isL]; omega)]
          rw [hal0] at hAl
          have HAl := Lib.hid hAl
          clear hAl
          go_wp2_with fail
          refine HAl.out.mono ?_
          rintro e w3 ⟨u, rfl, hrow, hown, hd3, hf3⟩
          have hSlt : Sb < wr.heap.size := (Array.getElem?_eq_some_iff.1 HSv.out).1
          have hsv3 := (hf3.block Sb hSlt HSb.out.2.1).trans HSv.out
          have hk3 : ∀ k, blkM h k → k < wr.heap.size := HLs.out.lt
          have HRow : Hid (∀ V, Fr w3.heap.size (fun k => blkM h k ∨ k = Sb) w3 V → Row .i64 V u (ints (allL L (c : Int) 0))) := fun V hf => hrow.fr hf (fun hne b hb => by
            have h1 := hown b hb
            obtain ⟨a', c', rfl, -, -, -, q⟩ := hrow
            obtain ⟨b', o', rfl, hlt', -⟩ := q hne
            cases hb
            refine ⟨hlt', ?_⟩
            rintro (q | q)
            · have := hk3 _ q
              omega
            · omega)
          have HNb : Hid (∀ b, u.ownBlock = some b → ¬ blkM h b) := fun b e q => by
            have h1 := hown b e
            have h2 := hk3 _ q
            omega
          have HD3 := Lib.hid hd3
          have HS3 := Lib.hid hsv3
          have hx15 : ∀ i, i < (allL L (c : Int) 0).length → (allL L (c : Int) 0).getD i 0 < 16 := fun i hi => by
            have h1 : (allL L (c : Int) 0).getD i 0 ∈ allL L (c : Int) 0 := by
              have e : (allL L (c : Int) 0).getD i 0 = (allL L (c : Int) 0)[i] := by simp [List.getD, hi]
              rw [e]
              exact List.getElem_mem hi
            have h2 := all_lt h1
            have h3 := HLen.out
            omega
          have HX15 := Lib.hid hx15
          have HAsc := Lib.hid (fun i (hi : i + 1 < (allL L (c : Int) 0).length) => all_asc hi)
          have HStep := Lib.hid (fun i (hi : i < (allL L (c : Int) 0).length) => seen_step hi)
          have HNext := Lib.hid (fun y => seen_next L c y)
          have HBd := Lib.hid (fun i y => seen_bd L (c : Int) i y)
          obtain ⟨ua, uc, rfl, r2, r3, -, -⟩ := id hrow
          rw [ints_length] at r2 HRow ⊢
          obtain ⟨B, hBq⟩ : ∃ B, B = allL L (c : Int) 0 := ⟨_, rfl⟩
          rw [← hBq] at r2 HRow HX15 HAsc HStep HNext ⊢
          have HFi : Hid (fiI L (c : Int) = (headN B : Int) - 1) := by rw [Hid, fiI, hal0, hBq]
          clear hrow hown hd3 hf3 hsv3 hk3 hx15 HAl hal0 hBq
          go_wp2_with fail
          go_loopw [8] (fun i wq => ∃ k : Nat, k ≤ B.length ∧ i = .int .i64 k ∧ Hid (Ls w h C l0 (List.replicate C.s (0, 0, 0)) L wq) ∧ Hid (Fr w3.heap.size (fun k => blkM h k ∨ k = Sb) w3 wq) ∧ Hid (wq.heap[Sb]? = some (.cells (sv (seenF L (c : Int) k)) 3 (0, 0)))) (fun i _ => B.length - (intOf i).toNat)
          case atStart => exact ⟨0, Nat.zero_le _, rfl, HD3.out, Fr.refl _ _ _, HS3.out⟩
          case round =>
            obtain ⟨k, hk, rfl, HL4, HF4, HS4⟩ := hrel
            by_cases hlt : k < B.length
            · have hlt2 : (k : Int) < (B.length : Int) := by omega
              have hlt3 : (0 : Int) ≤ (k : Int) := by omega
              have hrw := HRow.out _ HF4.out
              obtain ⟨ua', uc', e', -, -, -, r5⟩ := hrw
              injection e' with e1 e2 e3
              subst e1 e3
              clear e2
              obtain ⟨b, o, rfl, hbl, hcell⟩ := r5 (by intro q; have h1 := congrArg List.length q; rw [ints_length, List.length_nil] at h1; omega)
              have hc1 := hcell k (by rw [ints_length]; exact hlt)
              rw [ints_get] at hc1
              have hx := HX15.out k hlt
              obtain ⟨x, hxq⟩ : ∃ x, x = B.getD k 0 := ⟨_, rfl⟩
              rw [← hxq] at hc1 hx
              have hg1 : decide ((x : Int) < 0) = false := by rw [decide_eq_false_iff_not]; omega
              have hg2 : decide ((15 : Int) < (x : Int)) = false := by rw [decide_eq_false_iff_not]; omega
              have HXq := Lib.hid hxq
              have HCk := Lib.hid hc1
              have HQ : Hid (∀ nq, ∀ b' o' u', wr.cell? ⟨b', o', none⟩ = some u' → (wr.drewN nq).cell? ⟨b', o', none⟩ = some u') := fun nq b' o' u' hq => ((below_drewN (Below.refl wr.heap.size wr) nq).cell (p := ⟨b', o', none⟩) (cell_lt hq)).trans hq
              have HLt := Lib.hid (cell_lt hc1)
              have hfin : ∀ V, Below wr.heap.size wr V → V.cell? ⟨b, o + k, none⟩ = some (.int .i64 (x : Int)) ∧ V.cell? ⟨Sb, x, none⟩ = some (.int .i64 (seenF L (c : Int) k x)) ∧ V.frozen? ⟨Sb, x, none⟩ = false ∧ Ls w h C l0 (List.replicate C.s (0, 0, 0)) L (V.setCell ⟨Sb, x, none⟩ (.int .i64 (seenF L (c : Int) k x + 1))) ∧ Fr w3.heap.size (fun k => blkM h k ∨ k = Sb) w3 (V.setCell ⟨Sb, x, none⟩ (.int .i64 (seenF L (c : Int) k x + 1))) ∧ (V.setCell ⟨Sb, x, none⟩ (.int .i64 (seenF L (c : Int) k x + 1))).heap[Sb]? = some (.cells (sv (seenF L (c : Int) (k + 1))) 3 (0, 0)) := fun V hb => by
                have hblk := (hb.block Sb (Array.getElem?_eq_some_iff.1 HS4.out).1).trans HS4.out
                refine ⟨(hb.cell (p := ⟨b, o + k, none⟩) HLt.out).trans HCk.out, (cell_block hblk x).trans (sv_get _ x hx), Wat.frozen_block hblk x, (HL4.out.below hb).other ((Fr.refl V.heap.size (fun j => j = Sb) V).setCell (p := ⟨Sb, x, none⟩) (.inr rfl) _) (fun j e => by rw [e]; exact HSb.out), (HF4.out.trans ((Fr.of_below hb).mono HF4.out.size (fun _ _ q => q))).setCell (p := ⟨Sb, x, none⟩) (.inr (.inr rfl)) _, ?_⟩
                refine (heap_setCell_own hblk _).trans ?_
                rw [sv_set]
                congr 2
                have e : seenF L (c : Int) (k + 1) = fun z => if z = x then seenF L (c : Int) k x + 1 else seenF L (c : Int) k z := funext fun z => by
                  have := HStep.out k hlt z
                  rw [← HXq.out] at this
                  exact this
                rw [e]
              have HFin := Lib.hid hfin
              have hbd := HBd.out k x
              obtain ⟨f, hf⟩ : ∃ f, f = seenF L (c : Int) k x := ⟨_, rfl⟩
              rw [← hf] at hbd HFin
              obtain ⟨f1, hf1⟩ : ∃ f1, f1 = f + 1 := ⟨_, rfl⟩
              rw [← hf1] at HFin
              have hw1 : IntKind.i64.wrap (f + 1) = f1 := (wrap_id (by omega) (by omega)).trans hf1.symm
              have hx0 : (0 : Int) ≤ (x : Int) := by omega
              have hx16 : (x : Int) < 16 := by omega
              have hS0 := HS4.out
              have HCl2 : Hid (∀ i, i < B.length → wr.cell? ⟨b, o + i, none⟩ = some (.int .i64 ((B.getD i 0 : Nat) : Int))) := fun i hi => by
                have := hcell i (by rw [ints_length]; exact hi)
                rw [ints_get] at this
                exact this
              clear hfin hf hf1 hbd hcell hxq
              by_cases hk0 : k = 0
              · have hg3 : decide ((0 : Int) < (k : Int)) = false := by rw [decide_eq_false_iff_not]; omega
                have hg3' : decide (0 < k) = false := by rw [decide_eq_false_iff_not]; omega
                clear hk0
                go_wp2_with fail
                go_quiet (fail)
                go_wp2_with fail
                obtain ⟨m1, m2, m3, -, -, -⟩ := HFin.out (wr.drewN nq) (below_drewN (Below.refl _ _) nq)
                have HV : Hid (Below wr.heap.size wr (wr.drewN nq)) := below_drewN (Below.refl _ _) nq
                generalize wr.drewN nq = V at m1 m2 m3 HV ⊢
                go_region
                obtain ⟨-, -, -, m4, m5, m6⟩ := HFin.out V HV.out
                have M4 := Lib.hid m4.drew
                have M5 := Lib.hid m5.drew
                have M6 : Hid ((V.setCell ⟨Sb, x, none⟩ (.int .i64 f1)).drew.heap[Sb]? = some (.cells (sv (seenF L (c : Int) (k + 1))) 3 (0, 0))) := m6
                clear m1 m2 m3 m4 m5 m6 hc1 hS0
                go_wp2
                go_roundw
                case rel => exact ⟨k + 1, by omega, by go_num, M4.out, M5.out, M6.out⟩
                case measure => simp [intOf]; omega
              · obtain ⟨k1, hk1⟩ : ∃ k1, k1 = k - 1 := ⟨_, rfl⟩
                have hg3 : decide ((0 : Int) < (k : Int)) = true := by rw [decide_eq_true_iff]; omega
                have hg3' : decide (0 < k) = true := by rw [decide_eq_true_iff]; omega
                have hg5 : (0 : Int) < (k : Int) := by omega
                have hc2 := HCl2.out k1 (by omega)
                have hasc := HAsc.out k1 (by omega)
                rw [show k1 + 1 = k by omega, ← HXq.out] at hasc
                obtain ⟨xp, hxp⟩ : ∃ xp, xp = B.getD k1 0 := ⟨_, rfl⟩
                rw [← hxp] at hc2 hasc
                have hg4 : decide ((x : Int) ≤ (xp : Int)) = false := by rw [decide_eq_false_iff_not]; omega
                have hg6 : (xp : Int) < (x : Int) := by omega
                have hwk : IntKind.i64.wrap ((k : Int) - 1) = (k1 : Int) := (wrap_id (by omega) (by omega)).trans (by omega)
                have hk11 : (k1 : Int) < (B.length : Int) := by omega
                have hk10 : (0 : Int) ≤ (k1 : Int) := by omega
                have hk12 : k1 < B.length := by omega
                clear hk0 hk1 hasc hxp
                go_wp2_with fail
                go_quiet (fail)
                go_wp2_with fail
                obtain ⟨m1, m2, m3, -, -, -⟩ := HFin.out (wr.drewN nq) (below_drewN (Below.refl _ _) nq)
                have HV : Hid (Below wr.heap.size wr (wr.drewN nq)) := below_drewN (Below.refl _ _) nq
                generalize wr.drewN nq = V at m1 m2 m3 HV ⊢
                go_region
                obtain ⟨-, -, -, m4, m5, m6⟩ := HFin.out V HV.out
                have M4 := Lib.hid m4.drew
                have M5 := Lib.hid m5.drew
                have M6 : Hid ((V.setCell ⟨Sb, x, none⟩ (.int .i64 f1)).drew.heap[Sb]? = some (.cells (sv (seenF L (c : Int) (k + 1))) 3 (0, 0))) := m6
                clear m1 m2 m3 m4 m5 m6 hc1 hS0
                go_wp2
                go_roundw
                case rel => exact ⟨k + 1, by omega, by go_num, M4.out, M5.out, M6.out⟩
                case measure => simp [intOf]; omega
            · obtain rfl : k = B.length := by omega
              have hnx : seenF L (c : Int) B.length = seenF L ((c + 1 : Nat) : Int) 0 := funext HNext.out
              have hs4 := HS4.out
              rw [hnx] at hs4
              have HSx : Hid (∀ V, Fr wr.heap.size (blkM h) wr V → V.heap[Sb]? = some (.cells (sv (seenF L ((c + 1 : Nat) : Int) 0)) 3 (0, 0))) := fun V hf => (hf.block Sb (Array.getElem?_eq_some_iff.1 hs4).1 HSb.out.2.1).trans hs4
              have hrw := HRow.out _ HF4.out
              have HFst := Lib.hid (fun V (d : Ls w h C l0 (List.replicate C.s (0, 0, 0)) L V) => d.first hC (c : Int))
              have hd := HL4.out
              clear hnx hs4
              by_cases hn : B.length = 0
              · have hB0 : B = [] := List.eq_nil_of_length_eq_zero hn
                subst hB0
                have hfi := HFi.out
                rw [show fiI L (c : Int) = -1 from hfi] at HFst
                have HFst2 : Hid (∀ kk : KM (fun V => Ls w h C l0 (List.replicate C.s (0, 0, 0)) L V ∧ Fr wr.heap.size (blkM h) wr V), Calls Tryd.prog 13 #[.pointer (some ⟨h.g, 0, none⟩), .int .i64 (c : Int)] kk.w fun e w' => e = .returned (.int .i64 (-1)) ∧ (Ls w h C l0 (List.replicate C.s (0, 0, 0)) L w' ∧ Fr wr.heap.size (blkM h) wr w')) := fun kk => (HFst.out _ kk.ok.1).mono fun e w' q => ⟨q.1, q.2.1, kk.ok.2.trans (q.2.2.mono kk.ok.2.size (fun _ _ z => z))⟩
                clear hfi hn hrw
                go_wp2_with fail
                refine wp_region_km (Φ := fun V => Ls w h C l0 (List.replicate C.s (0, 0, 0)) L V ∧ Fr wr.heap.size (blkM h) wr V) (by kernel_rfl) (by kernel_rfl) ⟨hd.drew, (Fr.refl _ _ _).drew⟩ ?_
                intro hne
                repeat (first | (go_big_quiet_step ((go_at_call 13; exact Calls.km_of (HFst2.out _)))) | (quiet_step (first | rfl | (go_at_call 13; exact Calls.km_of (HFst2.out _)))))
                refine wpQuiet_nil ?_
                intro _ hw'
                obtain ⟨kk, rfl⟩ := hw'
                have HD5' := Lib.hid kk.ok.1
                have HS5' := Lib.hid (HSx.out _ kk.ok.2)
                clear hd HL4 HF4 HS4
                go_wp2
                go_roundw
                case rel => exact ⟨c + 1, by omega, by go_num, HD5'.out, HS5'.out⟩
                case measure => simp [intOf]; omega
              · obtain ⟨ua', uc', e', -, -, -, r5⟩ := hrw
                injection e' with e1 e2 e3
                subst e1 e3
                clear e2
                obtain ⟨b, o, rfl, hbl, hcell⟩ := r5 (by intro q; have h1 := congrArg List.length q; rw [ints_length, List.length_nil] at h1; omega)
                have hc0 := hcell 0 (by rw [ints_length]; omega)
                rw [ints_get, Nat.add_zero] at hc0
                have hx := HX15.out 0 (by omega)
                have hfi := HFi.out
                obtain ⟨x0, hx0⟩ : ∃ x0, x0 = B.getD 0 0 := ⟨_, rfl⟩
                have hfi2 : fiI L (c : Int) = (x0 : Int) := by
                  rw [hfi, hx0]
                  cases B with
                  | nil => exact absurd rfl hn
                  | cons y r => simp only [headN, List.getD_cons_zero]; omega
                rw [hfi2] at HFst
                rw [← hx0] at hc0
                have hq1 : ((B.length : Int) == 0) = false := by rw [beq_eq_false_iff_ne]; omega
                have hq2 : decide ((0 : Int) < (B.length : Int)) = true := by rw [decide_eq_true_iff]; omega
                have hq3 : (0 : Int) < (B.length : Int) := by omega
                have hq4 : 0 < B.length := by omega
                have hq6 : decide (0 < B.length) = true := by rw [decide_eq_true_iff]; omega
                have hq5 : ((x0 : Int) != (x0 : Int)) = false := by simp
                have hbn : ¬ blkM h b := HNb.out b rfl
                have k0 : ∀ kk : KM (fun V => Ls w h C l0 (List.replicate C.s (0, 0, 0)) L V ∧ Fr wr.heap.size (blkM h) wr V), kk.w.cell? ⟨b, o, none⟩ = some (.int .i64 (x0 : Int)) := fun kk => kk.ok.2.cell hc0 hbl hbn
                have HFst2 : Hid (∀ kk : KM (fun V => Ls w h C l0 (List.replicate C.s (0, 0, 0)) L V ∧ Fr wr.heap.size (blkM h) wr V), Calls Tryd.prog 13 #[.pointer (some ⟨h.g, 0, none⟩), .int .i64 (c : Int)] kk.w fun e w' => e = .returned (.int .i64 (x0 : Int)) ∧ (Ls w h C l0 (List.replicate C.s (0, 0, 0)) L w' ∧ Fr wr.heap.size (blkM h) wr w')) := fun kk => (HFst.out _ kk.ok.1).mono fun e w' q => ⟨q.1, q.2.1, kk.ok.2.trans (q.2.2.mono kk.ok.2.size (fun _ _ z => z))⟩
                clear hfi hfi2 hx0 hx hn hcell
                go_wp2_with fail
                refine wp_region_km (Φ := fun V => Ls w h C l0 (List.replicate C.s (0, 0, 0)) L V ∧ Fr wr.heap.size (blkM h) wr V) (by kernel_rfl) (by kernel_rfl) ⟨hd.drew, (Fr.refl _ _ _).drew⟩ ?_
                intro hne
                repeat (first | (go_big_quiet_step ((go_at_call 13; exact Calls.km_of (HFst2.out _)))) | (quiet_step (first | rfl | (go_at_call 13; exact Calls.km_of (HFst2.out _)))))
                refine wpQuiet_nil ?_
                intro _ hw'
                obtain ⟨kk, rfl⟩ := hw'
                have HD5' := Lib.hid kk.ok.1
                have HS5' := Lib.hid (HSx.out _ kk.ok.2)
                clear hd HL4 HF4 HS4
                go_wp2
                go_roundw
                case rel => exact ⟨c + 1, by omega, by go_num, HD5'.out, HS5'.out⟩
                case measure => simp [intOf]; omega
        · obtain rfl : c = 10 := by omega
          go_wp2
          go_loopw [9] (fun i wq => ∃ k : Nat, k ≤ 16 ∧ i = .int .i64 k ∧ wq = wr) (fun i _ => 16 - (intOf i).toNat)
          case atStart => exact ⟨0, by omega, rfl, rfl⟩
          case round =>
            obtain ⟨k, hk, rfl, rfl⟩ := hrel
            by_cases hk16 : k < 16
            · have hlt1 : (k : Int) < 16 := by omega
              have hlt0 : (0 : Int) ≤ (k : Int) := by omega
              have hc1 := (cell_block HSv.out k).trans (sv_get _ k hk16)
              have hle := seen_le L ((10 : Nat) : Int) k
              obtain ⟨f, hf⟩ : ∃ f, f = seenF L ((10 : Nat) : Int) 0 k := ⟨_, rfl⟩
              rw [← hf] at hc1 hle
              have hg1 : ¬ (1 : Int) < f := by omega
              clear hf hle
              go_wp2
              go_roundw
              case rel => exact ⟨k + 1, by omega, by go_num, trivial⟩
              case measure => simp [intOf]; omega
            · obtain rfl : k = 16 := by omega
              go_wp2_with fail
              refine (HW.out _ HLs.out.tb).mono ?_
              rintro e w6 ⟨rfl, hb6⟩
              have HBe := Lib.hid (HLs.out.b.trans (hb6.mono HLs.out.b.size))
              clear hb6
              go_wp2
              go_ret
              exact ⟨rfl, HBe.out⟩
end Go.Proofs.YtcakoikcafiolaaDoor.Lis

namespace Go.Proofs.YtcakoikcafiolaaDoor.Lis
open Go.RowKit Num Arn
set_option linter.unusedVariables false

/-- The document's lists: a block with two slices, the heads' block, the lists' block. -/
structure Dc (w : World) (q a b : Nat) (S : Nat) (H : List Hx) (L : List Int) : Prop where
  fq : w.heap[q]? = some (.cells #[.slice (some ⟨a, 0, none⟩) S S, .slice (some ⟨b, 0, none⟩) S S] 74 (0, 0))
  fa : ∃ c, w.heap[a]? = some (.cells c 37 (0, 0)) ∧ c.size = S * 5 ∧ ∀ j, j < S → c[j * 5]? = some (.int .i64 (H.getD j (0, 0, 0)).1) ∧ c[j * 5 + 1]? = some (.int .i64 (H.getD j (0, 0, 0)).2.1) ∧ c[j * 5 + 2]? = some (.int .u32 (H.getD j (0, 0, 0)).2.2) ∧ c[j * 5 + 3]? = some (.int .i64 0) ∧ c[j * 5 + 4]? = some (.int .i64 0)
  fb : ∃ c, w.heap[b]? = some (.cells c 3 (0, 0)) ∧ c.size = S ∧ ∀ j, j < S → c[j]? = some (.int .i64 (at_ L j))
  ne : a ≠ q ∧ b ≠ q ∧ a ≠ b
  hl : H.length = S
  ll : L.length = S
  hi : S ≤ 64
theorem Dc.lt {w : World} {q a b S : Nat} {H : List Hx} {L : List Int} (d : Dc w q a b S H L) : q < w.heap.size ∧ a < w.heap.size ∧ b < w.heap.size := by
  obtain ⟨c1, h1, -⟩ := d.fa
  obtain ⟨c2, h2, -⟩ := d.fb
  exact ⟨(Array.getElem?_eq_some_iff.1 d.fq).1, (Array.getElem?_eq_some_iff.1 h1).1, (Array.getElem?_eq_some_iff.1 h2).1⟩
theorem Dc.fr {w w' : World} {q a b S N : Nat} {H : List Hx} {L : List Int} {T : Nat → Prop} (d : Dc w q a b S H L) (hf : Fr N T w w') (hN : q < N ∧ a < N ∧ b < N) (hT : ¬ T q ∧ ¬ T a ∧ ¬ T b) : Dc w' q a b S H L := by
  obtain ⟨c1, h1, k1⟩ := d.fa
  obtain ⟨c2, h2, k2⟩ := d.fb
  exact ⟨(hf.block _ hN.1 hT.1).trans d.fq, ⟨c1, (hf.block _ hN.2.1 hT.2.1).trans h1, k1⟩, ⟨c2, (hf.block _ hN.2.2 hT.2.2).trans h2, k2⟩, d.ne, d.hl, d.ll, d.hi⟩
theorem Dc.below {w w' : World} {q a b S : Nat} {H : List Hx} {L : List Int} (d : Dc w q a b S H L) (hb : Below w.heap.size w w') : Dc w' q a b S H L :=
  d.fr (T := fun _ => False) (Fr.of_below hb) d.lt ⟨fun h => h, fun h => h, fun h => h⟩
theorem Dc.drew {w : World} {q a b S : Nat} {H : List Hx} {L : List Int} (d : Dc w q a b S H L) : Dc w.drew q a b S H L := d.below (Below.refl _ _).drew
theorem Dc.cells {w : World} {q a b S : Nat} {H : List Hx} {L : List Int} (d : Dc w q a b S H L) : w.cell? ⟨q, 0, none⟩ = some (.slice (some ⟨a, 0, none⟩) S S) ∧ w.cell? ⟨q, 1, none⟩ = some (.slice (some ⟨b, 0, none⟩) S S) :=
  ⟨(cell_block d.fq 0).trans rfl, (cell_block d.fq 1).trans rfl⟩
theorem Dc.cellL {w : World} {q a b S : Nat} {H : List Hx} {L : List Int} (d : Dc w q a b S H L) (j : Nat) (hj : j < S) : w.cell? ⟨b, j, none⟩ = some (.int .i64 (at_ L j)) := by
  obtain ⟨c2, h2, k1, k2⟩ := d.fb
  exact (cell_block h2 j).trans (k2 j hj)
theorem Dc.cellH {w : World} {q a b S : Nat} {H : List Hx} {L : List Int} (d : Dc w q a b S H L) (j : Nat) (hj : j < S) :
    w.cell? ⟨a, j * 5, none⟩ = some (.int .i64 (H.getD j (0, 0, 0)).1) ∧ w.cell? ⟨a, j * 5 + 1, none⟩ = some (.int .i64 (H.getD j (0, 0, 0)).2.1) ∧ w.cell? ⟨a, j * 5 + 2, none⟩ = some (.int .u32 (H.getD j (0, 0, 0)).2.2) ∧ w.cell? ⟨a, j * 5 + 3, none⟩ = some (.int .i64 0) ∧ w.cell? ⟨a, j * 5 + 4, none⟩ = some (.int .i64 0) := by
  obtain ⟨c2, h2, k1, k2⟩ := d.fa
  obtain ⟨e0, e1, e2, e3, e4⟩ := k2 j hj
  exact ⟨(cell_block h2 _).trans e0, (cell_block h2 _).trans e1, (cell_block h2 _).trans e2, (cell_block h2 _).trans e3, (cell_block h2 _).trans e4⟩

/-! ### All -/
/-- The first k slabs' part of a list. -/
def alT (L : List Int) (c : Int) (k : Nat) : List Nat := if isL c then (List.range' 0 k).filter fun j => at_ L j == c else []
theorem alT_zero (L : List Int) (c : Int) : alT L c 0 = [] := by unfold alT; split <;> rfl
theorem alT_all (L : List Int) (c : Int) : alT L c L.length = alI L c := by
  unfold alT alI allL
  rw [Nat.sub_zero]
theorem alT_yes {L : List Int} {c : Int} {k : Nat} (hi : isL c = true) (h : at_ L k = c) : alT L c (k + 1) = alT L c k ++ [k] := by
  unfold alT
  rw [if_pos hi, if_pos hi, List.range'_1_concat, List.filter_append, Nat.zero_add, List.filter_cons_of_pos (by simpa using h)]
  rfl
theorem alT_no {L : List Int} {c : Int} {k : Nat} (h : isL c = false ∨ at_ L k ≠ c) : alT L c (k + 1) = alT L c k := by
  unfold alT
  rcases h with h | h
  · rw [h]; rfl
  · rw [List.range'_1_concat, List.filter_append, Nat.zero_add, List.filter_cons_of_neg (by simpa using h), List.filter_nil, List.append_nil]
theorem alT_le {L : List Int} {c : Int} {k : Nat} : (alT L c k).length ≤ k := by
  unfold alT
  split
  · refine Nat.le_trans (List.length_filter_le _ _) ?_
    simp
  · exact Nat.zero_le _
theorem alT_mem {L : List Int} {c : Int} {k x : Nat} (h : x ∈ alT L c k) : x < k := by
  unfold alT at h
  split at h
  · have := (List.mem_filter.1 h).1
    rw [List.mem_range'_1] at this
    omega
  · simp at h

set_option maxRecDepth 100000 in
set_option maxHeartbeats 2000000 in
theorem refAll_any (q a b S : Nat) (H : List Hx) (L : List Int) (c : Int) (w : World) (hd : Dc w q a b S H L) :
    Calls Tryd.prog 17 #[.pointer (some ⟨q, 0, none⟩), .int .i64 c] w fun e w' => ∃ u, e = .returned u ∧ Row .i64 w' u (ints (alI L c)) ∧ (∀ k, u.ownBlock = some k → w.heap.size ≤ k) ∧ Below w.heap.size w w' := by
  obtain ⟨i0, hi, hz0, hz1, hz2⟩ := info_parts infoInt
  have HD := Lib.hid hd
  have hlt := hd.lt
  have hS64 := hd.hi
  clear hd
  go_enter Tryd.func17, Tryd.ntmps17
  go_wp2
  go_loopw [5, 6] (fun v i wr => ∃ k : Nat, k ≤ S ∧ i = .int .i64 k ∧ Hid (wr.ownsRow w.heap.size 3 1 v (alT L c k).length (valsN (alT L c k))) ∧ Hid (Below w.heap.size w wr)) (fun _ i _ => S - (intOf i).toNat)
  case atStart => exact ⟨0, Nat.zero_le _, rfl, by rw [alT_zero]; exact World.ownsRow_nil _ _ _ _, Below.refl _ _⟩
  case round =>
    obtain ⟨k, hk, rfl, HO, HB⟩ := hrel
    obtain ⟨z0, z1⟩ := (HD.out.below HB.out).cells
    by_cases hlt2 : k < S
    · have hlt3 : (k : Int) < (S : Int) := by omega
      have hlt4 : (0 : Int) ≤ (k : Int) := by omega
      have z2 := (HD.out.below HB.out).cellL k hlt2
      have hsz := HB.out.size
      by_cases hy : isL c = true ∧ at_ L k = c
      · obtain ⟨y1, y2⟩ := hy
        have hsu := alT_yes y1 y2
        have hle := alT_le (L := L) (c := c) (k := k)
        rw [y2] at z2
        have g1 : (0 : Int) ≤ c := by simp [isL] at y1; omega
        have g2 : c ≤ 9 := by simp [isL] at y1; omega
        clear y1 y2
        go_wp2_with (at_builtin; refine wpList_append_own _ rfl (.tmp 33) (.tmp 35) 45 rfl w.heap.size 3 i0 (.int .i64 0) 1 8 Tryd.underlying45 hi hz0 hz1 hz2 rfl (by decide) _ _ _ rfl (HO.out.alloc _) ⟨wr.heap.size, 0, none⟩ 1 1 [.int .i64 (k : Int)] rfl rfl (news_one _ _ _ _) (oneCell_one _ _) (by unfold maxLen; omega) (by omega) (by simp; omega) ?_)
        intro v3 w3 hown3 hgrow3 _
        have HB3 := Lib.hid ((HB.out.alloc HB.out.size (.cells #[.int .i64 (k : Int)] 3)).grown hgrow3 (by simp; omega) (fun r hr => (HO.out.lt r hr).1))
        have HO3 : Hid (w3.ownsRow w.heap.size 3 1 v3 (alT L c (k + 1)).length (valsN (alT L c (k + 1)))) := by
          unfold Hid
          rw [hsu, valsN_snoc, List.length_append]
          exact hown3
        clear hown3 hgrow3 HO HB z0 z1 z2 hsu
        go_wp2
        go_roundw
        case rel => exact ⟨k + 1, by omega, by go_num, HO3, HB3⟩
        case measure => simp [intOf]; omega
      · have hsu := alT_no (L := L) (c := c) (k := k) (by
          by_cases y1 : isL c = true
          · exact .inr fun y2 => hy ⟨y1, y2⟩
          · exact .inl (by simpa using y1))
        rw [← hsu] at HO
        obtain ⟨x, hx⟩ : ∃ x, x = at_ L k := ⟨_, rfl⟩
        rw [← hx] at z2 hy
        by_cases hxc : x = c
        · subst hxc
          have hn : isL x = false := by
            cases hq : isL x with
            | true => exact absurd ⟨hq, rfl⟩ hy
            | false => rfl
          by_cases g1 : (0 : Int) ≤ x
          · have g2 : ¬ x ≤ 9 := by
              intro h
              simp [isL] at hn
              omega
            clear hy hn hx hsu
            go_wp2
            go_roundw
            case rel => exact ⟨k + 1, by omega, by go_num, HO, HB⟩
            case measure => simp [intOf]; omega
          · clear hy hn hx hsu
            go_wp2
            go_roundw
            case rel => exact ⟨k + 1, by omega, by go_num, HO, HB⟩
            case measure => simp [intOf]; omega
        · have hxc' : (x == c) = false := by simpa using hxc
          clear hy hx hsu
          go_wp2
          go_roundw
          case rel => exact ⟨k + 1, by omega, by go_num, HO, HB⟩
          case measure => simp [intOf]; omega
    · obtain rfl : k = S := by omega
      go_wp2
      go_ret
      have hL := HD.out.ll
      have hO := HO.out
      refine ⟨_, rfl, ?_, owns_base hO, HB.out⟩
      rw [← alT_all, hL]
      exact rowN_of_owns hO rfl (fun x hx => by have := alT_mem hx; omega)

set_option maxRecDepth 100000 in
theorem refFirst_any (q a b S : Nat) (H : List Hx) (L : List Int) (c : Int) (w : World) (hd : Dc w q a b S H L) :
    Calls Tryd.prog 14 #[.pointer (some ⟨q, 0, none⟩), .int .i64 c] w fun e w' => e = .returned (.int .i64 (fiI L c)) ∧ Below w.heap.size w w' := by
  have HA := Lib.hid (refAll_any q a b S H L c w hd)
  unfold fiI
  generalize alI L c = B at HA ⊢
  clear hd
  cases B with
  | nil =>
    go_enter Tryd.func14, Tryd.ntmps14
    go_wp2_with fail
    refine HA.out.mono ?_
    rintro e w1 ⟨u, rfl, hr, -, hb⟩
    obtain ⟨ad, cap, rfl, -⟩ := hr
    have HB := Lib.hid hb
    clear hb
    rw [show (ints []).length = 0 from rfl]
    go_wp2
    go_ret
    exact ⟨rfl, HB.out⟩
  | cons x r =>
    go_enter Tryd.func14, Tryd.ntmps14
    go_wp2_with fail
    refine HA.out.mono ?_
    rintro e w1 ⟨u, rfl, hr, -, hb⟩
    obtain ⟨ad, cap, rfl, r1, r2, r3, r4⟩ := hr
    obtain ⟨k, o, rfl, hk, hc⟩ := r4 (by simp [ints])
    have hc0 := hc 0 (by simp [ints])
    rw [Nat.add_zero, ints_get, show (x :: r).getD 0 0 = x from rfl] at hc0
    obtain ⟨n, hn⟩ : ∃ n, n = (ints (x :: r)).length := ⟨_, rfl⟩
    have hn1 : 0 < n := by rw [hn]; simp [ints]
    have hn2 : (0 : Int) < (n : Int) := by omega
    have hn3 : ((n : Int) == 0) = false := by simp; omega
    rw [← hn]
    have HB := Lib.hid hb
    clear hb hn hc r1 r2 r3 r4
    go_wp2
    go_ret
    have e : ((headN (x :: r) : Nat) : Int) - 1 = (x : Int) := by simp [headN]
    rw [e]
    exact ⟨rfl, HB.out⟩

set_option maxRecDepth 100000 in
theorem refSame_any (u v : Value) (B : List Int) (w : World) (hu : Row .i64 w u B) (hv : Row .i64 w v B) :
    Calls Tryd.prog 15 #[u, v] w fun e w' => e = .returned (.bool true) ∧ Below w.heap.size w w' := by
  have HU := Lib.hid hu
  have HV := Lib.hid hv
  obtain ⟨a1, c1, rfl, g1, h1, -, -⟩ := hu
  obtain ⟨a2, c2, rfl, g2, h2, -, -⟩ := hv
  have h3 : B.length ≤ 9223372036854775807 := by omega
  clear g1 g2 h1 h2
  go_enter Tryd.func15, Tryd.ntmps15
  go_wp2_with fail
  go_loopw [5] (fun i wr => ∃ k : Nat, k ≤ B.length ∧ i = .int .i64 k ∧ Hid (Below w.heap.size w wr)) (fun i _ => B.length - (intOf i).toNat)
  case atStart => exact ⟨0, Nat.zero_le _, rfl, Below.refl _ _⟩
  case round =>
    obtain ⟨k, hk, rfl, HB⟩ := hrel
    by_cases hlt : k < B.length
    · have hlt1 : (k : Int) < (B.length : Int) := by omega
      have hlt2 : (0 : Int) ≤ (k : Int) := by omega
      obtain ⟨a1', c1', e1, -, -, -, r1⟩ := HU.out.mono HB.out (Nat.le_refl _)
      obtain ⟨a2', c2', e2, -, -, -, r2⟩ := HV.out.mono HB.out (Nat.le_refl _)
      injection e1 with e1 e1' e1''
      injection e2 with e2 e2' e2''
      subst e1 e2
      clear e1' e1'' e2' e2''
      obtain ⟨b1, o1, rfl, l1, k1⟩ := r1 (by rintro rfl; simp at hlt)
      obtain ⟨b2, o2, rfl, l2, k2⟩ := r2 (by rintro rfl; simp at hlt)
      have z1 := k1 k hlt
      have z2 := k2 k hlt
      clear k1 k2 r1 r2
      go_wp2_with fail
      go_quiet (fail)
      have HB2 : Hid (Below w.heap.size w (wr.drewN nq)) := below_drewN HB.out nq
      go_wp2
      go_roundw
      case rel => exact ⟨k + 1, by omega, by go_num, HB2⟩
      case measure => simp [intOf]; omega
    · obtain rfl : k = B.length := by omega
      go_wp2
      go_ret
      exact ⟨rfl, HB.out⟩
end Go.Proofs.YtcakoikcafiolaaDoor.Lis

namespace Go.Proofs.YtcakoikcafiolaaDoor.Lis
open Go.RowKit Num Arn
open Mem (Mm MemC MRet Hm rd blkM)
set_option linter.unusedVariables false

/-- The neighbours that k rounds over a list find of a slab: the next one's and the one's ahead, as number plus 1. -/
def gX (A : List Nat) (s : Nat) : Nat → Nat × Nat
  | 0 => (0, 0)
  | k + 1 => if A.getD k 0 = s then (if k + 1 < A.length then A.getD (k + 1) 0 + 1 else (gX A s k).1, if 0 < k then A.getD (k - 1) 0 + 1 else (gX A s k).2) else gX A s k
theorem gX_ahead {pre rest : List Nat} {s : Nat} (h : ∀ y ∈ pre, y < s) : ∀ k, k ≤ pre.length → gX (pre ++ s :: rest) s k = (0, 0)
  | 0, _ => rfl
  | k + 1, hk => by
    have e : (pre ++ s :: rest).getD k 0 = pre[k] := by simp [List.getD, List.getElem?_append, show k < pre.length by omega]
    have := h _ (List.getElem_mem (show k < pre.length by omega))
    rw [gX, if_neg (by rw [e]; omega)]
    exact gX_ahead h k (by omega)
theorem gX_at {pre rest : List Nat} {s : Nat} (h : ∀ y ∈ pre, y < s) : gX (pre ++ s :: rest) s (pre.length + 1) = (headN rest, lastN pre) := by
  have e : (pre ++ s :: rest).getD pre.length 0 = s := by simp [List.getD]
  rw [gX, if_pos e, gX_ahead h _ (Nat.le_refl _)]
  refine Prod.ext ?_ ?_
  · cases rest with
    | nil => simp [headN]
    | cons y r =>
      simp [headN, List.getD]
  · rcases List.eq_nil_or_concat pre with rfl | ⟨p, x, rfl⟩
    · rfl
    · rw [List.concat_eq_append] at *
      rw [lastN_snoc]
      simp [List.getD]
theorem gX_behind {pre rest : List Nat} {s : Nat} (h : ∀ y ∈ pre, y < s) (h2 : ∀ y ∈ rest, s < y) : ∀ k, k ≤ rest.length → gX (pre ++ s :: rest) s (pre.length + 1 + k) = (headN rest, lastN pre)
  | 0, _ => gX_at h
  | k + 1, hk => by
    have e : (pre ++ s :: rest).getD (pre.length + 1 + k) 0 = rest[k] := by
      have : pre.length + 1 + k - pre.length = k + 1 := by omega
      simp [List.getD, List.getElem?_append, this, show k < rest.length by omega, show ¬ pre.length + 1 + k < pre.length by omega]
    have := h2 _ (List.getElem_mem (show k < rest.length by omega))
    rw [← Nat.add_assoc, gX, if_neg (by rw [e]; omega)]
    exact gX_behind h h2 k (by omega)
/-- The neighbours of a slab. -/
def nbX (L : List Int) (s : Nat) : Nat × Nat := gX (alI L (at_ L s)) s (alI L (at_ L s)).length
theorem nbX_is {L : List Int} {s : Nat} (h : -1 ≤ at_ L s ∧ at_ L s ≤ 9) : Nxe L s (nbX L s).1 ∧ Pve L s (nbX L s).2 := by
  unfold nbX
  by_cases hm : at_ L s = -1
  · have e : alI L (at_ L s) = [] := by rw [alI, if_neg (by rw [hm]; decide)]
    rw [e]
    exact ⟨.inl ⟨hm, rfl⟩, .inl ⟨hm, rfl⟩⟩
  · obtain ⟨c, hc⟩ : ∃ c : Nat, at_ L s = c := ⟨(at_ L s).toNat, by omega⟩
    have e : alI L (at_ L s) = allL L (c : Int) 0 := by rw [hc, alI, if_pos (by simp [isL]; omega)]
    rw [e]
    obtain ⟨pre, rest, hp⟩ := List.append_of_mem (mem_all.2 hc)
    have hs := all_sorted L (c : Int)
    rw [hp] at hs
    have h1 : ∀ y ∈ pre, y < s := fun y hy => (List.pairwise_append.1 hs).2.2 y hy s (by simp)
    have h2 : ∀ y ∈ rest, s < y := fun y hy => (List.pairwise_cons.1 (List.pairwise_append.1 hs).2.1).1 y hy
    have hx := gX_behind h1 h2 rest.length (Nat.le_refl _)
    rw [hp, show (pre ++ s :: rest).length = pre.length + 1 + rest.length by simp; omega, hx]
    refine ⟨.inr ⟨hm, ?_⟩, .inr ⟨hm, ?_⟩⟩
    · rw [hc]
      refine split_nx (pre := pre ++ [s]) (by rw [hp]; simp) (fun y hy => ?_) (fun y hy => by have := h2 y hy; omega)
      rcases List.mem_append.1 hy with hy | hy
      · have := h1 y hy; omega
      · simp at hy; omega
    · rw [hc]
      refine split_pv hp h1 (fun y hy => ?_)
      rcases List.mem_cons.1 hy with rfl | hy
      · omega
      · have := h2 y hy; omega
/-- The header that Get answers. -/
def gtD (S : Nat) (H : List Hx) (L : List Int) (s : Int) : Hd :=
  if 0 ≤ s ∧ s < (S : Int) then ⟨(H.getD s.toNat (0, 0, 0)).1, (H.getD s.toNat (0, 0, 0)).2.1, (H.getD s.toNat (0, 0, 0)).2.2, (nbX L s.toNat).1, (nbX L s.toNat).2⟩ else Hd.zero
theorem gtH_is {S : Nat} {l0 l : List Int} {H : List Hx} {L : List Int} (h : Rep S l0 l H L) (s : Int) : gtH S l s = gtD S H L s := by
  unfold gtH gtD
  by_cases h0 : 0 ≤ s ∧ s < (S : Int)
  · rw [if_pos h0, if_pos h0]
    obtain ⟨n, rfl⟩ : ∃ n : Nat, s = n := ⟨s.toNat, by omega⟩
    rw [Int.toNat_natCast]
    have hn : n < S := by omega
    obtain ⟨q1, q2, q3⟩ := h.head n hn
    obtain ⟨v, v1, v2⟩ := h.nxt n hn
    obtain ⟨u, u1, u2⟩ := h.prv n hn
    obtain ⟨p1, p2⟩ := nbX_is (h.cls n)
    have e1 : v = (nbX L n).1 := by
      rcases v2 with ⟨a1, rfl⟩ | ⟨a1, a2⟩ <;> rcases p1 with ⟨b1, b2⟩ | ⟨b1, b2⟩
      · exact b2.symm
      · exact absurd a1 b1
      · exact absurd b1 a1
      · exact nx_one a2 b2
    have e2 : u = (nbX L n).2 := by
      rcases u2 with ⟨a1, rfl⟩ | ⟨a1, a2⟩ <;> rcases p2 with ⟨b1, b2⟩ | ⟨b1, b2⟩
      · exact b2.symm
      · exact absurd a1 b1
      · exact absurd b1 a1
      · exact pv_one a2 b2
    rw [← e1, ← e2, ← q1, ← q2, ← q3, ← v1, ← u1]
    rfl
  · rw [if_neg h0, if_neg h0]
theorem Ls.get {w W : World} {h : Hm} {C : Cf} {l0 : List Int} {H : List Hx} {L : List Int} (hC : C.Ok) (d : Ls w h C l0 H L W) (s : Int) :
    Calls Tryd.prog 11 #[.pointer (some ⟨h.g, 0, none⟩), .int .i64 s] W fun e w' => e = .returned (.tuple #[(gtD C.s H L s).agg, .int .i64 (gtE C.s s)]) ∧ Ls w h C l0 H L w' ∧ Fr W.heap.size (blkM h) W w' := by
  obtain ⟨l, d1, d2⟩ := d
  refine (get_any h C l s W hC d1.m).mono ?_
  rintro e w' hl
  rw [gtH_is d2] at hl
  exact ⟨hl.1, ⟨l, d1.lr hl, d2⟩, hl.2.2⟩
end Go.Proofs.YtcakoikcafiolaaDoor.Lis

namespace Go.Proofs.YtcakoikcafiolaaDoor.Lis
open Go.RowKit Num Arn
open Mem (Mm MemC MRet Hm rd blkM)
set_option linter.unusedVariables false

set_option maxRecDepth 100000 in
set_option maxHeartbeats 2000000 in
theorem refGet_any (q a b S : Nat) (H : List Hx) (L : List Int) (s : Int) (w : World) (hd : Dc w q a b S H L) :
    Calls Tryd.prog 12 #[.pointer (some ⟨q, 0, none⟩), .int .i64 s] w fun e w' => e = .returned (.tuple #[(gtD S H L s).agg, .int .i64 (gtE S s)]) ∧ Below w.heap.size w w' := by
  have hal := below_made w (.cells Hd.zero.cells 37)
  have hz : (w.alloc (.cells Hd.zero.cells 37)).heap.size = w.heap.size + 1 := by simp
  have hblk := heap_alloc_new w (.cells Hd.zero.cells 37)
  have hd1 := hd.below hal
  have hlt := hd.lt
  obtain ⟨y0, y1⟩ := hd1.cells
  by_cases h0 : 0 ≤ s ∧ s < (S : Int)
  · obtain ⟨n, rfl⟩ : ∃ n : Nat, s = n := ⟨s.toNat, by omega⟩
    have e0 : gtE S (n : Int) = 0 := by rw [gtE, if_pos h0]
    have hn : n < S := by omega
    rw [e0]
    unfold gtD
    rw [if_pos h0, Int.toNat_natCast]
    obtain ⟨x0, x1, x2, x3, x4⟩ := hd1.cellH n hn
    have x5 := hd1.cellL n hn
    obtain ⟨⟨hc, hv, hf⟩, hh⟩ : ∃ x, x = H.getD n (0, 0, 0) := ⟨_, rfl⟩
    rw [← hh] at x0 x1 x2 ⊢
    simp only at x0 x1 x2 ⊢
    have hn1 : (0 : Int) ≤ (n : Int) := by omega
    have hn2 : (n : Int) < (S : Int) := by omega
    have hb2 := hal.trans ((below_made (w.alloc (.cells Hd.zero.cells 37)) (.cells (Hd.mk hc hv hf 0 0).cells 37)).mono hal.size)
    have hd2 := hd1.below (below_made _ (.cells (Hd.mk hc hv hf 0 0).cells 37))
    have hblk1 := heap_alloc_new (w.alloc (.cells Hd.zero.cells 37)) (.cells (Hd.mk hc hv hf 0 0).cells 37)
    have hblk0 : ((w.alloc (.cells Hd.zero.cells 37)).alloc (.cells (Hd.mk hc hv hf 0 0).cells 37)).heap[w.heap.size]? = some (.cells Hd.zero.cells 37 (0, 0)) := ((below_made _ _).block _ (by rw [hz]; omega)).trans hblk
    rw [hz] at hblk1
    have hz2 : ((w.alloc (.cells Hd.zero.cells 37)).alloc (.cells (Hd.mk hc hv hf 0 0).cells 37)).heap.size = w.heap.size + 1 + 1 := by simp
    have HA := Lib.hid (refAll_any q a b S H L (at_ L n) _ hd2)
    have HB2 := Lib.hid hb2
    have HBlk0 := Lib.hid hblk0
    have HBlk1 := Lib.hid hblk1
    have HZ2 := Lib.hid hz2
    have HNb : Hid (nbX L n = gX (alI L (at_ L n)) n (alI L (at_ L n)).length) := rfl
    have hAl : (alI L (at_ L n)).length ≤ 64 := by
      rw [← alT_all, hd.ll]
      exact Nat.le_trans alT_le hd.hi
    have hAm : ∀ y ∈ alI L (at_ L n), y < 64 := fun y hy => by
      rw [← alT_all, hd.ll] at hy
      have := alT_mem hy
      have := hd.hi
      omega
    have HAm := Lib.hid hAm
    generalize alI L (at_ L n) = A at HA HNb hAl HAm
    have HAl := Lib.hid hAl
    clear hAm
    generalize at_ L n = cl at HA x5
    rw [HNb.out]
    obtain ⟨d, hd9⟩ : ∃ d, d = Hd.mk hc hv hf (gX A n A.length).1 (gX A n A.length).2 := ⟨_, rfl⟩
    rw [← hd9]
    have HDn := Lib.hid hd9
    clear hd9 HNb
    unfold Hd.zero Hd.cells at HA HB2 HBlk0 HBlk1 HZ2
    unfold Hd.zero Hd.cells at y0 y1 x0 x1 x2 x3 x4 x5
    clear e0 h0 hd hd1 hal hblk hh hz hb2 hd2 hblk1 hblk0 hz2 hAl
    go_enter Tryd.func12, Tryd.ntmps12
    go_wp2_with fail
    refine HA.out.mono ?_
    rintro e w3 ⟨u, rfl, hrow, hown, hb3⟩
    have hs3 := hb3.size
    rw [HZ2.out] at hs3
    have HBlk0' := Lib.hid ((hb3.block w.heap.size (by rw [HZ2.out]; omega)).trans HBlk0.out)
    have HBlk1' := Lib.hid ((hb3.block (w.heap.size + 1) (by rw [HZ2.out]; omega)).trans HBlk1.out)
    have HB3 := Lib.hid (HB2.out.trans (hb3.mono HB2.out.size))
    have HRow : Hid (∀ V, Fr w3.heap.size (fun j => j = w.heap.size + 1) w3 V → Row .i64 V u (ints A)) := fun V hf => hrow.fr hf (fun hne k hk => by
      have h1 := hown k hk
      rw [HZ2.out] at h1
      obtain ⟨a', c', rfl, -, -, -, q⟩ := hrow
      obtain ⟨b', o', rfl, hlt', -⟩ := q hne
      cases hk
      exact ⟨hlt', by omega⟩)
    have HOwn : Hid (∀ k, u.ownBlock = some k → k ≠ w.heap.size + 1) := fun k hk => by
      have h1 := hown k hk
      rw [HZ2.out] at h1
      omega
    obtain ⟨ua, uc, rfl, r2, r3, -, -⟩ := id hrow
    rw [ints_length] at r2 HRow ⊢
    clear hrow hown hb3 HA HBlk0 HBlk1 y0 y1 x0 x1 x2 x3 x4 x5
    go_wp2_with fail
    go_loopw [8] (fun i wr => ∃ k : Nat, k ≤ A.length ∧ i = .int .i64 k ∧ Hid (wr.heap[w.heap.size + 1]? = some (.cells (Hd.mk hc hv hf (gX A n k).1 (gX A n k).2).cells 37 (0, 0))) ∧ Hid (Fr w3.heap.size (fun j => j = w.heap.size + 1) w3 wr)) (fun i _ => A.length - (intOf i).toNat)
    case atStart => exact ⟨0, Nat.zero_le _, rfl, HBlk1'.out, Fr.refl _ _ _⟩
    case round =>
      obtain ⟨k, hk, rfl, HC, HF⟩ := hrel
      by_cases hlt1 : k < A.length
      · have hrw := HRow.out _ HF.out
        obtain ⟨ua', uc', e', -, -, -, r5⟩ := hrw
        injection e' with e1 e2 e3
        subst e1 e3
        clear e2
        obtain ⟨rb, o, rfl, hbl, hcell⟩ := r5 (by intro q; have h1 := congrArg List.length q; rw [ints_length, List.length_nil] at h1; omega)
        have HCell : Hid (∀ j, j < A.length → wr.cell? ⟨rb, o + j, none⟩ = some (.int .i64 ((A.getD j 0 : Nat) : Int))) := fun j hj => by
          have := hcell j (by rw [ints_length]; exact hj)
          rw [ints_get] at this
          exact this
        have hrb := HOwn.out rb rfl
        have hm : ∀ j, j < A.length → A.getD j 0 < 64 := fun j hj => by
          have e : A.getD j 0 = A[j] := by simp [List.getD, hj]
          rw [e]
          exact HAm.out _ (List.getElem_mem hj)
        have hA64 := HAl.out
        have hlt2 : (k : Int) < (A.length : Int) := by omega
        have hlt3 : (0 : Int) ≤ (k : Int) := by omega
        obtain ⟨x, hx⟩ : ∃ x, x = A.getD k 0 := ⟨_, rfl⟩
        have z1 := HCell.out k hlt1
        rw [← hx] at z1
        clear r5 hcell hbl
        by_cases hxn : x = n
        · skip
          rw [hxn] at z1 hx
          by_cases hP : 0 < k
          · by_cases hN : k + 1 < A.length
            · skip
              have hkp : (0 : Int) < (k : Int) := by omega
              obtain ⟨k1, hk1⟩ : ∃ k1, k1 = k - 1 := ⟨_, rfl⟩
              have z2 := HCell.out k1 (by omega)
              have hy64 := hm k1 (by omega)
              obtain ⟨y, hy⟩ : ∃ y, y = A.getD k1 0 := ⟨_, rfl⟩
              rw [← hy] at z2 hy64
              obtain ⟨y1, hy1⟩ : ∃ y1, y1 = y + 1 := ⟨_, rfl⟩
              have hw1 : IntKind.i64.wrap ((k : Int) - 1) = (k1 : Int) := (wrap_id (by omega) (by omega)).trans (by omega)
              have hw2 : IntKind.i64.wrap ((y : Int) + 1) = (y1 : Int) := (wrap_id (by omega) (by omega)).trans (by omega)
              have hk11 : (k1 : Int) < (A.length : Int) := by omega
              have hk10 : (0 : Int) ≤ (k1 : Int) := by omega
              have hk12 : k1 < A.length := by omega
              have f4 := Wat.frozen_block HC.out 4
              obtain ⟨-, -, -, -, c4⟩ := Hd.five HC.out
              have hC1 : (wr.setCell ⟨w.heap.size + 1, 4, none⟩ (.int .i64 (y1 : Int))).heap[w.heap.size + 1]? = some (.cells (Hd.mk hc hv hf (gX A n k).1 y1).cells 37 (0, 0)) := by have := Hd.blk_set (i := 4) (by omega) HC.out (y1 : Int); simpa [Hd.set] using this
              have hF1 := HF.out.setCell (p := ⟨w.heap.size + 1, 4, none⟩) (.inr rfl) (.int .i64 (y1 : Int))
              have HCell1 : Hid (∀ j, j < A.length → (wr.setCell ⟨w.heap.size + 1, 4, none⟩ (.int .i64 (y1 : Int))).cell? ⟨rb, o + j, none⟩ = some (.int .i64 ((A.getD j 0 : Nat) : Int))) := fun j hj => (World.cell?_setCell_other _ _ _ _ (fun h4 => by injection h4 with h5; exact hrb h5.symm)).trans (HCell.out j hj)
              have z3 := HCell1.out k hlt1
              rw [← hx] at z3
              obtain ⟨k2, hk2⟩ : ∃ k2, k2 = k + 1 := ⟨_, rfl⟩
              have z4 := HCell1.out k2 (by omega)
              have hu64 := hm k2 (by omega)
              obtain ⟨t, ht⟩ : ∃ t, t = A.getD k2 0 := ⟨_, rfl⟩
              rw [← ht] at z4 hu64
              obtain ⟨t1, ht1⟩ : ∃ t1, t1 = t + 1 := ⟨_, rfl⟩
              have hw3 : IntKind.i64.wrap ((k : Int) + 1) = (k2 : Int) := (wrap_id (by omega) (by omega)).trans (by omega)
              have hw4 : IntKind.i64.wrap ((t : Int) + 1) = (t1 : Int) := (wrap_id (by omega) (by omega)).trans (by omega)
              have hk21 : (k2 : Int) < (A.length : Int) := by omega
              have hk20 : (0 : Int) ≤ (k2 : Int) := by omega
              have hk22 : k2 < A.length := by omega
              have f3 := Wat.frozen_block hC1 3
              obtain ⟨-, -, -, c3, -⟩ := Hd.five hC1
              have hC2 : ((wr.setCell ⟨w.heap.size + 1, 4, none⟩ (.int .i64 (y1 : Int))).setCell ⟨w.heap.size + 1, 3, none⟩ (.int .i64 (t1 : Int))).heap[w.heap.size + 1]? = some (.cells (Hd.mk hc hv hf t1 y1).cells 37 (0, 0)) := by have := Hd.blk_set (i := 3) (by omega) hC1 (t1 : Int); simpa [Hd.set] using this
              have hF2 := hF1.setCell (p := ⟨w.heap.size + 1, 3, none⟩) (.inr rfl) (.int .i64 (t1 : Int))
              have e : gX A n k2 = (t1, y1) := by
                rw [hk2, gX, if_pos hx.symm, if_pos (by omega), if_pos (by omega)]
                rw [ht1, ht, hk2, hy1, hy, hk1]
              have HC3 : Hid (((wr.setCell ⟨w.heap.size + 1, 4, none⟩ (.int .i64 (y1 : Int))).setCell ⟨w.heap.size + 1, 3, none⟩ (.int .i64 (t1 : Int))).heap[w.heap.size + 1]? = some (Obj.cells (Hd.mk hc hv hf (gX A n k2).1 (gX A n k2).2).cells 37 (0, 0))) := by rw [e]; exact hC2
              have HF3 := Lib.hid hF2
              have HK2 := Lib.hid hk2
              clear hC1 hF1 hC2 hF2 e hx hm hk2 hxn hk1 hy hy1 hy64 ht ht1 hu64
              go_wp2
              go_roundw
              case rel => exact ⟨k2, by have := HK2.out; omega, rfl, HC3.out, HF3.out⟩
              case measure => have := HK2.out; simp [intOf]; omega
            · skip
              have hkp : (0 : Int) < (k : Int) := by omega
              obtain ⟨k1, hk1⟩ : ∃ k1, k1 = k - 1 := ⟨_, rfl⟩
              have z2 := HCell.out k1 (by omega)
              have hy64 := hm k1 (by omega)
              obtain ⟨y, hy⟩ : ∃ y, y = A.getD k1 0 := ⟨_, rfl⟩
              rw [← hy] at z2 hy64
              obtain ⟨y1, hy1⟩ : ∃ y1, y1 = y + 1 := ⟨_, rfl⟩
              have hw1 : IntKind.i64.wrap ((k : Int) - 1) = (k1 : Int) := (wrap_id (by omega) (by omega)).trans (by omega)
              have hw2 : IntKind.i64.wrap ((y : Int) + 1) = (y1 : Int) := (wrap_id (by omega) (by omega)).trans (by omega)
              have hk11 : (k1 : Int) < (A.length : Int) := by omega
              have hk10 : (0 : Int) ≤ (k1 : Int) := by omega
              have hk12 : k1 < A.length := by omega
              have f4 := Wat.frozen_block HC.out 4
              obtain ⟨-, -, -, -, c4⟩ := Hd.five HC.out
              have hC1 : (wr.setCell ⟨w.heap.size + 1, 4, none⟩ (.int .i64 (y1 : Int))).heap[w.heap.size + 1]? = some (.cells (Hd.mk hc hv hf (gX A n k).1 y1).cells 37 (0, 0)) := by have := Hd.blk_set (i := 4) (by omega) HC.out (y1 : Int); simpa [Hd.set] using this
              have hF1 := HF.out.setCell (p := ⟨w.heap.size + 1, 4, none⟩) (.inr rfl) (.int .i64 (y1 : Int))
              have HCell1 : Hid (∀ j, j < A.length → (wr.setCell ⟨w.heap.size + 1, 4, none⟩ (.int .i64 (y1 : Int))).cell? ⟨rb, o + j, none⟩ = some (.int .i64 ((A.getD j 0 : Nat) : Int))) := fun j hj => (World.cell?_setCell_other _ _ _ _ (fun h4 => by injection h4 with h5; exact hrb h5.symm)).trans (HCell.out j hj)
              have z3 := HCell1.out k hlt1
              rw [← hx] at z3
              obtain ⟨k2, hk2⟩ : ∃ k2, k2 = k + 1 := ⟨_, rfl⟩
              have hw3 : IntKind.i64.wrap ((k : Int) + 1) = (k2 : Int) := (wrap_id (by omega) (by omega)).trans (by omega)
              have hk21 : ¬ (k2 : Int) < (A.length : Int) := by omega
              have hk22 : ¬ k2 < A.length := by omega
              have hC2 := hC1
              have hF2 := hF1
              have e : gX A n k2 = ((gX A n k).1, y1) := by
                rw [hk2, gX, if_pos hx.symm, if_neg (by omega), if_pos (by omega)]
                rw [hy1, hy, hk1]
              have HC3 : Hid ((wr.setCell ⟨w.heap.size + 1, 4, none⟩ (.int .i64 (y1 : Int))).heap[w.heap.size + 1]? = some (Obj.cells (Hd.mk hc hv hf (gX A n k2).1 (gX A n k2).2).cells 37 (0, 0))) := by rw [e]; exact hC2
              have HF3 := Lib.hid hF2
              have HK2 := Lib.hid hk2
              clear hC1 hF1 hC2 hF2 e hx hm hk2 hxn hk1 hy hy1 hy64
              go_wp2
              go_roundw
              case rel => exact ⟨k2, by have := HK2.out; omega, rfl, HC3.out, HF3.out⟩
              case measure => have := HK2.out; simp [intOf]; omega
          · by_cases hN : k + 1 < A.length
            · skip
              have hkp : ¬ (0 : Int) < (k : Int) := by omega
              have hC1 := HC.out
              have hF1 := HF.out
              have HCell1 := HCell
              obtain ⟨k2, hk2⟩ : ∃ k2, k2 = k + 1 := ⟨_, rfl⟩
              have z4 := HCell1.out k2 (by omega)
              have hu64 := hm k2 (by omega)
              obtain ⟨t, ht⟩ : ∃ t, t = A.getD k2 0 := ⟨_, rfl⟩
              rw [← ht] at z4 hu64
              obtain ⟨t1, ht1⟩ : ∃ t1, t1 = t + 1 := ⟨_, rfl⟩
              have hw3 : IntKind.i64.wrap ((k : Int) + 1) = (k2 : Int) := (wrap_id (by omega) (by omega)).trans (by omega)
              have hw4 : IntKind.i64.wrap ((t : Int) + 1) = (t1 : Int) := (wrap_id (by omega) (by omega)).trans (by omega)
              have hk21 : (k2 : Int) < (A.length : Int) := by omega
              have hk20 : (0 : Int) ≤ (k2 : Int) := by omega
              have hk22 : k2 < A.length := by omega
              have f3 := Wat.frozen_block hC1 3
              obtain ⟨-, -, -, c3, -⟩ := Hd.five hC1
              have hC2 : (wr.setCell ⟨w.heap.size + 1, 3, none⟩ (.int .i64 (t1 : Int))).heap[w.heap.size + 1]? = some (.cells (Hd.mk hc hv hf t1 (gX A n k).2).cells 37 (0, 0)) := by have := Hd.blk_set (i := 3) (by omega) hC1 (t1 : Int); simpa [Hd.set] using this
              have hF2 := hF1.setCell (p := ⟨w.heap.size + 1, 3, none⟩) (.inr rfl) (.int .i64 (t1 : Int))
              have e : gX A n k2 = (t1, (gX A n k).2) := by
                rw [hk2, gX, if_pos hx.symm, if_pos (by omega), if_neg (by omega)]
                rw [ht1, ht, hk2]
              have HC3 : Hid ((wr.setCell ⟨w.heap.size + 1, 3, none⟩ (.int .i64 (t1 : Int))).heap[w.heap.size + 1]? = some (Obj.cells (Hd.mk hc hv hf (gX A n k2).1 (gX A n k2).2).cells 37 (0, 0))) := by rw [e]; exact hC2
              have HF3 := Lib.hid hF2
              have HK2 := Lib.hid hk2
              clear hC1 hF1 hC2 hF2 e hx hm hk2 hxn ht ht1 hu64
              go_wp2
              go_roundw
              case rel => exact ⟨k2, by have := HK2.out; omega, rfl, HC3.out, HF3.out⟩
              case measure => have := HK2.out; simp [intOf]; omega
            · skip
              have hkp : ¬ (0 : Int) < (k : Int) := by omega
              have hC1 := HC.out
              have hF1 := HF.out
              have HCell1 := HCell
              obtain ⟨k2, hk2⟩ : ∃ k2, k2 = k + 1 := ⟨_, rfl⟩
              have hw3 : IntKind.i64.wrap ((k : Int) + 1) = (k2 : Int) := (wrap_id (by omega) (by omega)).trans (by omega)
              have hk21 : ¬ (k2 : Int) < (A.length : Int) := by omega
              have hk22 : ¬ k2 < A.length := by omega
              have hC2 := hC1
              have hF2 := hF1
              have e : gX A n k2 = ((gX A n k).1, (gX A n k).2) := by
                rw [hk2, gX, if_pos hx.symm, if_neg (by omega), if_neg (by omega)]
              have HC3 : Hid (wr.heap[w.heap.size + 1]? = some (Obj.cells (Hd.mk hc hv hf (gX A n k2).1 (gX A n k2).2).cells 37 (0, 0))) := by rw [e]; exact hC2
              have HF3 := Lib.hid hF2
              have HK2 := Lib.hid hk2
              clear hC1 hF1 hC2 hF2 e hx hm hk2 hxn
              go_wp2
              go_roundw
              case rel => exact ⟨k2, by have := HK2.out; omega, rfl, HC3.out, HF3.out⟩
              case measure => have := HK2.out; simp [intOf]; omega
        · have hxn1 : ((x : Int) == (n : Int)) = false := by simp; omega
          have hxn2 : ¬ ((x : Int) = (n : Int)) := by omega
          have HC2 := HC.out
          have e : gX A n (k + 1) = gX A n k := by rw [gX, if_neg (by rw [← hx]; exact hxn)]
          rw [← e] at HC2
          have HC3 := Lib.hid HC2
          clear e HC2 hx hm hxn
          go_wp2
          go_roundw
          case rel => exact ⟨k + 1, by omega, by go_num, HC3.out, HF.out⟩
          case measure => simp [intOf]; omega
      · obtain rfl : k = A.length := by omega
        have hC := HC.out
        have hb0 : wr.heap[w.heap.size]? = some (.cells Hd.zero.cells 37 (0, 0)) := (HF.out.block w.heap.size (by omega) (by omega)).trans HBlk0'.out
        have HFin : Hid (Below w.heap.size w (S5 wr w.heap.size d)) :=
          HB3.out.trans ((s5_fr (HF.out.mono (T := fun j => w.heap.size ≤ j) (Nat.le_refl _) (fun j hj e => by omega)) (.inr (Nat.le_refl _)) d).toBelow (by omega) (fun j hj e => by omega))
        rw [← HDn.out] at hC
        obtain ⟨z0, z1, z2, z3, z4⟩ := Hd.five hC
        obtain ⟨x0, x1, x2, x3, x4⟩ := Hd.five hb0
        unfold Hd.zero at x0 x1 x2 x3 x4
        simp only at x0 x1 x2 x3 x4
        have f0 := Wat.frozen_block hb0 0
        have f1 := Wat.frozen_block hb0 1
        have f2 := Wat.frozen_block hb0 2
        have f3 := Wat.frozen_block hb0 3
        have f4 := Wat.frozen_block hb0 4
        have HD5 := Lib.hid (s5_block hb0 d)
        clear hC hb0
        go_wp2
        show bodyPost _ _ _ _ _ (S5 wr w.heap.size d)
        obtain ⟨y0, y1, y2, y3, y4⟩ := Hd.five HD5.out
        have he := HFin.out
        clear HD5
        generalize S5 wr w.heap.size d = W9 at he y0 y1 y2 y3 y4 ⊢
        refine bodyPost_ret (v := .tuple #[d.agg, .int .i64 0]) ?_ rfl ⟨rfl, he⟩
        simp [results, Tryd.results12, go_sem, y0, y1, y2, y3, y4, Hd.agg, Hd.cells]
  · have e0 : gtE S s = 6 := by rw [gtE, if_neg h0]
    rw [e0]
    unfold gtD
    rw [if_neg h0]
    obtain ⟨z0, z1, z2, z3, z4⟩ := Hd.five hblk
    have HBe := Lib.hid hal
    unfold Hd.zero Hd.cells at y0 y1 z0 z1 z2 z3 z4 HBe
    clear e0 hd hd1 hal hblk hz hlt
    by_cases h1 : s < 0
    · clear h0
      go_enter Tryd.func12, Tryd.ntmps12
      go_wp2
      refine bodyPost_ret (v := .tuple #[Hd.zero.agg, .int .i64 6]) ?_ rfl ⟨rfl, HBe.out⟩
      simp [results, Tryd.results12, go_sem, z0, z1, z2, z3, z4, Hd.agg, Hd.cells, Hd.zero]
    · have h2 : ¬ s < (S : Int) := fun h => h0 ⟨by omega, h⟩
      have h3 : (S : Int) ≤ s := by omega
      clear h0
      go_enter Tryd.func12, Tryd.ntmps12
      go_wp2
      refine bodyPost_ret (v := .tuple #[Hd.zero.agg, .int .i64 6]) ?_ rfl ⟨rfl, HBe.out⟩
      simp [results, Tryd.results12, go_sem, z0, z1, z2, z3, z4, Hd.agg, Hd.cells, Hd.zero]
end Go.Proofs.YtcakoikcafiolaaDoor.Lis

namespace Go.Proofs.YtcakoikcafiolaaDoor.Lis
open Go.RowKit Num Arn
open Mem (Mm MemC MRet Hm rd blkM)
set_option linter.unusedVariables false

/-! ### Five cells of an array -/
def set5 (c : Array Value) (o : Nat) (v0 v1 v2 v3 v4 : Value) : Array Value := ((((c.setIfInBounds o v0).setIfInBounds (o + 1) v1).setIfInBounds (o + 2) v2).setIfInBounds (o + 3) v3).setIfInBounds (o + 4) v4
theorem set5_size (c : Array Value) (o : Nat) (v0 v1 v2 v3 v4 : Value) : (set5 c o v0 v1 v2 v3 v4).size = c.size := by simp [set5]
theorem set5_ne (c : Array Value) (o p : Nat) (v0 v1 v2 v3 v4 : Value) (h : p < o ∨ o + 5 ≤ p) : (set5 c o v0 v1 v2 v3 v4)[p]? = c[p]? := by
  unfold set5
  rw [Array.getElem?_setIfInBounds_ne (by omega), Array.getElem?_setIfInBounds_ne (by omega), Array.getElem?_setIfInBounds_ne (by omega), Array.getElem?_setIfInBounds_ne (by omega), Array.getElem?_setIfInBounds_ne (by omega)]
theorem set5_at (c : Array Value) (o : Nat) (v0 v1 v2 v3 v4 : Value) (h : o + 5 ≤ c.size) :
    (set5 c o v0 v1 v2 v3 v4)[o]? = some v0 ∧ (set5 c o v0 v1 v2 v3 v4)[o + 1]? = some v1 ∧ (set5 c o v0 v1 v2 v3 v4)[o + 2]? = some v2 ∧ (set5 c o v0 v1 v2 v3 v4)[o + 3]? = some v3 ∧ (set5 c o v0 v1 v2 v3 v4)[o + 4]? = some v4 := by
  unfold set5
  have h0 : o < c.size := by omega
  have h1 : o + 1 < c.size := by omega
  have h2 : o + 2 < c.size := by omega
  have h3 : o + 3 < c.size := by omega
  have h4 : o + 4 < c.size := by omega
  refine ⟨?_, ?_, ?_, ?_, ?_⟩ <;> simp [h0, h1, h2, h3, h4]
/-- A slab's five cells, written one by one. -/
def SH (w : World) (a o : Nat) (c v f : Int) : World :=
  ((((w.setCell ⟨a, o, none⟩ (.int .i64 c)).setCell ⟨a, o + 1, none⟩ (.int .i64 v)).setCell ⟨a, o + 2, none⟩ (.int .u32 f)).setCell ⟨a, o + 3, none⟩ (.int .i64 0)).setCell ⟨a, o + 4, none⟩ (.int .i64 0)
theorem sh_fr (w : World) (a o : Nat) (c v f : Int) : Fr w.heap.size (fun j => j = a) w (SH w a o c v f) := by
  unfold SH
  exact (((((Fr.refl w.heap.size (fun j => j = a) w).setCell (p := ⟨a, o, none⟩) (.inr rfl) _).setCell (p := ⟨a, o + 1, none⟩) (.inr rfl) _).setCell (p := ⟨a, o + 2, none⟩) (.inr rfl) _).setCell (p := ⟨a, o + 3, none⟩) (.inr rfl) _).setCell (p := ⟨a, o + 4, none⟩) (.inr rfl) _
theorem Dc.put {w : World} {q a b S : Nat} {H : List Hx} {L : List Int} (d : Dc w q a b S H L) {n : Nat} (hn : n < S) (c v f : Int) : Dc (SH w a (n * 5) c v f) q a b S (H.set n (c, v, f)) L := by
  have hf := sh_fr w a (n * 5) c v f
  have hlt := d.lt
  obtain ⟨c1, h1, k0, k1⟩ := d.fa
  obtain ⟨c2, h2, k2⟩ := d.fb
  refine ⟨(hf.block _ hlt.1 (fun e => d.ne.1 e.symm)).trans d.fq, ?_, ⟨c2, (hf.block _ hlt.2.2 (fun e => d.ne.2.2 e.symm)).trans h2, k2⟩, d.ne, by rw [List.length_set]; exact d.hl, d.ll, d.hi⟩
  refine ⟨set5 c1 (n * 5) (.int .i64 c) (.int .i64 v) (.int .u32 f) (.int .i64 0) (.int .i64 0), ?_, by rw [set5_size]; exact k0, fun j hj => ?_⟩
  · unfold SH
    exact Arn.heap_setCell_own (Arn.heap_setCell_own (Arn.heap_setCell_own (Arn.heap_setCell_own (Arn.heap_setCell_own h1 _) _) _) _) _
  · by_cases e : j = n
    · subst e
      have e2 : (H.set j (c, v, f)).getD j (0, 0, 0) = (c, v, f) := by simp [List.getD, d.hl, hj]
      rw [e2]
      exact set5_at _ _ _ _ _ _ _ (by omega)
    · have e2 : (H.set n (c, v, f)).getD j (0, 0, 0) = H.getD j (0, 0, 0) := by simp [List.getD, List.getElem?_set_ne (show n ≠ j from fun q => e q.symm)]
      rw [e2, set5_ne _ _ _ _ _ _ _ _ (by omega), set5_ne _ _ _ _ _ _ _ _ (by omega), set5_ne _ _ _ _ _ _ _ _ (by omega), set5_ne _ _ _ _ _ _ _ _ (by omega), set5_ne _ _ _ _ _ _ _ _ (by omega)]
      exact k1 j hj
theorem Dc.link {w : World} {q a b S : Nat} {H : List Hx} {L : List Int} (d : Dc w q a b S H L) {n : Nat} (hn : n < S) (c : Int) : Dc (w.setCell ⟨b, n, none⟩ (.int .i64 c)) q a b S H (L.set n c) := by
  have hf := (Fr.refl w.heap.size (fun j => j = b) w).setCell (p := ⟨b, n, none⟩) (.inr rfl) (.int .i64 c)
  have hlt := d.lt
  obtain ⟨c1, h1, k1⟩ := d.fa
  obtain ⟨c2, h2, k0, k2⟩ := d.fb
  refine ⟨(hf.block _ hlt.1 (fun e => d.ne.2.1 e.symm)).trans d.fq, ⟨c1, (hf.block _ hlt.2.1 d.ne.2.2).trans h1, k1⟩, ?_, d.ne, d.hl, by rw [List.length_set]; exact d.ll, d.hi⟩
  refine ⟨c2.setIfInBounds n (.int .i64 c), Arn.heap_setCell_own h2 _, by simp [k0], fun j hj => ?_⟩
  rw [at_set (by rw [d.ll]; exact hn)]
  by_cases e : j = n
  · subst e
    rw [if_pos rfl]
    simp [k0, hj]
  · rw [if_neg e, Array.getElem?_setIfInBounds_ne (fun q => e q.symm)]
    exact k2 j hj

set_option maxRecDepth 100000 in
set_option maxHeartbeats 1000000 in
theorem refSet_any (q a b S : Nat) (H : List Hx) (L : List Int) (s c v f : Int) (w : World) (hd : Dc w q a b S H L) :
    Calls Tryd.prog 35 #[.pointer (some ⟨q, 0, none⟩), .int .i64 s, .int .i64 c, .int .i64 v, .int .u32 f] w fun e w' => e = .returned (.int .i64 (stE S s c v)) ∧ Dc w' q a b S (seH S H s c v f) L ∧ Fr w.heap.size (fun j => j = a) w w' := by
  obtain ⟨y0, y1⟩ := hd.cells
  have HD := Lib.hid hd
  by_cases h1 : s < 0
  · have e0 : stE S s c v = 6 := by rw [stE, if_neg (by omega)]
    unfold seH
    rw [e0, if_neg (by decide)]
    clear e0 hd
    go_enter Tryd.func35, Tryd.ntmps35
    go_wp2
    go_ret
    exact ⟨rfl, HD.out, Fr.refl _ _ _⟩
  by_cases h2 : s < (S : Int)
  · obtain ⟨n, rfl⟩ : ∃ n : Nat, s = n := ⟨s.toNat, by omega⟩
    have hn : n < S := by omega
    by_cases h3 : isL c = true ∧ okL v = true
    · obtain ⟨h4, h5⟩ := h3
      have e0 : stE S (n : Int) c v = 0 := by rw [stE, if_pos (by omega), if_pos (by rw [h4, h5]; rfl)]
      unfold seH
      rw [e0, if_pos rfl, Int.toNat_natCast]
      have g1 : 0 ≤ c := by simp [isL] at h4; omega
      have g2 : c ≤ 9 := by simp [isL] at h4; omega
      have g3 : 0 ≤ v := by simp [okL] at h5; omega
      have g4 : v ≤ 65535 := by simp [okL] at h5; omega
      have g1' : decide (c < 0) = false := by rw [decide_eq_false_iff_not]; omega
      have g2' : decide (9 < c) = false := by rw [decide_eq_false_iff_not]; omega
      have g3' : decide (v < 0) = false := by rw [decide_eq_false_iff_not]; omega
      have g4' : decide (65535 < v) = false := by rw [decide_eq_false_iff_not]; omega
      obtain ⟨x0, x1, x2, x3, x4⟩ := hd.cellH n hn
      obtain ⟨ca, ha, -⟩ := hd.fa
      have f0 := Wat.frozen_block ha (n * 5)
      have f1 := Wat.frozen_block ha (n * 5 + 1)
      have f2 := Wat.frozen_block ha (n * 5 + 2)
      have f3 := Wat.frozen_block ha (n * 5 + 3)
      have f4 := Wat.frozen_block ha (n * 5 + 4)
      have HP := Lib.hid (hd.put hn c v f)
      clear e0 hd h4 h5 ha
      go_enter Tryd.func35, Tryd.ntmps35
      go_wp2
      show bodyPost _ _ _ _ _ (SH w a (n * 5) c v f)
      have hp := HP.out
      have hf := sh_fr w a (n * 5) c v f
      generalize SH w a (n * 5) c v f = W9 at hp hf ⊢
      go_ret
      exact ⟨rfl, hp, hf⟩
    · have e0 : stE S (n : Int) c v = 2 := by
        rw [stE, if_pos (by omega), if_neg (fun q => h3 ((Bool.and_eq_true _ _).mp q))]
      unfold seH
      rw [e0, if_neg (by decide)]
      by_cases c1 : c < 0
      · clear e0 hd h3
        go_enter Tryd.func35, Tryd.ntmps35
        go_wp2
        go_ret
        exact ⟨rfl, HD.out, Fr.refl _ _ _⟩
      by_cases c2 : 9 < c
      · clear e0 hd h3
        go_enter Tryd.func35, Tryd.ntmps35
        go_wp2
        go_ret
        exact ⟨rfl, HD.out, Fr.refl _ _ _⟩
      by_cases c3 : v < 0
      · clear e0 hd h3
        go_enter Tryd.func35, Tryd.ntmps35
        go_wp2
        go_ret
        exact ⟨rfl, HD.out, Fr.refl _ _ _⟩
      have c4 : 65535 < v := by
        refine Int.not_le.1 fun hv => h3 ⟨?_, ?_⟩
        · simp [isL]; omega
        · simp [okL]; omega
      clear e0 hd h3
      go_enter Tryd.func35, Tryd.ntmps35
      go_wp2
      go_ret
      exact ⟨rfl, HD.out, Fr.refl _ _ _⟩
  · have e0 : stE S s c v = 6 := by rw [stE, if_neg (by omega)]
    unfold seH
    rw [e0, if_neg (by decide)]
    have h3 : (S : Int) ≤ s := by omega
    clear e0 hd
    go_enter Tryd.func35, Tryd.ntmps35
    go_wp2
    go_ret
    exact ⟨rfl, HD.out, Fr.refl _ _ _⟩

theorem ckB_cases {S : Nat} {c s : Int} : (isL c = false ∧ ckB S c s = 2) ∨ (isL c = true ∧ ¬ (0 ≤ s ∧ s < (S : Int)) ∧ ckB S c s = 6) ∨ ∃ k n : Nat, c = k ∧ k < 10 ∧ s = n ∧ n < S ∧ ckB S c s = 0 := by
  unfold ckB ckS
  cases hi : isL c with
  | false => exact .inl ⟨rfl, rfl⟩
  | true =>
    obtain ⟨k, rfl, hk⟩ := isL_nat hi
    by_cases h1 : 0 ≤ s ∧ s < (S : Int)
    · exact .inr (.inr ⟨k, s.toNat, rfl, hk, by omega, by omega, by rw [if_pos rfl, if_pos h1]⟩)
    · exact .inr (.inl ⟨rfl, h1, by rw [if_pos rfl, if_neg h1]⟩)

set_option maxRecDepth 100000 in
set_option maxHeartbeats 1000000 in
theorem refInsert_any (q a b S : Nat) (H : List Hx) (L : List Int) (c s : Int) (w : World) (hd : Dc w q a b S H L) :
    Calls Tryd.prog 36 #[.pointer (some ⟨q, 0, none⟩), .int .i64 c, .int .i64 s] w fun e w' => e = .returned (.int .i64 (inE S L c s)) ∧ Dc w' q a b S H (inL S L c s) ∧ Fr w.heap.size (fun j => j = b) w w' := by
  obtain ⟨y0, y1⟩ := hd.cells
  have HD := Lib.hid hd
  unfold inL inE
  rcases ckB_cases (S := S) (c := c) (s := s) with ⟨h1, h2⟩ | ⟨h1, h3, h2⟩ | ⟨k, n, rfl, hk, rfl, hn, h2⟩
  · rw [h2, if_neg (by decide), if_neg (by decide)]
    by_cases c1 : c < 0
    · clear h1 h2 hd
      go_enter Tryd.func36, Tryd.ntmps36
      go_wp2
      go_ret
      exact ⟨rfl, HD.out, Fr.refl _ _ _⟩
    have c2 : 9 < c := by simp [isL] at h1; omega
    clear h1 h2 hd
    go_enter Tryd.func36, Tryd.ntmps36
    go_wp2
    go_ret
    exact ⟨rfl, HD.out, Fr.refl _ _ _⟩
  · rw [h2, if_neg (by decide), if_neg (by decide)]
    have c1 : decide (c < 0) = false := by simp [isL] at h1; rw [decide_eq_false_iff_not]; omega
    have c2 : decide (9 < c) = false := by simp [isL] at h1; rw [decide_eq_false_iff_not]; omega
    by_cases c3 : s < 0
    · clear h1 h2 hd h3
      go_enter Tryd.func36, Tryd.ntmps36
      go_wp2
      go_ret
      exact ⟨rfl, HD.out, Fr.refl _ _ _⟩
    have c4 : (S : Int) ≤ s := by omega
    clear h1 h2 hd h3
    go_enter Tryd.func36, Tryd.ntmps36
    go_wp2
    go_ret
    exact ⟨rfl, HD.out, Fr.refl _ _ _⟩
  · rw [h2, if_pos rfl, Int.toNat_natCast]
    have x0 := hd.cellL n hn
    have c1 : decide ((k : Int) < 0) = false := by rw [decide_eq_false_iff_not]; omega
    have c2 : decide ((9 : Int) < (k : Int)) = false := by rw [decide_eq_false_iff_not]; omega
    have c3 : decide ((n : Int) < 0) = false := by rw [decide_eq_false_iff_not]; omega
    have c4 : decide ((S : Int) ≤ (n : Int)) = false := by rw [decide_eq_false_iff_not]; omega
    have c5 : (n : Int) < (S : Int) := by omega
    have c6 : (0 : Int) ≤ (n : Int) := by omega
    obtain ⟨ca, ha, -⟩ := hd.fb
    have f0 := Wat.frozen_block ha n
    have HP := Lib.hid (hd.link hn (k : Int))
    by_cases h0 : 0 ≤ at_ L n
    · rw [if_pos h0, if_neg (by decide)]
      obtain ⟨x, hx⟩ : ∃ x, x = at_ L n := ⟨_, rfl⟩
      rw [← hx] at x0 h0
      clear h2 hd ha hx hn
      go_enter Tryd.func36, Tryd.ntmps36
      go_wp2
      go_ret
      exact ⟨rfl, HD.out, Fr.refl _ _ _⟩
    · rw [if_neg h0, if_pos rfl]
      obtain ⟨x, hx⟩ : ∃ x, x = at_ L n := ⟨_, rfl⟩
      rw [← hx] at x0 h0
      have hf : Hid (Fr w.heap.size (fun j => j = b) w (w.setCell ⟨b, n, none⟩ (.int .i64 (k : Int)))) := (Fr.refl w.heap.size (fun j => j = b) w).setCell (p := ⟨b, n, none⟩) (.inr rfl) _
      clear h2 hd ha hx hn
      go_enter Tryd.func36, Tryd.ntmps36
      go_wp2
      go_ret
      exact ⟨rfl, HP.out, hf.out⟩

set_option maxRecDepth 100000 in
set_option maxHeartbeats 1000000 in
theorem refRemove_any (q a b S : Nat) (H : List Hx) (L : List Int) (c s : Int) (w : World) (hd : Dc w q a b S H L) :
    Calls Tryd.prog 33 #[.pointer (some ⟨q, 0, none⟩), .int .i64 c, .int .i64 s] w fun e w' => e = .returned (.int .i64 (rmE S L c s)) ∧ Dc w' q a b S H (rmL S L c s) ∧ Fr w.heap.size (fun j => j = b) w w' := by
  obtain ⟨y0, y1⟩ := hd.cells
  have HD := Lib.hid hd
  unfold rmL rmE
  rcases ckB_cases (S := S) (c := c) (s := s) with ⟨h1, h2⟩ | ⟨h1, h3, h2⟩ | ⟨k, n, rfl, hk, rfl, hn, h2⟩
  · rw [h2, if_neg (by decide), if_neg (by decide)]
    by_cases c1 : c < 0
    · clear h1 h2 hd
      go_enter Tryd.func33, Tryd.ntmps33
      go_wp2
      go_ret
      exact ⟨rfl, HD.out, Fr.refl _ _ _⟩
    have c2 : 9 < c := by simp [isL] at h1; omega
    clear h1 h2 hd
    go_enter Tryd.func33, Tryd.ntmps33
    go_wp2
    go_ret
    exact ⟨rfl, HD.out, Fr.refl _ _ _⟩
  · rw [h2, if_neg (by decide), if_neg (by decide)]
    have c1 : decide (c < 0) = false := by simp [isL] at h1; rw [decide_eq_false_iff_not]; omega
    have c2 : decide (9 < c) = false := by simp [isL] at h1; rw [decide_eq_false_iff_not]; omega
    by_cases c3 : s < 0
    · clear h1 h2 hd h3
      go_enter Tryd.func33, Tryd.ntmps33
      go_wp2
      go_ret
      exact ⟨rfl, HD.out, Fr.refl _ _ _⟩
    have c4 : (S : Int) ≤ s := by omega
    clear h1 h2 hd h3
    go_enter Tryd.func33, Tryd.ntmps33
    go_wp2
    go_ret
    exact ⟨rfl, HD.out, Fr.refl _ _ _⟩
  · rw [h2, if_pos rfl, Int.toNat_natCast]
    have x0 := hd.cellL n hn
    have c1 : decide ((k : Int) < 0) = false := by rw [decide_eq_false_iff_not]; omega
    have c2 : decide ((9 : Int) < (k : Int)) = false := by rw [decide_eq_false_iff_not]; omega
    have c3 : decide ((n : Int) < 0) = false := by rw [decide_eq_false_iff_not]; omega
    have c4 : decide ((S : Int) ≤ (n : Int)) = false := by rw [decide_eq_false_iff_not]; omega
    have c5 : (n : Int) < (S : Int) := by omega
    have c6 : (0 : Int) ≤ (n : Int) := by omega
    obtain ⟨ca, ha, -⟩ := hd.fb
    have f0 := Wat.frozen_block ha n
    have HP := Lib.hid (hd.link hn (-1))
    by_cases h0 : at_ L n = (k : Int)
    · rw [if_pos h0, if_pos rfl]
      rw [h0] at x0
      have hf : Hid (Fr w.heap.size (fun j => j = b) w (w.setCell ⟨b, n, none⟩ (.int .i64 (-1)))) := (Fr.refl w.heap.size (fun j => j = b) w).setCell (p := ⟨b, n, none⟩) (.inr rfl) _
      clear h2 hd ha hn h0
      go_enter Tryd.func33, Tryd.ntmps33
      go_wp2
      go_ret
      exact ⟨rfl, HP.out, hf.out⟩
    · rw [if_neg h0, if_neg (by decide)]
      obtain ⟨x, hx⟩ : ∃ x, x = at_ L n := ⟨_, rfl⟩
      rw [← hx] at x0 h0
      have h0' : (x == (k : Int)) = false := by simpa using h0
      clear h2 hd ha hx hn
      go_enter Tryd.func33, Tryd.ntmps33
      go_wp2
      go_ret
      exact ⟨rfl, HD.out, Fr.refl _ _ _⟩
end Go.Proofs.YtcakoikcafiolaaDoor.Lis

namespace Go.Proofs.YtcakoikcafiolaaDoor.Lis
open Go.RowKit Num Arn
set_option linter.unusedVariables false

theorem infoSlab : (Tryd.prog.info? 37).map (fun i => (i.zero, i.size, i.bytes)) = some (some Hd.zero.agg, 5, 40) := by kernel_rfl
theorem run_make_n {P : Program} (t e : TypeId) (i : TypeInfo) (z : Value) (ht : P.underlying t = some (.slice e)) (hi : P.info? e = some i) (hz : i.zero = some z) (n : Nat) (hb : i.bytes ≤ 40) (hn : n ≤ 64) (w : World) :
    (Instr.makeSlice t (.int .i64 (n : Int)) (.int .i64 (n : Int))).run P w = .ok (.slice (some ⟨w.heap.size, 0, none⟩) n n) (w.alloc (.cells (madeCells z.cells (n * i.size)) e)) := by
  have hbb : (i.bytes : Int) * (n : Int) ≤ 281474976710656 := by
    have h : ((i.bytes * n : Nat) : Int) ≤ 281474976710656 := by
      have := Nat.mul_le_mul hb hn
      omega
    rwa [Int.natCast_mul] at h
  have hr := run_make (P := P) w t e i z ht hi hz .i64 .i64 n n (by omega) (by omega) hbb (by omega)
  simp only [Int.toNat_natCast] at hr
  exact hr
/-- The cells of n headers that say nothing. -/
def MH (n : Nat) : Array Value := madeCells Hd.zero.agg.cells (n * 5)
theorem mh_size (n : Nat) : (MH n).size = n * 5 := size_madeCells _ _
theorem mh_at (n j i : Nat) (hj : j < n) (hi : i < 5) : (MH n)[j * 5 + i]? = Hd.zero.cells[i]? := by
  have h1 : (j * 5 + i) % 5 = i := by omega
  have h2 : j * 5 + i < n * 5 := by omega
  have h3 : Hd.zero.agg.cells = Hd.zero.cells := rfl
  unfold MH madeCells
  rw [h3]
  have h4 : Hd.zero.cells.size = 5 := rfl
  simp [h2, h4, h1, hi]
theorem dc_new {n : Nat} (hn : n ≤ 64) {q a b : Nat} {w : World} (h1 : w.heap[q]? = some (.cells #[.slice (some ⟨a, 0, none⟩) n n, .slice (some ⟨b, 0, none⟩) n n] 74 (0, 0))) (h2 : w.heap[a]? = some (.cells (MH n) 37 (0, 0))) (h3 : w.heap[b]? = some (.cells (madeCells #[.int .i64 0] n) 3 (0, 0)))
    (ne : a ≠ q ∧ b ≠ q ∧ a ≠ b) : Dc w q a b n (List.replicate n (0, 0, 0)) (List.replicate n 0) := by
  refine ⟨h1, ⟨_, h2, mh_size n, fun j hj => ?_⟩, ⟨_, h3, by rw [size_madeCells], fun j hj => ?_⟩, ne, by simp, by simp, hn⟩
  · have e : (List.replicate n ((0 : Int), (0 : Int), (0 : Int))).getD j (0, 0, 0) = (0, 0, 0) := by simp [List.getD, hj]
    rw [e]
    exact ⟨mh_at n j 0 hj (by omega), mh_at n j 1 hj (by omega), mh_at n j 2 hj (by omega), mh_at n j 3 hj (by omega), mh_at n j 4 hj (by omega)⟩
  · have e : at_ (List.replicate n 0) j = 0 := by simp [at_, List.getD, hj]
    rw [e]
    simp [madeCells, hj, Nat.mod_one]

theorem three_blocks (w : World) (o1 o2 o3 : Obj) : (((w.alloc o1).alloc o2).alloc o3).drew.heap[w.heap.size]? = some o1 ∧ (((w.alloc o1).alloc o2).alloc o3).drew.heap[w.heap.size + 1]? = some o2 ∧ (((w.alloc o1).alloc o2).alloc o3).drew.heap[w.heap.size + 1 + 1]? = some o3 ∧ Below w.heap.size w (((w.alloc o1).alloc o2).alloc o3).drew := by
  have z1 : (w.alloc o1).heap.size = w.heap.size + 1 := by simp
  have z2 : ((w.alloc o1).alloc o2).heap.size = w.heap.size + 1 + 1 := by simp
  have b1 := below_made w o1
  have b2 := below_made (w.alloc o1) o2
  have b3 := below_made ((w.alloc o1).alloc o2) o3
  have n1 := heap_alloc_new w o1
  have n2 := heap_alloc_new (w.alloc o1) o2
  have n3 := heap_alloc_new ((w.alloc o1).alloc o2) o3
  rw [z1] at n2
  rw [z2] at n3
  exact ⟨(b3.block _ (by omega)).trans ((b2.block _ (by omega)).trans n1), (b3.block _ (by omega)).trans n2, n3, (b1.trans ((b2.trans (b3.mono (by omega))).mono (by omega))).drew⟩
set_option maxRecDepth 100000 in
set_option maxHeartbeats 2000000 in
theorem refBegin_any (n : Nat) (hn : n ≤ 64) (w : World) :
    Calls Tryd.prog 8 #[.int .i64 (n : Int)] w fun e w' => ∃ q a b, e = .returned (.pointer (some ⟨q, 0, none⟩)) ∧ Dc w' q a b n (List.replicate n (0, 0, 0)) (List.replicate n 0) ∧ Below w.heap.size w w' ∧ w.heap.size ≤ q ∧ w.heap.size ≤ a ∧ w.heap.size ≤ b := by
  obtain ⟨i0, hi, hz0, hz1, hz2⟩ := info_parts infoInt
  obtain ⟨i1, gi, gz0, gz1, gz2⟩ := info_parts infoSlab
  have hm0 : ∀ W : World, (Instr.makeSlice 45 (.int .i64 (n : Int)) (.int .i64 (n : Int))).run Tryd.prog W = .ok (.slice (some ⟨W.heap.size, 0, none⟩) n n) (W.alloc (.cells (madeCells #[.int .i64 0] n) 3)) := fun W => by
    have := run_make_n 45 3 i0 (.int .i64 0) Tryd.underlying45 hi hz0 n (by omega) hn W
    rw [hz1, Nat.mul_one] at this
    exact this
  have hm1 : ∀ W : World, (Instr.makeSlice 72 (.int .i64 (n : Int)) (.int .i64 (n : Int))).run Tryd.prog W = .ok (.slice (some ⟨W.heap.size, 0, none⟩) n n) (W.alloc (.cells (MH n) 37)) := fun W => by
    have := run_make_n 72 37 i1 Hd.zero.agg Tryd.underlying72 gi gz0 n (by omega) hn W
    rw [gz1] at this
    exact this
  have HDn : Hid (∀ q a b W, W.heap[q]? = some (.cells #[.slice (some ⟨a, 0, none⟩) n n, .slice (some ⟨b, 0, none⟩) n n] 74 (0, 0)) → W.heap[a]? = some (.cells (MH n) 37 (0, 0)) → W.heap[b]? = some (.cells (madeCells #[.int .i64 0] n) 3 (0, 0)) → (a ≠ q ∧ b ≠ q ∧ a ≠ b) → Dc W q a b n (List.replicate n (0, 0, 0)) (List.replicate n 0)) := fun q a b W h1 h2 h3 ne => dc_new hn h1 h2 h3 ne
  generalize madeCells #[Value.int .i64 0] n = MI at hm0 HDn
  generalize MH n = MS at hm1 HDn
  clear hi hz0 hz1 hz2 gi gz0 gz1 gz2 hn
  go_enter Tryd.func8, Tryd.ntmps8
  go_wp2_with fail
  go_region
  all_goals go_wp2
  all_goals go_ret
  · obtain ⟨t0, t1, t2, t3⟩ := three_blocks w (.cells MS 37) (.cells MI 3) (.cells #[.slice (some ⟨w.heap.size, 0, none⟩) n n, .slice (some ⟨w.heap.size + 1, 0, none⟩) n n] 74)
    exact ⟨_, _, _, rfl, HDn.out _ _ _ _ t2 t0 t1 ⟨by omega, by omega, by omega⟩, t3, by omega, by omega, by omega⟩
  · obtain ⟨t0, t1, t2, t3⟩ := three_blocks w (.cells MI 3) (.cells MS 37) (.cells #[.slice (some ⟨w.heap.size + 1, 0, none⟩) n n, .slice (some ⟨w.heap.size, 0, none⟩) n n] 74)
    exact ⟨_, _, _, rfl, HDn.out _ _ _ _ t2 t1 t0 ⟨by omega, by omega, by omega⟩, t3, by omega, by omega, by omega⟩
end Go.Proofs.YtcakoikcafiolaaDoor.Lis
