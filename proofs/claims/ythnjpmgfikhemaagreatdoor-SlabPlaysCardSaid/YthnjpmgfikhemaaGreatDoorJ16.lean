/- Acts on lists, as they come in as arguments. The document's lists: what they say, All, First, Same. Get, of the landed lists and of the document's: the same header. Get of the document's lists. The document's lists: Begin, Set, Insert, Remove. Begin of the document's lists. -/
import Derived.Test.YthnjpmgfikhemaaGreatDoorJ15
import Derived.Test.YthnjpmgfikhemaaGreatDoorJ1
import Derived.Test.YthnjpmgfikhemaaGreatDoorJ4
import Derived.Laws.MakeOwn
namespace Go.Proofs.YthnjpmgfikhemaaGreatDoor.Lis
open Go.RowKit Num Arn
set_option linter.unusedVariables false

structure Act where
  k : Int
  c : Int
  s : Int
  l : Int
  f : Int
def Act.zero : Act := ⟨0, 0, 0, 0, 0⟩
def Act.cells (x : Act) : List Value := [.int .i64 x.k, .int .i64 x.c, .int .i64 x.s, .int .i64 x.l, .int .u32 x.f]
def Act.agg (x : Act) : Value := .agg #[.int .i64 x.k, .int .i64 x.c, .int .i64 x.s, .int .i64 x.l, .int .u32 x.f]
def ActR (w : World) (cs : List Value) (x : Act) : Prop := cs = x.cells ∧ 0 ≤ x.f ∧ x.f < 4294967296
abbrev ActRow := GRow 5 ActR Act.zero

open Mem (Mm MemC MRet Hm rd blkM)
/-- A memory whose bytes say H and L. -/
structure Ls (w : World) (h : Hm) (C : Cf) (l0 : List Int) (H : List Hx) (L : List Int) (W : World) : Prop where
  ex : ∃ l, Md w h C l W ∧ Rep C.s l0 l H L
theorem Ls.below {w W W' : World} {h : Hm} {C : Cf} {l0 : List Int} {H : List Hx} {L : List Int} (d : Ls w h C l0 H L W) (hb : Below W.heap.size W W') : Ls w h C l0 H L W' := by
  obtain ⟨l, d1, d2⟩ := d
  exact ⟨l, d1.below hb, d2⟩
theorem Ls.drew {w W : World} {h : Hm} {C : Cf} {l0 : List Int} {H : List Hx} {L : List Int} (d : Ls w h C l0 H L W) : Ls w h C l0 H L W.drew := d.below (Below.refl _ _).drew
theorem Ls.b {w W : World} {h : Hm} {C : Cf} {l0 : List Int} {H : List Hx} {L : List Int} (d : Ls w h C l0 H L W) : Below w.heap.size w W := by
  obtain ⟨l, d1, d2⟩ := d
  exact d1.b
theorem Ls.k {w W : World} {h : Hm} {C : Cf} {l0 : List Int} {H : List Hx} {L : List Int} (d : Ls w h C l0 H L W) : ∀ k, blkM h k → w.heap.size ≤ k := by
  obtain ⟨l, d1, d2⟩ := d
  exact d1.k
theorem Ls.lt {w W : World} {h : Hm} {C : Cf} {l0 : List Int} {H : List Hx} {L : List Int} (d : Ls w h C l0 H L W) : ∀ k, blkM h k → k < W.heap.size := by
  obtain ⟨l, d1, d2⟩ := d
  exact d1.m.lt
theorem Ls.insert {w W : World} {h : Hm} {C : Cf} {l0 : List Int} {H : List Hx} {L : List Int} (hC : C.Ok) (d : Ls w h C l0 H L W) (c s : Int) :
    Calls Tryz.prog 47 #[.pointer (some ⟨h.g, 0, none⟩), .int .i64 c, .int .i64 s] W fun e w' => e = .returned (.int .i64 (inE C.s L c s)) ∧ Ls w h C l0 H (inL C.s L c s) w' ∧ Fr W.heap.size (blkM h) W w' := by
  obtain ⟨l, d1, d2⟩ := d
  refine (insert_any h C l0 l H L c s W hC d1.m d2).mono ?_
  rintro e w' ⟨l', hl, hr⟩
  exact ⟨hl.1, ⟨l', d1.lr hl, hr⟩, hl.2.2⟩
theorem Ls.remove {w W : World} {h : Hm} {C : Cf} {l0 : List Int} {H : List Hx} {L : List Int} (hC : C.Ok) (d : Ls w h C l0 H L W) (c s : Int) :
    Calls Tryz.prog 37 #[.pointer (some ⟨h.g, 0, none⟩), .int .i64 c, .int .i64 s] W fun e w' => e = .returned (.int .i64 (rmE C.s L c s)) ∧ Ls w h C l0 H (rmL C.s L c s) w' ∧ Fr W.heap.size (blkM h) W w' := by
  obtain ⟨l, d1, d2⟩ := d
  refine (remove_any h C l0 l H L c s W hC d1.m d2).mono ?_
  rintro e w' ⟨l', hl, hr⟩
  exact ⟨hl.1, ⟨l', d1.lr hl, hr⟩, hl.2.2⟩
def seH (S : Nat) (H : List Hx) (s c v f : Int) : List Hx := if stE S s c v = 0 then H.set s.toNat (c, v, f) else H
theorem Ls.set {w W : World} {h : Hm} {C : Cf} {l0 : List Int} {H : List Hx} {L : List Int} (hC : C.Ok) (d : Ls w h C l0 H L W) (s c v f : Int) (f0 : 0 ≤ f) (f1 : f < 4294967296) :
    Calls Tryz.prog 85 #[.pointer (some ⟨h.g, 0, none⟩), .int .i64 s, .int .i64 c, .int .i64 v, .int .u32 f] W fun e w' => e = .returned (.int .i64 (stE C.s s c v)) ∧ Ls w h C l0 (seH C.s H s c v f) L w' ∧ Fr W.heap.size (blkM h) W w' := by
  obtain ⟨l, d1, d2⟩ := d
  refine (set_any h C l s c v f W hC d1.m f0 f1).mono ?_
  rintro e w' hl
  refine ⟨hl.1, ⟨_, d1.lr hl, ?_⟩, hl.2.2⟩
  unfold stL seH
  by_cases he : stE C.s s c v = 0
  · rw [if_pos he, if_pos he]
    unfold stE at he
    by_cases h0 : 0 ≤ s ∧ s < (C.s : Int)
    · rw [if_pos h0] at he
      by_cases h1 : (isL c && okL v) = true
      · obtain ⟨q1, q2⟩ := (Bool.and_eq_true _ _).mp h1
        simp [isL] at q1
        simp [okL] at q2
        exact d2.set (by omega) (by omega) (by omega) ⟨f0, f1⟩
      · rw [if_neg h1] at he
        omega
    · rw [if_neg h0] at he
      omega
  · rw [if_neg he, if_neg he]
    exact d2
theorem Ls.all {w W : World} {h : Hm} {C : Cf} {l0 : List Int} {H : List Hx} {L : List Int} (hC : C.Ok) (d : Ls w h C l0 H L W) (c : Int) :
    Calls Tryz.prog 50 #[.pointer (some ⟨h.g, 0, none⟩), .int .i64 c] W fun e w' => ∃ u, e = .returned u ∧ Row .i64 w' u (ints (alI L c)) ∧ (∀ b, u.ownBlock = some b → W.heap.size ≤ b) ∧ Ls w h C l0 H L w' ∧ Fr W.heap.size (blkM h) W w' := by
  obtain ⟨l, d1, d2⟩ := d
  refine (all_any h C l L c W hC d1.m d2.chn).mono ?_
  rintro e w' ⟨u, hl, hr, hb⟩
  exact ⟨u, hl.1, hr, hb, ⟨l, d1.lr hl, d2⟩, hl.2.2⟩
/-- The first of a list, or -1. -/
def fiI (L : List Int) (c : Int) : Int := (headN (alI L c) : Int) - 1
theorem Ls.first {w W : World} {h : Hm} {C : Cf} {l0 : List Int} {H : List Hx} {L : List Int} (hC : C.Ok) (d : Ls w h C l0 H L W) (c : Int) :
    Calls Tryz.prog 78 #[.pointer (some ⟨h.g, 0, none⟩), .int .i64 c] W fun e w' => e = .returned (.int .i64 (fiI L c)) ∧ Ls w h C l0 H L w' ∧ Fr W.heap.size (blkM h) W w' := by
  obtain ⟨l, d1, d2⟩ := d
  have e : fsC C.s l c = fiI L c := by
    unfold fiI alI
    cases hi : isL c with
    | true =>
      obtain ⟨k, rfl, hk⟩ := isL_nat hi
      rw [fs_is d2 hk (split_nx (pre := []) (rest := allL L k 0) (s := 0) (by simp) (by simp) (by simp))]
      rfl
    | false =>
      rw [fsC, if_neg (by rw [hi]; decide)]
      rfl
  refine (first_any h C l c W hC d1.m).mono ?_
  rintro e' w' hl
  rw [e] at hl
  exact ⟨hl.1, ⟨l, d1.lr hl, d2⟩, hl.2.2⟩
theorem Ls.faults {w W : World} {h : Hm} {C : Cf} {l0 : List Int} {H : List Hx} {L : List Int} (d : Ls w h C l0 H L W) : Calls Tryz.prog 15 #[.pointer (some ⟨h.g, 0, none⟩)] W fun e w' => e = .returned (.int .i64 C.ft) ∧ Below W.heap.size W w' := by
  obtain ⟨l, d1, d2⟩ := d
  exact d1.faults
/-- Blocks of others are written. -/
theorem Ls.other {w W W' : World} {h : Hm} {C : Cf} {l0 : List Int} {H : List Hx} {L : List Int} {S : Nat → Prop} (d : Ls w h C l0 H L W) (hf : Fr W.heap.size S W W') (hS : ∀ k, S k → w.heap.size ≤ k ∧ ¬ blkM h k ∧ k ≠ 0 ∧ k ≠ 1) : Ls w h C l0 H L W' := by
  obtain ⟨l, d1, d2⟩ := d
  exact ⟨l, ⟨d1.m.stay hf (fun k q => (hS k q).2), d1.b.trans (hf.toBelow d1.b.size (fun k hk q => by have := (hS k q).1; omega)), d1.k⟩, d2⟩
theorem Ls.bytes {w W : World} {h : Hm} {C : Cf} {l0 : List Int} {H : List Hx} {L : List Int} (d : Ls w h C l0 H L W) : ∃ X, IsBytes X ∧ ∀ l, Rep C.s l0 l H L → IsBytes l → l = X := by
  obtain ⟨l, d1, d2⟩ := d
  exact ⟨l, d1.m.bytes, fun l' h1 h2 => h1.same d2 h2 d1.m.bytes⟩
end Go.Proofs.YthnjpmgfikhemaaGreatDoor.Lis

namespace Go.Proofs.YthnjpmgfikhemaaGreatDoor.Lis
open Go.RowKit Num Arn
set_option linter.unusedVariables false

set_option maxRecDepth 100000 in
theorem refSame_any (u v : Value) (B : List Int) (w : World) (hu : Row .i64 w u B) (hv : Row .i64 w v B) :
    Calls Tryz.prog 16 #[u, v] w fun e w' => e = .returned (.bool true) ∧ Below w.heap.size w w' := by
  have HU := Lib.hid hu
  have HV := Lib.hid hv
  obtain ⟨a1, c1, rfl, g1, h1, -, -⟩ := hu
  obtain ⟨a2, c2, rfl, g2, h2, -, -⟩ := hv
  have h3 : B.length ≤ 9223372036854775807 := by omega
  clear g1 g2 h1 h2
  go_enter Tryz.func16, Tryz.ntmps16
  go_wp2_with fail
  go_loopw [5] (fun i wr => ∃ k : Nat, k ≤ B.length ∧ i = .int .i64 k ∧ Hid (Below w.heap.size w wr)) (fun i _ => B.length - (intOf i).toNat)
  case atStart => exact ⟨0, Nat.zero_le _, rfl, Below.refl _ _⟩
  case round =>
    obtain ⟨k, hk, rfl, HB⟩ := hrel
    by_cases hlt : k < B.length
    · have hlt1 : (k : Int) < (B.length : Int) := by omega
      have hlt2 : (0 : Int) ≤ (k : Int) := by omega
      obtain ⟨a1', c1', e1, -, -, -, r1⟩ := HU.out.mono HB.out (Nat.le_refl _)
      obtain ⟨a2', c2', e2, -, -, -, r2⟩ := HV.out.mono HB.out (Nat.le_refl _)
      injection e1 with e1 e1' e1''
      injection e2 with e2 e2' e2''
      subst e1 e2
      clear e1' e1'' e2' e2''
      obtain ⟨b1, o1, rfl, l1, k1⟩ := r1 (by rintro rfl; simp at hlt)
      obtain ⟨b2, o2, rfl, l2, k2⟩ := r2 (by rintro rfl; simp at hlt)
      have z1 := k1 k hlt
      have z2 := k2 k hlt
      clear k1 k2 r1 r2
      go_wp2_with fail
      go_quiet (fail)
      have HB2 : Hid (Below w.heap.size w (wr.drewN nq)) := below_drewN HB.out nq
      go_wp2
      go_roundw
      case rel => exact ⟨k + 1, by omega, by go_num, HB2⟩
      case measure => simp [intOf]; omega
    · obtain rfl : k = B.length := by omega
      go_wp2
      go_ret
      exact ⟨rfl, HB.out⟩
end Go.Proofs.YthnjpmgfikhemaaGreatDoor.Lis

namespace Go.Proofs.YthnjpmgfikhemaaGreatDoor.Lis
open Go.RowKit Num Arn
open Mem (Mm MemC MRet Hm rd blkM)
set_option linter.unusedVariables false

/-- The neighbours that k rounds over a list find of a slab: the next one's and the one's ahead, as number plus 1. -/
def gX (A : List Nat) (s : Nat) : Nat → Nat × Nat
  | 0 => (0, 0)
  | k + 1 => if A.getD k 0 = s then (if k + 1 < A.length then A.getD (k + 1) 0 + 1 else (gX A s k).1, if 0 < k then A.getD (k - 1) 0 + 1 else (gX A s k).2) else gX A s k
theorem gX_ahead {pre rest : List Nat} {s : Nat} (h : ∀ y ∈ pre, y < s) : ∀ k, k ≤ pre.length → gX (pre ++ s :: rest) s k = (0, 0)
  | 0, _ => rfl
  | k + 1, hk => by
    have e : (pre ++ s :: rest).getD k 0 = pre[k] := by simp [List.getD, List.getElem?_append, show k < pre.length by omega]
    have := h _ (List.getElem_mem (show k < pre.length by omega))
    rw [gX, if_neg (by rw [e]; omega)]
    exact gX_ahead h k (by omega)
theorem gX_at {pre rest : List Nat} {s : Nat} (h : ∀ y ∈ pre, y < s) : gX (pre ++ s :: rest) s (pre.length + 1) = (headN rest, lastN pre) := by
  have e : (pre ++ s :: rest).getD pre.length 0 = s := by simp [List.getD]
  rw [gX, if_pos e, gX_ahead h _ (Nat.le_refl _)]
  refine Prod.ext ?_ ?_
  · cases rest with
    | nil => simp [headN]
    | cons y r =>
      simp [headN, List.getD]
  · rcases List.eq_nil_or_concat pre with rfl | ⟨p, x, rfl⟩
    · rfl
    · rw [List.concat_eq_append] at *
      rw [lastN_snoc]
      simp [List.getD]
theorem gX_behind {pre rest : List Nat} {s : Nat} (h : ∀ y ∈ pre, y < s) (h2 : ∀ y ∈ rest, s < y) : ∀ k, k ≤ rest.length → gX (pre ++ s :: rest) s (pre.length + 1 + k) = (headN rest, lastN pre)
  | 0, _ => gX_at h
  | k + 1, hk => by
    have e : (pre ++ s :: rest).getD (pre.length + 1 + k) 0 = rest[k] := by
      have : pre.length + 1 + k - pre.length = k + 1 := by omega
      simp [List.getD, List.getElem?_append, this, show k < rest.length by omega, show ¬ pre.length + 1 + k < pre.length by omega]
    have := h2 _ (List.getElem_mem (show k < rest.length by omega))
    rw [← Nat.add_assoc, gX, if_neg (by rw [e]; omega)]
    exact gX_behind h h2 k (by omega)
/-- The neighbours of a slab. -/
def nbX (L : List Int) (s : Nat) : Nat × Nat := gX (alI L (at_ L s)) s (alI L (at_ L s)).length
theorem nbX_is {L : List Int} {s : Nat} (h : -1 ≤ at_ L s ∧ at_ L s ≤ 9) : Nxe L s (nbX L s).1 ∧ Pve L s (nbX L s).2 := by
  unfold nbX
  by_cases hm : at_ L s = -1
  · have e : alI L (at_ L s) = [] := by rw [alI, if_neg (by rw [hm]; decide)]
    rw [e]
    exact ⟨.inl ⟨hm, rfl⟩, .inl ⟨hm, rfl⟩⟩
  · obtain ⟨c, hc⟩ : ∃ c : Nat, at_ L s = c := ⟨(at_ L s).toNat, by omega⟩
    have e : alI L (at_ L s) = allL L (c : Int) 0 := by rw [hc, alI, if_pos (by simp [isL]; omega)]
    rw [e]
    obtain ⟨pre, rest, hp⟩ := List.append_of_mem (mem_all.2 hc)
    have hs := all_sorted L (c : Int)
    rw [hp] at hs
    have h1 : ∀ y ∈ pre, y < s := fun y hy => (List.pairwise_append.1 hs).2.2 y hy s (by simp)
    have h2 : ∀ y ∈ rest, s < y := fun y hy => (List.pairwise_cons.1 (List.pairwise_append.1 hs).2.1).1 y hy
    have hx := gX_behind h1 h2 rest.length (Nat.le_refl _)
    rw [hp, show (pre ++ s :: rest).length = pre.length + 1 + rest.length by simp; omega, hx]
    refine ⟨.inr ⟨hm, ?_⟩, .inr ⟨hm, ?_⟩⟩
    · rw [hc]
      refine split_nx (pre := pre ++ [s]) (by rw [hp]; simp) (fun y hy => ?_) (fun y hy => by have := h2 y hy; omega)
      rcases List.mem_append.1 hy with hy | hy
      · have := h1 y hy; omega
      · simp at hy; omega
    · rw [hc]
      refine split_pv hp h1 (fun y hy => ?_)
      rcases List.mem_cons.1 hy with rfl | hy
      · omega
      · have := h2 y hy; omega
/-- The header that Get answers. -/
def gtD (S : Nat) (H : List Hx) (L : List Int) (s : Int) : Hd :=
  if 0 ≤ s ∧ s < (S : Int) then ⟨(H.getD s.toNat (0, 0, 0)).1, (H.getD s.toNat (0, 0, 0)).2.1, (H.getD s.toNat (0, 0, 0)).2.2, (nbX L s.toNat).1, (nbX L s.toNat).2⟩ else Hd.zero
theorem gtH_is {S : Nat} {l0 l : List Int} {H : List Hx} {L : List Int} (h : Rep S l0 l H L) (s : Int) : gtH S l s = gtD S H L s := by
  unfold gtH gtD
  by_cases h0 : 0 ≤ s ∧ s < (S : Int)
  · rw [if_pos h0, if_pos h0]
    obtain ⟨n, rfl⟩ : ∃ n : Nat, s = n := ⟨s.toNat, by omega⟩
    rw [Int.toNat_natCast]
    have hn : n < S := by omega
    obtain ⟨q1, q2, q3⟩ := h.head n hn
    obtain ⟨v, v1, v2⟩ := h.nxt n hn
    obtain ⟨u, u1, u2⟩ := h.prv n hn
    obtain ⟨p1, p2⟩ := nbX_is (h.cls n)
    have e1 : v = (nbX L n).1 := by
      rcases v2 with ⟨a1, rfl⟩ | ⟨a1, a2⟩ <;> rcases p1 with ⟨b1, b2⟩ | ⟨b1, b2⟩
      · exact b2.symm
      · exact absurd a1 b1
      · exact absurd b1 a1
      · exact nx_one a2 b2
    have e2 : u = (nbX L n).2 := by
      rcases u2 with ⟨a1, rfl⟩ | ⟨a1, a2⟩ <;> rcases p2 with ⟨b1, b2⟩ | ⟨b1, b2⟩
      · exact b2.symm
      · exact absurd a1 b1
      · exact absurd b1 a1
      · exact pv_one a2 b2
    rw [← e1, ← e2, ← q1, ← q2, ← q3, ← v1, ← u1]
    rfl
  · rw [if_neg h0, if_neg h0]
theorem Ls.get {w W : World} {h : Hm} {C : Cf} {l0 : List Int} {H : List Hx} {L : List Int} (hC : C.Ok) (d : Ls w h C l0 H L W) (s : Int) :
    Calls Tryz.prog 44 #[.pointer (some ⟨h.g, 0, none⟩), .int .i64 s] W fun e w' => e = .returned (.tuple #[(gtD C.s H L s).agg, .int .i64 (gtE C.s s)]) ∧ Ls w h C l0 H L w' ∧ Fr W.heap.size (blkM h) W w' := by
  obtain ⟨l, d1, d2⟩ := d
  refine (get_any h C l s W hC d1.m).mono ?_
  rintro e w' hl
  rw [gtH_is d2] at hl
  exact ⟨hl.1, ⟨l, d1.lr hl, d2⟩, hl.2.2⟩
end Go.Proofs.YthnjpmgfikhemaaGreatDoor.Lis

namespace Go.Proofs.YthnjpmgfikhemaaGreatDoor.Lis
open Go.RowKit Num Arn
open Mem (Mm MemC MRet Hm rd blkM)
set_option linter.unusedVariables false

end Go.Proofs.YthnjpmgfikhemaaGreatDoor.Lis

namespace Go.Proofs.YthnjpmgfikhemaaGreatDoor.Lis
open Go.RowKit Num Arn
open Mem (Mm MemC MRet Hm rd blkM)
set_option linter.unusedVariables false

/-! ### Five cells of an array -/
end Go.Proofs.YthnjpmgfikhemaaGreatDoor.Lis

namespace Go.Proofs.YthnjpmgfikhemaaGreatDoor.Lis
open Go.RowKit Num Arn
set_option linter.unusedVariables false

theorem three_blocks (w : World) (o1 o2 o3 : Obj) : (((w.alloc o1).alloc o2).alloc o3).drew.heap[w.heap.size]? = some o1 ∧ (((w.alloc o1).alloc o2).alloc o3).drew.heap[w.heap.size + 1]? = some o2 ∧ (((w.alloc o1).alloc o2).alloc o3).drew.heap[w.heap.size + 1 + 1]? = some o3 ∧ Below w.heap.size w (((w.alloc o1).alloc o2).alloc o3).drew := by
  have z1 : (w.alloc o1).heap.size = w.heap.size + 1 := by simp
  have z2 : ((w.alloc o1).alloc o2).heap.size = w.heap.size + 1 + 1 := by simp
  have b1 := below_made w o1
  have b2 := below_made (w.alloc o1) o2
  have b3 := below_made ((w.alloc o1).alloc o2) o3
  have n1 := heap_alloc_new w o1
  have n2 := heap_alloc_new (w.alloc o1) o2
  have n3 := heap_alloc_new ((w.alloc o1).alloc o2) o3
  rw [z1] at n2
  rw [z2] at n3
  exact ⟨(b3.block _ (by omega)).trans ((b2.block _ (by omega)).trans n1), (b3.block _ (by omega)).trans n2, n3, (b1.trans ((b2.trans (b3.mono (by omega))).mono (by omega))).drew⟩
end Go.Proofs.YthnjpmgfikhemaaGreatDoor.Lis
