/- Acts on lists, as they come in as arguments. The document's lists: what they say, All, First, Same. Get, of the landed lists and of the document's: the same header. -/
import Derived.Test.YtjjfihoplkddfaaGreatDoorJ15
import Derived.Test.YtjjfihoplkddfaaGreatDoorJ1
import Derived.Test.YtjjfihoplkddfaaGreatDoorJ4
namespace Go.Proofs.YtjjfihoplkddfaaGreatDoor.Lis
open Go.RowKit Num Arn
set_option linter.unusedVariables false

structure Act where
  k : Int
  c : Int
  s : Int
  l : Int
  f : Int
def Act.zero : Act := ⟨0, 0, 0, 0, 0⟩
def Act.cells (x : Act) : List Value := [.int .i64 x.k, .int .i64 x.c, .int .i64 x.s, .int .i64 x.l, .int .u32 x.f]
def Act.agg (x : Act) : Value := .agg #[.int .i64 x.k, .int .i64 x.c, .int .i64 x.s, .int .i64 x.l, .int .u32 x.f]
def ActR (w : World) (cs : List Value) (x : Act) : Prop := cs = x.cells ∧ 0 ≤ x.f ∧ x.f < 4294967296
abbrev ActRow := GRow 5 ActR Act.zero

open Mem (Mm MemC MRet Hm rd blkM)
/-- A memory whose bytes say H and L. -/
structure Ls (w : World) (h : Hm) (C : Cf) (l0 : List Int) (H : List Hx) (L : List Int) (W : World) : Prop where
  ex : ∃ l, Md w h C l W ∧ Rep C.s l0 l H L
theorem Ls.below {w W W' : World} {h : Hm} {C : Cf} {l0 : List Int} {H : List Hx} {L : List Int} (d : Ls w h C l0 H L W) (hb : Below W.heap.size W W') : Ls w h C l0 H L W' := by
  obtain ⟨l, d1, d2⟩ := d
  exact ⟨l, d1.below hb, d2⟩
theorem Ls.drew {w W : World} {h : Hm} {C : Cf} {l0 : List Int} {H : List Hx} {L : List Int} (d : Ls w h C l0 H L W) : Ls w h C l0 H L W.drew := d.below (Below.refl _ _).drew
theorem Ls.b {w W : World} {h : Hm} {C : Cf} {l0 : List Int} {H : List Hx} {L : List Int} (d : Ls w h C l0 H L W) : Below w.heap.size w W := by
  obtain ⟨l, d1, d2⟩ := d
  exact d1.b
theorem Ls.k {w W : World} {h : Hm} {C : Cf} {l0 : List Int} {H : List Hx} {L : List Int} (d : Ls w h C l0 H L W) : ∀ k, blkM h k → w.heap.size ≤ k := by
  obtain ⟨l, d1, d2⟩ := d
  exact d1.k
theorem Ls.lt {w W : World} {h : Hm} {C : Cf} {l0 : List Int} {H : List Hx} {L : List Int} (d : Ls w h C l0 H L W) : ∀ k, blkM h k → k < W.heap.size := by
  obtain ⟨l, d1, d2⟩ := d
  exact d1.m.lt
theorem Ls.insert {w W : World} {h : Hm} {C : Cf} {l0 : List Int} {H : List Hx} {L : List Int} (hC : C.Ok) (d : Ls w h C l0 H L W) (c s : Int) :
    Calls Tryz.prog 87 #[.pointer (some ⟨h.g, 0, none⟩), .int .i64 c, .int .i64 s] W fun e w' => e = .returned (.int .i64 (inE C.s L c s)) ∧ Ls w h C l0 H (inL C.s L c s) w' ∧ Fr W.heap.size (blkM h) W w' := by
  obtain ⟨l, d1, d2⟩ := d
  refine (insert_any h C l0 l H L c s W hC d1.m d2).mono ?_
  rintro e w' ⟨l', hl, hr⟩
  exact ⟨hl.1, ⟨l', d1.lr hl, hr⟩, hl.2.2⟩
theorem Ls.remove {w W : World} {h : Hm} {C : Cf} {l0 : List Int} {H : List Hx} {L : List Int} (hC : C.Ok) (d : Ls w h C l0 H L W) (c s : Int) :
    Calls Tryz.prog 77 #[.pointer (some ⟨h.g, 0, none⟩), .int .i64 c, .int .i64 s] W fun e w' => e = .returned (.int .i64 (rmE C.s L c s)) ∧ Ls w h C l0 H (rmL C.s L c s) w' ∧ Fr W.heap.size (blkM h) W w' := by
  obtain ⟨l, d1, d2⟩ := d
  refine (remove_any h C l0 l H L c s W hC d1.m d2).mono ?_
  rintro e w' ⟨l', hl, hr⟩
  exact ⟨hl.1, ⟨l', d1.lr hl, hr⟩, hl.2.2⟩
def seH (S : Nat) (H : List Hx) (s c v f : Int) : List Hx := if stE S s c v = 0 then H.set s.toNat (c, v, f) else H
theorem Ls.set {w W : World} {h : Hm} {C : Cf} {l0 : List Int} {H : List Hx} {L : List Int} (hC : C.Ok) (d : Ls w h C l0 H L W) (s c v f : Int) (f0 : 0 ≤ f) (f1 : f < 4294967296) :
    Calls Tryz.prog 171 #[.pointer (some ⟨h.g, 0, none⟩), .int .i64 s, .int .i64 c, .int .i64 v, .int .u32 f] W fun e w' => e = .returned (.int .i64 (stE C.s s c v)) ∧ Ls w h C l0 (seH C.s H s c v f) L w' ∧ Fr W.heap.size (blkM h) W w' := by
  obtain ⟨l, d1, d2⟩ := d
  refine (set_any h C l s c v f W hC d1.m f0 f1).mono ?_
  rintro e w' hl
  refine ⟨hl.1, ⟨_, d1.lr hl, ?_⟩, hl.2.2⟩
  unfold stL seH
  by_cases he : stE C.s s c v = 0
  · rw [if_pos he, if_pos he]
    unfold stE at he
    by_cases h0 : 0 ≤ s ∧ s < (C.s : Int)
    · rw [if_pos h0] at he
      by_cases h1 : (isL c && okL v) = true
      · obtain ⟨q1, q2⟩ := (Bool.and_eq_true _ _).mp h1
        simp [isL] at q1
        simp [okL] at q2
        exact d2.set (by omega) (by omega) (by omega) ⟨f0, f1⟩
      · rw [if_neg h1] at he
        omega
    · rw [if_neg h0] at he
      omega
  · rw [if_neg he, if_neg he]
    exact d2
theorem Ls.all {w W : World} {h : Hm} {C : Cf} {l0 : List Int} {H : List Hx} {L : List Int} (hC : C.Ok) (d : Ls w h C l0 H L W) (c : Int) :
    Calls Tryz.prog 90 #[.pointer (some ⟨h.g, 0, none⟩), .int .i64 c] W fun e w' => ∃ u, e = .returned u ∧ Row .i64 w' u (ints (alI L c)) ∧ (∀ b, u.ownBlock = some b → W.heap.size ≤ b) ∧ Ls w h C l0 H L w' ∧ Fr W.heap.size (blkM h) W w' := by
  obtain ⟨l, d1, d2⟩ := d
  refine (all_any h C l L c W hC d1.m d2.chn).mono ?_
  rintro e w' ⟨u, hl, hr, hb⟩
  exact ⟨u, hl.1, hr, hb, ⟨l, d1.lr hl, d2⟩, hl.2.2⟩
/-- The first of a list, or -1. -/
def fiI (L : List Int) (c : Int) : Int := (headN (alI L c) : Int) - 1
theorem Ls.first {w W : World} {h : Hm} {C : Cf} {l0 : List Int} {H : List Hx} {L : List Int} (hC : C.Ok) (d : Ls w h C l0 H L W) (c : Int) :
    Calls Tryz.prog 165 #[.pointer (some ⟨h.g, 0, none⟩), .int .i64 c] W fun e w' => e = .returned (.int .i64 (fiI L c)) ∧ Ls w h C l0 H L w' ∧ Fr W.heap.size (blkM h) W w' := by
  obtain ⟨l, d1, d2⟩ := d
  have e : fsC C.s l c = fiI L c := by
    unfold fiI alI
    cases hi : isL c with
    | true =>
      obtain ⟨k, rfl, hk⟩ := isL_nat hi
      rw [fs_is d2 hk (split_nx (pre := []) (rest := allL L k 0) (s := 0) (by simp) (by simp) (by simp))]
      rfl
    | false =>
      rw [fsC, if_neg (by rw [hi]; decide)]
      rfl
  refine (first_any h C l c W hC d1.m).mono ?_
  rintro e' w' hl
  rw [e] at hl
  exact ⟨hl.1, ⟨l, d1.lr hl, d2⟩, hl.2.2⟩
theorem Ls.faults {w W : World} {h : Hm} {C : Cf} {l0 : List Int} {H : List Hx} {L : List Int} (d : Ls w h C l0 H L W) : Calls Tryz.prog 19 #[.pointer (some ⟨h.g, 0, none⟩)] W fun e w' => e = .returned (.int .i64 C.ft) ∧ Below W.heap.size W w' := by
  obtain ⟨l, d1, d2⟩ := d
  exact d1.faults
/-- Blocks of others are written. -/
theorem Ls.other {w W W' : World} {h : Hm} {C : Cf} {l0 : List Int} {H : List Hx} {L : List Int} {S : Nat → Prop} (d : Ls w h C l0 H L W) (hf : Fr W.heap.size S W W') (hS : ∀ k, S k → w.heap.size ≤ k ∧ ¬ blkM h k ∧ k ≠ 1 ∧ k ≠ 2) : Ls w h C l0 H L W' := by
  obtain ⟨l, d1, d2⟩ := d
  exact ⟨l, ⟨d1.m.stay hf (fun k q => (hS k q).2), d1.b.trans (hf.toBelow d1.b.size (fun k hk q => by have := (hS k q).1; omega)), d1.k⟩, d2⟩
theorem Ls.bytes {w W : World} {h : Hm} {C : Cf} {l0 : List Int} {H : List Hx} {L : List Int} (d : Ls w h C l0 H L W) : ∃ X, IsBytes X ∧ ∀ l, Rep C.s l0 l H L → IsBytes l → l = X := by
  obtain ⟨l, d1, d2⟩ := d
  exact ⟨l, d1.m.bytes, fun l' h1 h2 => h1.same d2 h2 d1.m.bytes⟩
end Go.Proofs.YtjjfihoplkddfaaGreatDoor.Lis

namespace Go.Proofs.YtjjfihoplkddfaaGreatDoor.Lis
open Go.RowKit Num Arn
set_option linter.unusedVariables false

end Go.Proofs.YtjjfihoplkddfaaGreatDoor.Lis

namespace Go.Proofs.YtjjfihoplkddfaaGreatDoor.Lis
open Go.RowKit Num Arn
open Mem (Mm MemC MRet Hm rd blkM)
set_option linter.unusedVariables false

/-- The neighbours that k rounds over a list find of a slab: the next one's and the one's ahead, as number plus 1. -/
def gX (A : List Nat) (s : Nat) : Nat → Nat × Nat
  | 0 => (0, 0)
  | k + 1 => if A.getD k 0 = s then (if k + 1 < A.length then A.getD (k + 1) 0 + 1 else (gX A s k).1, if 0 < k then A.getD (k - 1) 0 + 1 else (gX A s k).2) else gX A s k
theorem gX_ahead {pre rest : List Nat} {s : Nat} (h : ∀ y ∈ pre, y < s) : ∀ k, k ≤ pre.length → gX (pre ++ s :: rest) s k = (0, 0)
  | 0, _ => rfl
  | k + 1, hk => by
    have e : (pre ++ s :: rest).getD k 0 = pre[k] := by simp [List.getD, List.getElem?_append, show k < pre.length by omega]
    have := h _ (List.getElem_mem (show k < pre.length by omega))
    rw [gX, if_neg (by rw [e]; omega)]
    exact gX_ahead h k (by omega)
theorem gX_at {pre rest : List Nat} {s : Nat} (h : ∀ y ∈ pre, y < s) : gX (pre ++ s :: rest) s (pre.length + 1) = (headN rest, lastN pre) := by
  have e : (pre ++ s :: rest).getD pre.length 0 = s := by simp [List.getD]
  rw [gX, if_pos e, gX_ahead h _ (Nat.le_refl _)]
  refine Prod.ext ?_ ?_
  · cases rest with
    | nil => simp [headN]
    | cons y r =>
      simp [headN, List.getD]
  · rcases List.eq_nil_or_concat pre with rfl | ⟨p, x, rfl⟩
    · rfl
    · rw [List.concat_eq_append] at *
      rw [lastN_snoc]
      simp [List.getD]
theorem gX_behind {pre rest : List Nat} {s : Nat} (h : ∀ y ∈ pre, y < s) (h2 : ∀ y ∈ rest, s < y) : ∀ k, k ≤ rest.length → gX (pre ++ s :: rest) s (pre.length + 1 + k) = (headN rest, lastN pre)
  | 0, _ => gX_at h
  | k + 1, hk => by
    have e : (pre ++ s :: rest).getD (pre.length + 1 + k) 0 = rest[k] := by
      have : pre.length + 1 + k - pre.length = k + 1 := by omega
      simp [List.getD, List.getElem?_append, this, show k < rest.length by omega, show ¬ pre.length + 1 + k < pre.length by omega]
    have := h2 _ (List.getElem_mem (show k < rest.length by omega))
    rw [← Nat.add_assoc, gX, if_neg (by rw [e]; omega)]
    exact gX_behind h h2 k (by omega)
/-- The neighbours of a slab. -/
def nbX (L : List Int) (s : Nat) : Nat × Nat := gX (alI L (at_ L s)) s (alI L (at_ L s)).length
theorem nbX_is {L : List Int} {s : Nat} (h : -1 ≤ at_ L s ∧ at_ L s ≤ 9) : Nxe L s (nbX L s).1 ∧ Pve L s (nbX L s).2 := by
  unfold nbX
  by_cases hm : at_ L s = -1
  · have e : alI L (at_ L s) = [] := by rw [alI, if_neg (by rw [hm]; decide)]
    rw [e]
    exact ⟨.inl ⟨hm, rfl⟩, .inl ⟨hm, rfl⟩⟩
  · obtain ⟨c, hc⟩ : ∃ c : Nat, at_ L s = c := ⟨(at_ L s).toNat, by omega⟩
    have e : alI L (at_ L s) = allL L (c : Int) 0 := by rw [hc, alI, if_pos (by simp [isL]; omega)]
    rw [e]
    obtain ⟨pre, rest, hp⟩ := List.append_of_mem (mem_all.2 hc)
    have hs := all_sorted L (c : Int)
    rw [hp] at hs
    have h1 : ∀ y ∈ pre, y < s := fun y hy => (List.pairwise_append.1 hs).2.2 y hy s (by simp)
    have h2 : ∀ y ∈ rest, s < y := fun y hy => (List.pairwise_cons.1 (List.pairwise_append.1 hs).2.1).1 y hy
    have hx := gX_behind h1 h2 rest.length (Nat.le_refl _)
    rw [hp, show (pre ++ s :: rest).length = pre.length + 1 + rest.length by simp; omega, hx]
    refine ⟨.inr ⟨hm, ?_⟩, .inr ⟨hm, ?_⟩⟩
    · rw [hc]
      refine split_nx (pre := pre ++ [s]) (by rw [hp]; simp) (fun y hy => ?_) (fun y hy => by have := h2 y hy; omega)
      rcases List.mem_append.1 hy with hy | hy
      · have := h1 y hy; omega
      · simp at hy; omega
    · rw [hc]
      refine split_pv hp h1 (fun y hy => ?_)
      rcases List.mem_cons.1 hy with rfl | hy
      · omega
      · have := h2 y hy; omega
/-- The header that Get answers. -/
def gtD (S : Nat) (H : List Hx) (L : List Int) (s : Int) : Hd :=
  if 0 ≤ s ∧ s < (S : Int) then ⟨(H.getD s.toNat (0, 0, 0)).1, (H.getD s.toNat (0, 0, 0)).2.1, (H.getD s.toNat (0, 0, 0)).2.2, (nbX L s.toNat).1, (nbX L s.toNat).2⟩ else Hd.zero
theorem gtH_is {S : Nat} {l0 l : List Int} {H : List Hx} {L : List Int} (h : Rep S l0 l H L) (s : Int) : gtH S l s = gtD S H L s := by
  unfold gtH gtD
  by_cases h0 : 0 ≤ s ∧ s < (S : Int)
  · rw [if_pos h0, if_pos h0]
    obtain ⟨n, rfl⟩ : ∃ n : Nat, s = n := ⟨s.toNat, by omega⟩
    rw [Int.toNat_natCast]
    have hn : n < S := by omega
    obtain ⟨q1, q2, q3⟩ := h.head n hn
    obtain ⟨v, v1, v2⟩ := h.nxt n hn
    obtain ⟨u, u1, u2⟩ := h.prv n hn
    obtain ⟨p1, p2⟩ := nbX_is (h.cls n)
    have e1 : v = (nbX L n).1 := by
      rcases v2 with ⟨a1, rfl⟩ | ⟨a1, a2⟩ <;> rcases p1 with ⟨b1, b2⟩ | ⟨b1, b2⟩
      · exact b2.symm
      · exact absurd a1 b1
      · exact absurd b1 a1
      · exact nx_one a2 b2
    have e2 : u = (nbX L n).2 := by
      rcases u2 with ⟨a1, rfl⟩ | ⟨a1, a2⟩ <;> rcases p2 with ⟨b1, b2⟩ | ⟨b1, b2⟩
      · exact b2.symm
      · exact absurd a1 b1
      · exact absurd b1 a1
      · exact pv_one a2 b2
    rw [← e1, ← e2, ← q1, ← q2, ← q3, ← v1, ← u1]
    rfl
  · rw [if_neg h0, if_neg h0]
theorem Ls.get {w W : World} {h : Hm} {C : Cf} {l0 : List Int} {H : List Hx} {L : List Int} (hC : C.Ok) (d : Ls w h C l0 H L W) (s : Int) :
    Calls Tryz.prog 84 #[.pointer (some ⟨h.g, 0, none⟩), .int .i64 s] W fun e w' => e = .returned (.tuple #[(gtD C.s H L s).agg, .int .i64 (gtE C.s s)]) ∧ Ls w h C l0 H L w' ∧ Fr W.heap.size (blkM h) W w' := by
  obtain ⟨l, d1, d2⟩ := d
  refine (get_any h C l s W hC d1.m).mono ?_
  rintro e w' hl
  rw [gtH_is d2] at hl
  exact ⟨hl.1, ⟨l, d1.lr hl, d2⟩, hl.2.2⟩
end Go.Proofs.YtjjfihoplkddfaaGreatDoor.Lis
