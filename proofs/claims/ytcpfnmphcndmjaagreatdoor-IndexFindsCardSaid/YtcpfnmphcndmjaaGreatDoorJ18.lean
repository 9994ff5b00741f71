/- Plain mathematics of rings: links that go round through a list of entries; what becomes of them. Plain mathematics of entries in a ring: their heads' bytes, the root's words, what a store does to them. Entries in a memory of slabs: what is loaded and stored, the words of the root. -/
import Derived.Test.YtcpfnmphcndmjaaGreatDoorJ1
import Derived.Test.YtcpfnmphcndmjaaGreatDoorJ17
import Derived.Test.YtcpfnmphcndmjaaGreatDoorJ14
namespace Go.Proofs.YtcpfnmphcndmjaaGreatDoor.Rin
set_option linter.unusedVariables false

/-- The place behind one, and the one ahead. -/
def sc (n i : Nat) : Nat := if i + 1 = n then 0 else i + 1
def pd (n i : Nat) : Nat := if i = 0 then n - 1 else i - 1
def up (f : Nat → Nat) (a v : Nat) : Nat → Nat := fun x => if x = a then v else f x
theorem up_same (f : Nat → Nat) (a v : Nat) : up f a v a = v := if_pos rfl
theorem up_other (f : Nat → Nat) {a v x : Nat} (h : x ≠ a) : up f a v x = f x := if_neg h
theorem sc_lt {n i : Nat} (h : i < n) : sc n i < n := by unfold sc; split <;> omega
theorem pd_lt {n i : Nat} (h : i < n) : pd n i < n := by unfold pd; split <;> omega
theorem get_in {L : List Nat} {i : Nat} (h : i < L.length) : L.getD i 0 ∈ L := by
  rw [List.getD, List.getElem?_eq_getElem h, Option.getD_some]
  exact List.getElem_mem h
theorem nd_inj {L : List Nat} (h : L.Nodup) {i j : Nat} (hi : i < L.length) (hj : j < L.length) (e : L[i] = L[j]) : i = j := by
  rw [List.nodup_iff_pairwise_ne, List.pairwise_iff_getElem] at h
  rcases Nat.lt_trichotomy i j with q | q | q
  · exact absurd e (h i j hi hj q)
  · exact q
  · exact absurd e.symm (h j i hj hi q)
theorem nd_one (a : Nat) : [a].Nodup := by simp
theorem get_inj {L : List Nat} (h : L.Nodup) {i j : Nat} (hi : i < L.length) (hj : j < L.length) (e : L.getD i 0 = L.getD j 0) : i = j := by
  rw [List.getD, List.getD, List.getElem?_eq_getElem hi, List.getElem?_eq_getElem hj, Option.getD_some, Option.getD_some] at e
  exact nd_inj h hi hj e
/-- The links go round through a list. -/
structure Cy (nx pv : Nat → Nat) (L : List Nat) : Prop where
  nd : L.Nodup
  n : ∀ i, i < L.length → nx (L.getD i 0) = L.getD (sc L.length i) 0
  p : ∀ i, i < L.length → pv (L.getD i 0) = L.getD (pd L.length i) 0
theorem Cy.nil (nx pv : Nat → Nat) : Cy nx pv [] := ⟨List.nodup_nil, fun i h => absurd h (Nat.not_lt_zero _), fun i h => absurd h (Nat.not_lt_zero _)⟩
/-! ### One is inserted, ahead of the first -/
theorem snoc_get (L : List Nat) (a i : Nat) : (L ++ [a]).getD i 0 = if i < L.length then L.getD i 0 else if i = L.length then a else 0 := by
  unfold List.getD
  rw [List.getElem?_append]
  split
  · rfl
  · split
    · rename_i h1 h2; subst h2; simp
    · rename_i h1 h2
      rw [List.getElem?_eq_none (by simp; omega)]
      rfl
theorem Cy.one (nx pv : Nat → Nat) (a : Nat) : Cy (up nx a a) (up pv a a) [a] := by
  refine ⟨nd_one _, fun i hi => ?_, fun i hi => ?_⟩
  · obtain rfl : i = 0 := by simp at hi; exact hi
    exact up_same _ _ _
  · obtain rfl : i = 0 := by simp at hi; exact hi
    exact up_same _ _ _
theorem Cy.insert {nx pv : Nat → Nat} {L : List Nat} {a b c : Nat} (h : Cy nx pv L) (ha : a ∉ L) (hL : L ≠ []) (hc : L.getD 0 0 = c) (hb : pv c = b) :
    Cy (up (up nx a c) b a) (up (up pv a b) c a) (L ++ [a]) := by
  have hp : 0 < L.length := List.length_pos_iff.2 hL
  have hbl : b = L.getD (L.length - 1) 0 := by
    rw [← hb, ← hc, h.p 0 hp]
    rfl
  have hne : ∀ i, i < L.length → L.getD i 0 ≠ a := fun i hi e => ha (e ▸ get_in hi)
  refine ⟨List.nodup_append.2 ⟨h.nd, nd_one _, fun x hx y hy e => by rw [List.mem_singleton] at hy; subst hy; subst e; exact ha hx⟩, fun i hi => ?_, fun i hi => ?_⟩
  · rw [List.length_append, List.length_singleton] at hi ⊢
    rw [snoc_get, snoc_get]
    by_cases h1 : i < L.length
    · rw [if_pos h1]
      by_cases h2 : i + 1 = L.length
      · have e : L.getD i 0 = b := by rw [hbl]; congr 1; omega
        rw [e, up_same, show sc (L.length + 1) i = L.length by unfold sc; rw [if_neg (by omega)]; exact h2, if_neg (Nat.lt_irrefl _), if_pos rfl]
      · have e : L.getD i 0 ≠ b := fun q => by
          rw [hbl] at q
          have := get_inj h.nd h1 (by omega) q
          omega
        rw [up_other _ e, up_other _ (hne i h1), h.n i h1, show sc (L.length + 1) i = i + 1 by unfold sc; rw [if_neg (by omega)], if_pos (by omega), show sc L.length i = i + 1 by unfold sc; rw [if_neg h2]]
    · obtain rfl : i = L.length := by omega
      have e : a ≠ b := fun q => by rw [hbl] at q; exact hne _ (by omega) q.symm
      rw [if_neg h1, if_pos rfl, up_other _ e, up_same, show sc (L.length + 1) L.length = 0 by unfold sc; rw [if_pos rfl], if_pos hp, hc]
  · rw [List.length_append, List.length_singleton] at hi ⊢
    rw [snoc_get, snoc_get]
    by_cases h1 : i < L.length
    · rw [if_pos h1]
      by_cases h2 : i = 0
      · subst h2
        rw [hc, up_same, show pd (L.length + 1) 0 = L.length from rfl, if_neg (Nat.lt_irrefl _), if_pos rfl]
      · have e : L.getD i 0 ≠ c := fun q => by
          rw [← hc] at q
          have := get_inj h.nd h1 hp q
          omega
        rw [up_other _ e, up_other _ (hne i h1), h.p i h1, show pd (L.length + 1) i = i - 1 by unfold pd; rw [if_neg h2], if_pos (by omega), show pd L.length i = i - 1 by unfold pd; rw [if_neg h2]]
    · obtain rfl : i = L.length := by omega
      have e : a ≠ c := fun q => by rw [← hc] at q; exact hne 0 hp q.symm
      rw [if_neg h1, if_pos rfl, up_other _ e, up_same, show pd (L.length + 1) L.length = L.length - 1 by unfold pd; rw [if_neg (by omega)], if_pos (by omega), hbl]

/-! ### One is taken out -/
def ix (k i : Nat) : Nat := if i < k then i else i + 1
theorem del_get (L : List Nat) (k i : Nat) : (L.eraseIdx k).getD i 0 = L.getD (ix k i) 0 := by
  unfold List.getD ix
  rw [List.getElem?_eraseIdx]
  split <;> rfl
theorem ix_lt {n k i : Nat} (hk : k < n) (h : i < n - 1) : ix k i < n ∧ ix k i ≠ k := by unfold ix; split <;> omega
theorem ix_sc {n k i : Nat} (hk : k < n) (h : i < n - 1) : ix k (sc (n - 1) i) = if ix k i = pd n k then sc n k else sc n (ix k i) := by
  unfold ix sc pd
  repeat' split
  all_goals omega
theorem ix_pd {n k i : Nat} (hk : k < n) (h : i < n - 1) : ix k (pd (n - 1) i) = if ix k i = sc n k then pd n k else pd n (ix k i) := by
  unfold ix sc pd
  repeat' split
  all_goals omega
theorem del_len {L : List Nat} {k : Nat} (hk : k < L.length) : (L.eraseIdx k).length = L.length - 1 := by rw [List.length_eraseIdx, if_pos hk]
theorem Cy.remove {nx pv : Nat → Nat} {L : List Nat} {k a n p : Nat} (h : Cy nx pv L) (hk : k < L.length) (ha : L.getD k 0 = a) (hn : nx a = n) (hp : pv a = p) :
    Cy (up (up nx p n) a 0) (up (up pv n p) a 0) (L.eraseIdx k) := by
  have hnn : n = L.getD (sc L.length k) 0 := by rw [← hn, ← ha, h.n k hk]
  have hpp : p = L.getD (pd L.length k) 0 := by rw [← hp, ← ha, h.p k hk]
  have inj := fun {i j : Nat} (hi : i < L.length) (hj : j < L.length) (e : L.getD i 0 = L.getD j 0) => get_inj h.nd hi hj e
  refine ⟨h.nd.sublist (List.eraseIdx_sublist _ _), fun i hi => ?_, fun i hi => ?_⟩
  · rw [del_len hk] at hi ⊢
    obtain ⟨hj, hjk⟩ := ix_lt hk hi
    have hja : L.getD (ix k i) 0 ≠ a := fun e => hjk (inj hj hk (e.trans ha.symm))
    rw [del_get, del_get, up_other _ hja, ix_sc hk hi]
    by_cases hjp : ix k i = pd L.length k
    · rw [if_pos hjp, show L.getD (ix k i) 0 = p by rw [hjp, hpp], up_same, hnn]
    · have e : L.getD (ix k i) 0 ≠ p := fun q => hjp (inj hj (pd_lt hk) (q.trans hpp))
      rw [if_neg hjp, up_other _ e, h.n _ hj]
  · rw [del_len hk] at hi ⊢
    obtain ⟨hj, hjk⟩ := ix_lt hk hi
    have hja : L.getD (ix k i) 0 ≠ a := fun e => hjk (inj hj hk (e.trans ha.symm))
    rw [del_get, del_get, up_other _ hja, ix_pd hk hi]
    by_cases hjp : ix k i = sc L.length k
    · rw [if_pos hjp, show L.getD (ix k i) 0 = n by rw [hjp, hnn], up_same, hpp]
    · have e : L.getD (ix k i) 0 ≠ n := fun q => hjp (inj hj (sc_lt hk) (q.trans hnn))
      rw [if_neg hjp, up_other _ e, h.p _ hj]

/-! ### The first one is put last -/
/-! ### One lies elsewhere -/
theorem set_get (L : List Nat) (k v i : Nat) (hk : k < L.length) : (L.set k v).getD i 0 = if i = k then v else L.getD i 0 := by
  unfold List.getD
  rw [List.getElem?_set]
  by_cases e : k = i
  · subst e
    rw [if_pos rfl, if_pos rfl, if_pos hk]
    rfl
  · rw [if_neg e, if_neg (Ne.symm e)]
theorem set_nd {L : List Nat} (h : L.Nodup) {k v : Nat} (hk : k < L.length) (hv : v ∉ L) : (L.set k v).Nodup := by
  rw [List.nodup_iff_pairwise_ne, List.pairwise_iff_getElem]
  intro i j hi hj hij e
  rw [List.length_set] at hi hj
  rw [List.getElem_set, List.getElem_set] at e
  split at e
  · split at e
    · omega
    · exact hv (e ▸ List.getElem_mem hj)
  · split at e
    · exact hv (e.symm ▸ List.getElem_mem hi)
    · have := nd_inj h hi hj e
      omega
/-- What names the one at a place names the other one. -/
def mv (f t v : Nat) : Nat := if v = f then t else v
theorem Cy.move {nx pv nx' pv' : Nat → Nat} {L : List Nat} {k f t : Nat} (h : Cy nx pv L) (hk : k < L.length) (hf : L.getD k 0 = f) (ht : t ∉ L)
    (n1 : nx' t = mv f t (nx f)) (p1 : pv' t = mv f t (pv f)) (n2 : ∀ x ∈ L, x ≠ f → nx' x = mv f t (nx x)) (p2 : ∀ x ∈ L, x ≠ f → pv' x = mv f t (pv x)) : Cy nx' pv' (L.set k t) := by
  have inj := fun {i j : Nat} (hi : i < L.length) (hj : j < L.length) (e : L.getD i 0 = L.getD j 0) => get_inj h.nd hi hj e
  have key : ∀ j, j < L.length → (L.set k t).getD j 0 = mv f t (L.getD j 0) := fun j hj => by
    rw [set_get _ _ _ _ hk]
    unfold mv
    by_cases e : j = k
    · subst e
      rw [if_pos rfl, if_pos hf]
    · rw [if_neg e, if_neg (fun q => e (inj hj hk (q.trans hf.symm)))]
  refine ⟨set_nd h.nd hk ht, fun i hi => ?_, fun i hi => ?_⟩
  · rw [List.length_set] at hi ⊢
    rw [key _ (sc_lt hi), ← h.n i hi, set_get _ _ _ _ hk]
    by_cases e : i = k
    · subst e
      rw [if_pos rfl, n1, hf]
    · rw [if_neg e]
      exact n2 _ (get_in hi) (fun q => e (inj hi hk (q.trans hf.symm)))
  · rw [List.length_set] at hi ⊢
    rw [key _ (pd_lt hi), ← h.p i hi, set_get _ _ _ _ hk]
    by_cases e : i = k
    · subst e
      rw [if_pos rfl, p1, hf]
    · rw [if_neg e]
      exact p2 _ (get_in hi) (fun q => e (inj hi hk (q.trans hf.symm)))
end Go.Proofs.YtcpfnmphcndmjaaGreatDoor.Rin

namespace Go.Proofs.YtcpfnmphcndmjaaGreatDoor.Rin
open Go.RowKit Num
open Mem (Mm MemC MRet Hm rd blkM)
open Sla (Sl St Lv pl aT pV)
open Cls (szC blC pdC)
open Arn (wrL)
set_option linter.unusedVariables false

/-- What a ring's bytes say: the root's words, and the links of entries. -/
structure Rv where
  hand : Nat
  broom : Nat
  cnt : Nat
  nx : Nat → Nat
  pv : Nat → Nat
/-- A link: the field 5 is next, 6 is prev. -/
def Rv.get (R : Rv) (f : Int) (x : Nat) : Nat := if f = 5 then R.nx x else R.pv x
def Rv.put (R : Rv) (f : Int) (x v : Nat) : Rv := if f = 5 then { R with nx := up R.nx x v } else { R with pv := up R.pv x v }
/-- A cursor: 13 is the hand, 14 is the broom. -/
def Rv.cur (R : Rv) (c : Int) : Nat := if c = 13 then R.hand else R.broom
/-- An entry's head. -/
def bl (B : Nat → Hea.Blk) (R : Rv) (x : Nat) : Hea.Blk := { B x with next := (R.nx x : Int), prev := (R.pv x : Int) }
structure EOk (b : Hea.Blk) : Prop where
  ok : b.Ok
  right : Hea.RightP b
  tag : b.tag = 1
theorem EOk.link {b : Hea.Blk} (h : EOk b) {n p : Nat} (hn : n < 4294967296) (hp : p < 4294967296) : EOk { b with next := (n : Int), prev := (p : Int) } := by
  obtain ⟨⟨k1, k2, k3, k4, k5, k6, k7, k8, k9, k10, k11⟩, hr, ht⟩ := h
  refine ⟨⟨k1, k2, k3, k4, ⟨by show (0 : Int) ≤ (n : Int); omega, by show (n : Int) < _; omega⟩, ⟨by show (0 : Int) ≤ (p : Int); omega, by show (p : Int) < _; omega⟩, k7, k8, k9, k10, k11⟩, ?_, ht⟩
  rcases hr with ⟨h0, -⟩ | hr | ⟨h0, -⟩
  · rw [ht] at h0; cases h0
  · exact .inr (.inl hr)
  · rw [ht] at h0; cases h0
theorem enc32 {b : Hea.Blk} (ht : b.tag = 1) : (Hea.encL b).length = 32 := by simp [Hea.encL, ht, Hea.p1, Hea.p4, Hea.p8, Hea.p2]
theorem enc_tag {b : Hea.Blk} (ht : b.tag = 1) : (Hea.encL b).getD 0 0 = 1 := by simp [Hea.encL, Hea.p1, ht]
theorem enc_next {b : Hea.Blk} (ht : b.tag = 1) (v : Nat) (hv : v < 4294967296) : stl (Hea.encL b) 8 4 (v : Int) = Hea.encL { b with next := (v : Int) } := by
  have e : (v : Int) / 16777216 % 256 = (v : Int) / 16777216 := by omega
  simp [Hea.encL, ht, Hea.p1, Hea.p4, Hea.p8, Hea.p2, stl, parts, e]
theorem enc_prev {b : Hea.Blk} (ht : b.tag = 1) (v : Nat) (hv : v < 4294967296) : stl (Hea.encL b) 12 4 (v : Int) = Hea.encL { b with prev := (v : Int) } := by
  have e : (v : Int) / 16777216 % 256 = (v : Int) / 16777216 := by omega
  simp [Hea.encL, ht, Hea.p1, Hea.p4, Hea.p8, Hea.p2, stl, parts, e]

/-! ### Entries that lie apart -/
structure Ap (E : List Nat) (n : Nat) : Prop where
  lo : ∀ x ∈ E, 128 ≤ x
  al : ∀ x ∈ E, x % 16 = 0
  hi : ∀ x ∈ E, x + 32 ≤ n
  ap : ∀ x ∈ E, ∀ y ∈ E, x ≠ y → x + 32 ≤ y ∨ y + 32 ≤ x
/-- Nothing but links and the root's three words is changed. -/
structure Nr (E : List Nat) (l l' : List Int) : Prop where
  len : l'.length = l.length
  out : ∀ t, ¬ (60 ≤ t ∧ t < 72) → (∀ x ∈ E, ¬ (x + 8 ≤ t ∧ t < x + 16)) → l'.getD t 0 = l.getD t 0
theorem Nr.refl (E : List Nat) (l : List Int) : Nr E l l := ⟨rfl, fun _ _ _ => rfl⟩
theorem Nr.trans {E : List Nat} {a b c : List Int} (h : Nr E a b) (k : Nr E b c) : Nr E a c := ⟨k.len.trans h.len, fun t h1 h2 => (k.out t h1 h2).trans (h.out t h1 h2)⟩
theorem Nr.wide {E F : List Nat} {a b : List Int} (h : Nr E a b) (hs : ∀ x ∈ E, x ∈ F) : Nr F a b := ⟨h.len, fun t h1 h2 => h.out t h1 (fun x hx => h2 x (hs x hx))⟩
/-- The bytes say R. -/
structure Rb (E : List Nat) (B : Nat → Hea.Blk) (l : List Int) (R : Rv) : Prop where
  ent : ∀ x ∈ E, (l.drop x).take 32 = Hea.encL (bl B R x)
  ok : ∀ x ∈ E, EOk (B x) ∧ R.nx x < 4294967296 ∧ R.pv x < 4294967296
  hand : rd l 60 4 = (R.hand : Int)
  broom : rd l 64 4 = (R.broom : Int)
  cnt : rd l 68 4 = (R.cnt : Int)
section
variable {E : List Nat} {B : Nat → Hea.Blk} {l l' : List Int} {R : Rv}
theorem Rb.eok (h : Rb E B l R) {x : Nat} (hx : x ∈ E) : EOk (bl B R x) := by
  obtain ⟨h1, h2, h3⟩ := h.ok x hx
  exact h1.link h2 h3
theorem Rb.tag (h : Rb E B l R) {x : Nat} (hx : x ∈ E) : l.getD x 0 = 1 := by
  have h1 := enc_tag (h.eok hx).tag
  rw [← h.ent x hx, take_getD _ _ _ (by omega), drop_getD] at h1
  exact h1
theorem Rb.part (h : Rb E B l R) {x : Nat} (hx : x ∈ E) : (l.drop x).take (Hea.encL (bl B R x)).length = Hea.encL (bl B R x) := by
  rw [enc32 (h.eok hx).tag]
  exact h.ent x hx
/-- What a link says. -/
theorem Rb.ld (h : Rb E B l R) {x : Nat} (hx : x ∈ E) {f : Int} (hf : f = 5 ∨ f = 6) : Hea.ldF l x 1 f = (R.get f x : Int) := by
  have hk := h.eok hx
  have ht : (bl B R x).tag = 1 := hk.tag
  rcases hf with rfl | rfl
  · have := Hea.ld_num hk.ok hk.right (h.part hx) (f := 5) (by rw [ht]; decide) (by omega)
    rw [ht] at this
    exact this
  · have := Hea.ld_num hk.ok hk.right (h.part hx) (f := 6) (by rw [ht]; decide) (by omega)
    rw [ht] at this
    exact this
theorem st_at {x : Nat} {f : Int} (hf : f = 5 ∨ f = 6) {v : Nat} (hv : v < 4294967296) : Hea.stF l x 1 f (v : Int) = stl l (x + (if f = 5 then 8 else 12)) 4 (v : Int) ∧ Hea.okF 1 f (v : Int) = true := by
  have hfit : fits (v : Int) 4 = true := by simp [fits, isW]; omega
  have hok : Hea.okF 1 f (v : Int) = true := by
    rcases hf with rfl | rfl
    · show (decide _ && fits (v : Int) 4) = true
      rw [hfit]
      rfl
    · show (decide _ && fits (v : Int) 4) = true
      rw [hfit]
      rfl
  refine ⟨?_, hok⟩
  rw [Hea.stF_yes hok]
  rcases hf with rfl | rfl <;> rfl
/-- A link is written. -/
theorem Rb.st (h : Rb E B l R) (ha : Ap E l.length) {x : Nat} (hx : x ∈ E) {f : Int} (hf : f = 5 ∨ f = 6) {v : Nat} (hv : v < 4294967296) :
    Rb E B (Hea.stF l x 1 f (v : Int)) (R.put f x v) ∧ Nr E l (Hea.stF l x 1 f (v : Int)) := by
  rw [(st_at hf hv).1]
  obtain ⟨o, ho⟩ : ∃ o : Nat, o = if f = 5 then 8 else 12 := ⟨_, rfl⟩
  rw [← ho]
  have ho2 : o = 8 ∨ o = 12 := by rcases hf with rfl | rfl <;> simp at ho <;> omega
  have hlo := ha.lo x hx
  have hhi := ha.hi x hx
  have hlen : (stl l (x + o) 4 (v : Int)).length = l.length := stl_length _ _ _ _ (by omega) (by omega)
  have hk := h.eok hx
  have key : stl l (x + o) 4 (v : Int) = wrL l x (Hea.encL (bl B (R.put f x v) x)) := by
    have e1 : l = wrL l x (Hea.encL (bl B R x)) := by rw [← h.ent x hx, Hea.wrL_self hhi]
    have e32 := enc32 hk.tag
    rw [e1, Hea.stl_in (by rw [e32]; exact hhi) (by rw [e32]; omega) (by omega), ← e1]
    congr 1
    rcases hf with rfl | rfl
    · rw [if_pos rfl] at ho
      subst ho
      rw [enc_next hk.tag v hv]
      congr 1
      unfold bl Rv.put
      rw [if_pos rfl]
      simp only [up_same]
    · rw [if_neg (by decide)] at ho
      subst ho
      rw [enc_prev hk.tag v hv]
      congr 1
      unfold bl Rv.put
      rw [if_neg (by decide)]
      simp only [up_same]
  have hB : ∀ y ∈ E, y ≠ x → bl B (R.put f x v) y = bl B R y := fun y hy hne => by
    unfold bl Rv.put
    rcases hf with rfl | rfl
    · rw [if_pos rfl]
      simp only [up_other _ hne]
    · rw [if_neg (by decide)]
      simp only [up_other _ hne]
  have hbd : ∀ y ∈ E, (R.put f x v).nx y < 4294967296 ∧ (R.put f x v).pv y < 4294967296 := fun y hy => by
    obtain ⟨-, h2, h3⟩ := h.ok y hy
    unfold Rv.put
    rcases hf with rfl | rfl
    · rw [if_pos rfl]
      refine ⟨?_, h3⟩
      show up R.nx x v y < _
      unfold up
      split <;> omega
    · rw [if_neg (by decide)]
      refine ⟨h2, ?_⟩
      show up R.pv x v y < _
      unfold up
      split <;> omega
  have ekx : EOk (bl B (R.put f x v) x) := (h.ok x hx).1.link (hbd x hx).1 (hbd x hx).2
  have hr : (R.put f x v).hand = R.hand ∧ (R.put f x v).broom = R.broom ∧ (R.put f x v).cnt = R.cnt := by
    unfold Rv.put
    split <;> exact ⟨rfl, rfl, rfl⟩
  refine ⟨⟨fun y hy => ?_, fun y hy => ⟨(h.ok y hy).1, hbd y hy⟩, ?_, ?_, ?_⟩, hlen, fun t h1 h2 => ?_⟩
  · by_cases e : y = x
    · subst e
      have e32 := enc32 ekx.tag
      have := Mem.wr_part l (Hea.encL (bl B (R.put f y v) y)) y (by rw [e32]; exact hhi)
      rw [key]
      rw [e32] at this
      exact this
    · rw [hB y hy e, ← h.ent y hy, key]
      have := ha.ap y hy x hx e
      exact Mem.wr_other _ _ _ _ _ (by rw [enc32 ekx.tag]; exact hhi) (by rw [enc32 ekx.tag]; omega)
  · rw [Mem.rd_other (by omega) (by omega) (by omega), hr.1]
    exact h.hand
  · rw [Mem.rd_other (by omega) (by omega) (by omega), hr.2.1]
    exact h.broom
  · rw [Mem.rd_other (by omega) (by omega) (by omega), hr.2.2]
    exact h.cnt
  · have := h2 x hx
    exact Lis.st_get (by omega) (by omega) (by omega)
/-- One of the root's words is written. -/
theorem Rb.root (h : Rb E B l R) (ha : Ap E l.length) (hl : 128 ≤ l.length) {c : Nat} (hc : c = 60 ∨ c = 64 ∨ c = 68) {v : Nat} (hv : v < 4294967296) {R' : Rv} (hn : R'.nx = R.nx) (hp : R'.pv = R.pv)
    (h1 : R'.hand = if c = 60 then v else R.hand) (h2 : R'.broom = if c = 64 then v else R.broom) (h3 : R'.cnt = if c = 68 then v else R.cnt) : Rb E B (stl l c 4 (v : Int)) R' ∧ Nr E l (stl l c 4 (v : Int)) := by
  have hlen : (stl l c 4 (v : Int)).length = l.length := stl_length _ _ _ _ (by omega) (by omega)
  have hsame : ∀ a, a = c → rd (stl l c 4 (v : Int)) a 4 = (v : Int) := fun a e => by
    subst e
    exact Mem.rd_same (by omega) (by decide) (by omega) (by simp [fits, isW]; omega)
  refine ⟨⟨fun y hy => ?_, fun y hy => ?_, ?_, ?_, ?_⟩, hlen, fun t g1 g2 => Lis.st_get (by omega) (by omega) (by omega)⟩
  · have := ha.lo y hy
    have e : bl B R' y = bl B R y := by unfold bl; rw [hn, hp]
    rw [e, ← h.ent y hy, Mem.stl_wrL _ _ _ _ (by omega)]
    exact Mem.wr_other _ _ _ _ _ (by simp [parts]; omega) (by simp [parts]; omega)
  · rw [hn, hp]
    exact h.ok y hy
  · rw [h1]
    by_cases e : c = 60
    · rw [if_pos e]; exact hsame _ e.symm
    · rw [if_neg e, Mem.rd_other (by omega) (by omega) (by omega)]; exact h.hand
  · rw [h2]
    by_cases e : c = 64
    · rw [if_pos e]; exact hsame _ e.symm
    · rw [if_neg e, Mem.rd_other (by omega) (by omega) (by omega)]; exact h.broom
  · rw [h3]
    by_cases e : c = 68
    · rw [if_pos e]; exact hsame _ e.symm
    · rw [if_neg e, Mem.rd_other (by omega) (by omega) (by omega)]; exact h.cnt
/-- The same bytes there: the same ring. -/
theorem Rb.same (h : Rb E B l R) (hl : l'.length = l.length) (hr : ∀ t, 60 ≤ t → t < 72 → l'.getD t 0 = l.getD t 0) (he : ∀ x ∈ E, ∀ t, x ≤ t → t < x + 32 → l'.getD t 0 = l.getD t 0) : Rb E B l' R := by
  refine ⟨fun x hx => ?_, h.ok, ?_, ?_, ?_⟩
  · rw [← h.ent x hx]
    refine Mem.list_of_getD (by simp [hl]) (fun i hi => ?_)
    have h1 : i < 32 := by rw [List.length_take] at hi; omega
    rw [take_getD _ _ _ h1, take_getD _ _ _ h1, drop_getD, drop_getD]
    exact he x hx _ (by omega) (by omega)
  · rw [Sla.rd_agree hl (fun t h1 h2 => hr t (by omega) (by omega))]; exact h.hand
  · rw [Sla.rd_agree hl (fun t h1 h2 => hr t (by omega) (by omega))]; exact h.broom
  · rw [Sla.rd_agree hl (fun t h1 h2 => hr t (by omega) (by omega))]; exact h.cnt
/-- The same ring again: the same bytes. -/
theorem Rb.back {R' : Rv} (h : Rb E B l R) (h' : Rb E B l' R') (hb : Arn.IsBytes l) (hb' : Arn.IsBytes l') (ha : Ap E l.length) (hl : 128 ≤ l.length) (hn : Nr E l l') (e1 : R'.hand = R.hand) (e2 : R'.broom = R.broom) (e3 : R'.cnt = R.cnt)
    (e4 : ∀ x ∈ E, R'.nx x = R.nx x ∧ R'.pv x = R.pv x) : l' = l := by
  refine Mem.list_of_getD hn.len (fun t ht => ?_)
  by_cases hr : 60 ≤ t ∧ t < 72
  · by_cases c1 : t < 64
    · exact (Lis.rd_inj hb hb' hn.len (a := 60) (n := 4) (by omega) (by rw [h.hand, h'.hand, e1]) (by omega) (by omega)).symm
    · by_cases c2 : t < 68
      · exact (Lis.rd_inj hb hb' hn.len (a := 64) (n := 4) (by omega) (by rw [h.broom, h'.broom, e2]) (by omega) (by omega)).symm
      · exact (Lis.rd_inj hb hb' hn.len (a := 68) (n := 4) (by omega) (by rw [h.cnt, h'.cnt, e3]) (by omega) (by omega)).symm
  · by_cases hx : ∃ x ∈ E, x + 8 ≤ t ∧ t < x + 16
    · obtain ⟨x, hx, h1, h2⟩ := hx
      have e : bl B R' x = bl B R x := by
        obtain ⟨q1, q2⟩ := e4 x hx
        unfold bl
        rw [q1, q2]
      have k1 := h.ent x hx
      have k2 := h'.ent x hx
      rw [e, ← k1] at k2
      have := congrArg (fun z => z.getD (t - x) 0) k2
      rw [take_getD _ _ _ (by omega), take_getD _ _ _ (by omega), drop_getD, drop_getD, show x + (t - x) = t by omega] at this
      exact this
    · exact hn.out t hr (fun x hxE q => hx ⟨x, hxE, q⟩)
end
end Go.Proofs.YtcpfnmphcndmjaaGreatDoor.Rin

namespace Go.Proofs.YtcpfnmphcndmjaaGreatDoor.Rin
open Go.RowKit Num
open Mem (Mm MemC MRet Hm rd blkM)
open Lis (Cf LM LR Tb at_ Nx Pv Rep Hx valsN)
open Sla (Sl St Sx SM SR SlabOk Out Lv pl aT pV ok_base bl_in bl_apart mem_lt Tk)
open Cls (szC blC pdC)
open Arn (wrL is64)
set_option linter.unusedVariables false

section
variable {h : Hm} {S N : Nat} {l0 l l' : List Int} {T T' : List Sl} {w w' W W' : World}
/-- The bytes themselves as what the low ones are compared with. -/
theorem st_self (d : St h S N l0 l T W) : St h S N l l T W := by
  obtain ⟨H, L, ⟨C, h1, h2, h3, h4, h5⟩, d2⟩ := d
  exact ⟨H, L, ⟨C, h1, h2, h3, h4, ⟨h5.ok, h5.rep, h5.xl, h5.ll, h5.tl, fun _ _ _ => rfl, h5.xlow, h5.sl⟩⟩, d2⟩
theorem st_len (d : St h S N l0 l T W) : l.length = Lay.sizeT S N ∧ l.length ≤ 100000 ∧ 240 ≤ l.length := by
  obtain ⟨H, L, ⟨C, rfl, rfl, h3, h4, h5⟩, d2⟩ := d
  have hb := ok_base h5.ok
  have := h5.ok.lo
  have := h5.ll
  omega
theorem st_bytes (d : St h S N l0 l T W) : Arn.IsBytes l := by
  obtain ⟨H, L, ⟨C, rfl, rfl, h3, h4, h5⟩, d2⟩ := d
  exact h4.m.bytes
theorem lv_at (d : St h S N l0 l T W) {x : Nat} (hx : Lv S N T x) : 128 ≤ x ∧ x % 16 = 0 ∧ x + 32 ≤ Lay.sizeT S N ∧ Lay.sizeT S N ≤ 100000 := by
  obtain ⟨H, L, ⟨C, rfl, rfl, h3, h4, h5⟩, d2⟩ := d
  obtain ⟨j, k, hj, hk, rfl⟩ := hx
  have hb := ok_base h5.ok
  have hin := bl_in (mem_lt hk).1
  have hm := Sla.mul_mod ((T.getD j Sl.zero).c : Int) k
  unfold pl aT
  omega
theorem lv_apart {x y : Nat} (hx : Lv S N T x) (hy : Lv S N T y) (hne : x ≠ y) : x + 32 ≤ y ∨ y + 32 ≤ x := by
  obtain ⟨j, k, hj, hk, rfl⟩ := hx
  obtain ⟨j', k', hj', hk', rfl⟩ := hy
  have h1 := Sla.blk_apart (S := S) (N := N) (mem_lt hk).1 (mem_lt hk').1 (by rintro ⟨rfl, rfl⟩; exact hne rfl)
  have h2 := bl_in (mem_lt hk).1
  have h3 := bl_in (mem_lt hk').1
  omega
theorem SlabOk.inside {x : List Int} {A : Nat} {s : Sl} (d : SlabOk l x A s) {k : Nat} (hk : k ∈ s.v) (hs : ∀ t, ¬ (pl A s.c k ≤ t ∧ t < pl A s.c k + szC s.c) → l'.getD t 0 = l.getD t 0) : SlabOk l' x A s := by
  obtain ⟨h1, h2⟩ := mem_lt hk
  have hin := bl_in h1
  refine ⟨d.ok, d.k, d.f.same (fun j hj i hi => hs _ ?_), fun t q1 q2 => ?_⟩
  · have e : j ≠ k := by rintro rfl; exact h2 hj
    rcases Nat.lt_or_gt_of_ne e with q | q
    · have := bl_apart s.c q
      unfold pl; omega
    · have := bl_apart s.c q
      unfold pl; omega
  · have hn : ¬ (pl A s.c k ≤ t ∧ t < pl A s.c k + szC s.c) := by unfold pl; omega
    rw [hs t hn]
    exact d.p t q1 q2
/-- A live block is written. -/
theorem Sx.inside {C : Cf} {H : List Hx} {L : List Int} (h5 : Sx l0 C l H L T) {j k : Nat} (hj : j < C.s) (hk : k ∈ (T.getD j Sl.zero).v) (hl : l'.length = l.length)
    (hs : ∀ t, ¬ (pl (aT C.s C.n j) (T.getD j Sl.zero).c k ≤ t ∧ t < pl (aT C.s C.n j) (T.getD j Sl.zero).c k + szC (T.getD j Sl.zero).c) → l'.getD t 0 = l.getD t 0) : Sx l0 C l' H L T := by
  have hin := bl_in (mem_lt hk).1
  have ho : Out (aT C.s C.n j) 1024 l l' C.x C.x := ⟨hl, rfl, fun t ht => hs t (by unfold pl; omega), fun _ _ => rfl⟩
  have hx := h5.slab hj ho (SlabOk.inside (h5.sl j hj) hk hs)
  rw [Sla.set_self T j (by rw [h5.tl]; exact hj)] at hx
  exact hx
/-- The words of a ring are written. -/
theorem rep_ring {H : List Hx} {L : List Int} (h : Rep S l l H L) (hl : l'.length = l.length) (hlow : ∀ t, t < 60 ∨ 72 ≤ t → l'.getD t 0 = l.getD t 0) : Rep S l' l' H L := by
  refine ⟨by rw [hl]; exact h.room, rfl, h.len, h.hlen, h.cls, h.hok, fun _ _ => rfl, fun c hc => ?_, fun j hj => ?_, fun j hj => ?_, fun j hj => ?_⟩
  · obtain ⟨v, h1, h2⟩ := h.root c hc
    exact ⟨v, (Sla.rd_agree hl (fun t _ _ => hlow t (by omega))).trans h1, h2⟩
  · obtain ⟨h1, h2, h3⟩ := h.head j hj
    exact ⟨(Sla.rd_agree hl (fun t _ _ => hlow t (by omega))).trans h1, (Sla.rd_agree hl (fun t _ _ => hlow t (by omega))).trans h2, (Sla.rd_agree hl (fun t _ _ => hlow t (by omega))).trans h3⟩
  · obtain ⟨v, h1, h2⟩ := h.nxt j hj
    exact ⟨v, (Sla.rd_agree hl (fun t _ _ => hlow t (by omega))).trans h1, h2⟩
  · obtain ⟨v, h1, h2⟩ := h.prv j hj
    exact ⟨v, (Sla.rd_agree hl (fun t _ _ => hlow t (by omega))).trans h1, h2⟩
theorem Sx.ring {C : Cf} {H : List Hx} {L : List Int} (h5 : Sx l0 C l H L T) (hl : l'.length = l.length) (hs : ∀ t, t < 60 ∨ 72 ≤ t → l'.getD t 0 = l.getD t 0) : Sx l' C l' H L T := by
  have hb := ok_base h5.ok
  refine ⟨h5.ok, rep_ring h5.rep hl hs, h5.xl, hl.trans h5.ll, h5.tl, fun _ _ _ => rfl, h5.xlow, fun j hj => ?_⟩
  exact (h5.sl j hj).same (fun t h1 h2 => ⟨hs t (by unfold aT at h1; omega), rfl⟩)

/-! ### Loads and stores -/
theorem room_live {C : Cf} {H : List Hx} {L : List Int} (h5 : Sx l0 C l H L T) {j k : Nat} (hj : j < C.s) (hk : k ∈ (T.getD j Sl.zero).v) (l' : List Int) (lk : Int) : Hea.Room (C.mm l' lk) (pl (aT C.s C.n j) (T.getD j Sl.zero).c k) 1 := by
  have hb := ok_base h5.ok
  obtain ⟨h1, h2⟩ := mem_lt hk
  have hin := bl_in h1
  have hm := Sla.mul_mod ((T.getD j Sl.zero).c : Int) k
  refine ⟨by omega, by unfold pl aT; omega, ?_, fun i hi => ?_⟩
  · show _ + 32 ≤ C.x.length
    rw [h5.xl]
    unfold pl aT
    omega
  · have hi32 : i < 32 := hi
    have := (h5.sl j hj).k k h1 i (by omega)
    rw [if_neg h2] at this
    exact this
theorem st_config (d : St h S N l0 l T W) : Calls Tryz.prog 77 #[pV h] W fun e W' => e = .returned (.agg #[.int .i64 (S : Int), .int .i64 (N : Int)]) ∧ Below W.heap.size W W' := by
  obtain ⟨H, L, d1, d2⟩ := d
  exact d1.config

/-! ### The kind of each byte -/
/-- The kind of a byte, as the slabs tell it. -/
def kA (S N : Nat) (T : List Sl) (t : Nat) : Int :=
  if t < Lay.baseT S N then Mem.kindT S N t else
    let s := T.getD ((t - Lay.baseT S N) / 1024) Sl.zero
    let o := (t - Lay.baseT S N) % 1024
    if o < blC s.c * szC s.c then (if o / szC s.c ∈ s.f then 6 else 5) else if s.c = 0 then 7 else 8
def kX (S N : Nat) (T : List Sl) : List Int := (List.range (Lay.sizeT S N)).map (kA S N T)
theorem sx_x {C : Cf} {H : List Hx} {L : List Int} (h5 : Sx l0 C l H L T) : C.x = kX C.s C.n T := by
  have hb := ok_base h5.ok
  refine Mem.list_of_getD (by rw [h5.xl]; simp [kX]) (fun t ht => ?_)
  rw [h5.xl] at ht
  have e : (kX C.s C.n T).getD t 0 = kA C.s C.n T t := by simp [kX, List.getD, ht]
  rw [e]
  unfold kA
  by_cases h1 : t < Lay.baseT C.s C.n
  · rw [if_pos h1]
    exact h5.xlow t h1
  · rw [if_neg h1]
    obtain ⟨j, hj⟩ : ∃ j, (t - Lay.baseT C.s C.n) / 1024 = j := ⟨_, rfl⟩
    obtain ⟨o, ho⟩ : ∃ o, (t - Lay.baseT C.s C.n) % 1024 = o := ⟨_, rfl⟩
    have hjs : j < C.s := by omega
    have hto : t = aT C.s C.n j + o := by unfold aT; omega
    have ho2 : o < 1024 := by omega
    simp only
    rw [hj, ho]
    have hs := h5.sl j hjs
    by_cases h2 : o < blC (T.getD j Sl.zero).c * szC (T.getD j Sl.zero).c
    · rw [if_pos h2]
      have hz : 0 < szC ((T.getD j Sl.zero).c : Int) := by
        rcases Nat.eq_zero_or_pos (szC ((T.getD j Sl.zero).c : Int)) with q | q
        · rw [q] at h2; omega
        · exact q
      have hk : o / szC ((T.getD j Sl.zero).c : Int) < blC (T.getD j Sl.zero).c := (Nat.div_lt_iff_lt_mul hz).2 h2
      have := hs.k _ hk (o % szC ((T.getD j Sl.zero).c : Int)) (Nat.mod_lt _ hz)
      have e2 : pl (aT C.s C.n j) (T.getD j Sl.zero).c (o / szC ((T.getD j Sl.zero).c : Int)) + o % szC ((T.getD j Sl.zero).c : Int) = t := by
        have := Nat.div_add_mod o (szC ((T.getD j Sl.zero).c : Int))
        rw [Nat.mul_comm] at this
        unfold pl
        omega
      rw [e2] at this
      exact this
    · rw [if_neg h2]
      have := (hs.p t (by omega) (by omega)).1
      exact this
theorem st_kind (d : St h S N l0 l T W) (a n : Int) (ha : is64 a) :
    Calls Tryz.prog 17 #[pV h, .int .i64 a, .int .i64 n] W fun e W' => e = .returned (.int .i64 (Wat.kndA (kX S N T) a n)) ∧ Below W.heap.size W W' := by
  obtain ⟨H, L, ⟨C, rfl, rfl, h3, h4, h5⟩, d2⟩ := d
  obtain ⟨ht, lk, hm⟩ := id h4.m
  have := Mem.kind_any h _ (C.mm l lk) a n W hm ha
  rw [show (C.mm l lk).x = C.x from rfl, sx_x h5] at this
  exact this
end
end Go.Proofs.YtcpfnmphcndmjaaGreatDoor.Rin
