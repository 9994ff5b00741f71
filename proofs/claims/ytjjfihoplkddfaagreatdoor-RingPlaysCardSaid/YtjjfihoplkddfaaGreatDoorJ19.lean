/- Plain mathematics of rings: links that go round through a list of entries; what becomes of them. Plain mathematics of entries in a ring: their heads' bytes, the root's words, what a store does to them. Entries in a memory of slabs: what is loaded and stored, the words of the root. The landed ring: a memory with entries; links and cursors, as head and memory answer them. The landed ring: entries that are there, links, cursors. The landed ring: Begin's words; cursors that go on; neighbours that are updated by a function; Insert. The landed ring: Remove. The landed ring: Move. -/
import Derived.Test.YtjjfihoplkddfaaGreatDoorJ1
import Derived.Test.YtjjfihoplkddfaaGreatDoorJ18
import Derived.Test.YtjjfihoplkddfaaGreatDoorJ14
import Derived.Deep.RegionHeld3
import Derived.BigQuiet
import Derived.Laws.EntriesVeiled
namespace Go.Proofs.YtjjfihoplkddfaaGreatDoor.Rin
set_option linter.unusedVariables false

/-- The place behind one, and the one ahead. -/
def sc (n i : Nat) : Nat := if i + 1 = n then 0 else i + 1
def pd (n i : Nat) : Nat := if i = 0 then n - 1 else i - 1
def up (f : Nat → Nat) (a v : Nat) : Nat → Nat := fun x => if x = a then v else f x
theorem up_same (f : Nat → Nat) (a v : Nat) : up f a v a = v := if_pos rfl
theorem up_other (f : Nat → Nat) {a v x : Nat} (h : x ≠ a) : up f a v x = f x := if_neg h
theorem sc_lt {n i : Nat} (h : i < n) : sc n i < n := by unfold sc; split <;> omega
theorem pd_lt {n i : Nat} (h : i < n) : pd n i < n := by unfold pd; split <;> omega
theorem get_in {L : List Nat} {i : Nat} (h : i < L.length) : L.getD i 0 ∈ L := by
  rw [List.getD, List.getElem?_eq_getElem h, Option.getD_some]
  exact List.getElem_mem h
theorem at_of {L : List Nat} {x : Nat} (h : x ∈ L) : ∃ i, i < L.length ∧ L.getD i 0 = x := by
  obtain ⟨i, hi, e⟩ := List.getElem_of_mem h
  exact ⟨i, hi, by rw [List.getD, List.getElem?_eq_getElem hi, Option.getD_some, e]⟩
theorem nd_inj {L : List Nat} (h : L.Nodup) {i j : Nat} (hi : i < L.length) (hj : j < L.length) (e : L[i] = L[j]) : i = j := by
  rw [List.nodup_iff_pairwise_ne, List.pairwise_iff_getElem] at h
  rcases Nat.lt_trichotomy i j with q | q | q
  · exact absurd e (h i j hi hj q)
  · exact q
  · exact absurd e.symm (h j i hj hi q)
theorem nd_one (a : Nat) : [a].Nodup := by simp
theorem get_inj {L : List Nat} (h : L.Nodup) {i j : Nat} (hi : i < L.length) (hj : j < L.length) (e : L.getD i 0 = L.getD j 0) : i = j := by
  rw [List.getD, List.getD, List.getElem?_eq_getElem hi, List.getElem?_eq_getElem hj, Option.getD_some, Option.getD_some] at e
  exact nd_inj h hi hj e
theorem list_ext {A B : List Nat} (hl : A.length = B.length) (h : ∀ i, i < A.length → A.getD i 0 = B.getD i 0) : A = B := by
  refine List.ext_getElem hl fun i h1 h2 => ?_
  have := h i h1
  simpa [List.getD, h1, h2] using this

/-- The links go round through a list. -/
structure Cy (nx pv : Nat → Nat) (L : List Nat) : Prop where
  nd : L.Nodup
  n : ∀ i, i < L.length → nx (L.getD i 0) = L.getD (sc L.length i) 0
  p : ∀ i, i < L.length → pv (L.getD i 0) = L.getD (pd L.length i) 0
theorem Cy.nil (nx pv : Nat → Nat) : Cy nx pv [] := ⟨List.nodup_nil, fun i h => absurd h (Nat.not_lt_zero _), fun i h => absurd h (Nat.not_lt_zero _)⟩
theorem Cy.nx_in {nx pv : Nat → Nat} {L : List Nat} (h : Cy nx pv L) {x : Nat} (hx : x ∈ L) : nx x ∈ L := by
  obtain ⟨i, hi, rfl⟩ := at_of hx
  rw [h.n i hi]
  exact get_in (sc_lt hi)
theorem Cy.pv_in {nx pv : Nat → Nat} {L : List Nat} (h : Cy nx pv L) {x : Nat} (hx : x ∈ L) : pv x ∈ L := by
  obtain ⟨i, hi, rfl⟩ := at_of hx
  rw [h.p i hi]
  exact get_in (pd_lt hi)

/-! ### One is inserted, ahead of the first -/
theorem snoc_get (L : List Nat) (a i : Nat) : (L ++ [a]).getD i 0 = if i < L.length then L.getD i 0 else if i = L.length then a else 0 := by
  unfold List.getD
  rw [List.getElem?_append]
  split
  · rfl
  · split
    · rename_i h1 h2; subst h2; simp
    · rename_i h1 h2
      rw [List.getElem?_eq_none (by simp; omega)]
      rfl
theorem Cy.one (nx pv : Nat → Nat) (a : Nat) : Cy (up nx a a) (up pv a a) [a] := by
  refine ⟨nd_one _, fun i hi => ?_, fun i hi => ?_⟩
  · obtain rfl : i = 0 := by simp at hi; exact hi
    exact up_same _ _ _
  · obtain rfl : i = 0 := by simp at hi; exact hi
    exact up_same _ _ _
theorem Cy.insert {nx pv : Nat → Nat} {L : List Nat} {a b c : Nat} (h : Cy nx pv L) (ha : a ∉ L) (hL : L ≠ []) (hc : L.getD 0 0 = c) (hb : pv c = b) :
    Cy (up (up nx a c) b a) (up (up pv a b) c a) (L ++ [a]) := by
  have hp : 0 < L.length := List.length_pos_iff.2 hL
  have hbl : b = L.getD (L.length - 1) 0 := by
    rw [← hb, ← hc, h.p 0 hp]
    rfl
  have hne : ∀ i, i < L.length → L.getD i 0 ≠ a := fun i hi e => ha (e ▸ get_in hi)
  refine ⟨List.nodup_append.2 ⟨h.nd, nd_one _, fun x hx y hy e => by rw [List.mem_singleton] at hy; subst hy; subst e; exact ha hx⟩, fun i hi => ?_, fun i hi => ?_⟩
  · rw [List.length_append, List.length_singleton] at hi ⊢
    rw [snoc_get, snoc_get]
    by_cases h1 : i < L.length
    · rw [if_pos h1]
      by_cases h2 : i + 1 = L.length
      · have e : L.getD i 0 = b := by rw [hbl]; congr 1; omega
        rw [e, up_same, show sc (L.length + 1) i = L.length by unfold sc; rw [if_neg (by omega)]; exact h2, if_neg (Nat.lt_irrefl _), if_pos rfl]
      · have e : L.getD i 0 ≠ b := fun q => by
          rw [hbl] at q
          have := get_inj h.nd h1 (by omega) q
          omega
        rw [up_other _ e, up_other _ (hne i h1), h.n i h1, show sc (L.length + 1) i = i + 1 by unfold sc; rw [if_neg (by omega)], if_pos (by omega), show sc L.length i = i + 1 by unfold sc; rw [if_neg h2]]
    · obtain rfl : i = L.length := by omega
      have e : a ≠ b := fun q => by rw [hbl] at q; exact hne _ (by omega) q.symm
      rw [if_neg h1, if_pos rfl, up_other _ e, up_same, show sc (L.length + 1) L.length = 0 by unfold sc; rw [if_pos rfl], if_pos hp, hc]
  · rw [List.length_append, List.length_singleton] at hi ⊢
    rw [snoc_get, snoc_get]
    by_cases h1 : i < L.length
    · rw [if_pos h1]
      by_cases h2 : i = 0
      · subst h2
        rw [hc, up_same, show pd (L.length + 1) 0 = L.length from rfl, if_neg (Nat.lt_irrefl _), if_pos rfl]
      · have e : L.getD i 0 ≠ c := fun q => by
          rw [← hc] at q
          have := get_inj h.nd h1 hp q
          omega
        rw [up_other _ e, up_other _ (hne i h1), h.p i h1, show pd (L.length + 1) i = i - 1 by unfold pd; rw [if_neg h2], if_pos (by omega), show pd L.length i = i - 1 by unfold pd; rw [if_neg h2]]
    · obtain rfl : i = L.length := by omega
      have e : a ≠ c := fun q => by rw [← hc] at q; exact hne 0 hp q.symm
      rw [if_neg h1, if_pos rfl, up_other _ e, up_same, show pd (L.length + 1) L.length = L.length - 1 by unfold pd; rw [if_neg (by omega)], if_pos (by omega), hbl]

/-! ### One is taken out -/
def ix (k i : Nat) : Nat := if i < k then i else i + 1
theorem del_get (L : List Nat) (k i : Nat) : (L.eraseIdx k).getD i 0 = L.getD (ix k i) 0 := by
  unfold List.getD ix
  rw [List.getElem?_eraseIdx]
  split <;> rfl
theorem ix_lt {n k i : Nat} (hk : k < n) (h : i < n - 1) : ix k i < n ∧ ix k i ≠ k := by unfold ix; split <;> omega
theorem ix_sc {n k i : Nat} (hk : k < n) (h : i < n - 1) : ix k (sc (n - 1) i) = if ix k i = pd n k then sc n k else sc n (ix k i) := by
  unfold ix sc pd
  repeat' split
  all_goals omega
theorem ix_pd {n k i : Nat} (hk : k < n) (h : i < n - 1) : ix k (pd (n - 1) i) = if ix k i = sc n k then pd n k else pd n (ix k i) := by
  unfold ix sc pd
  repeat' split
  all_goals omega
theorem del_len {L : List Nat} {k : Nat} (hk : k < L.length) : (L.eraseIdx k).length = L.length - 1 := by rw [List.length_eraseIdx, if_pos hk]
theorem del_in {L : List Nat} (hn : L.Nodup) {k : Nat} (hk : k < L.length) (x : Nat) : x ∈ L.eraseIdx k ↔ x ∈ L ∧ x ≠ L.getD k 0 := by
  constructor
  · intro hx
    obtain ⟨i, hi, rfl⟩ := at_of hx
    rw [del_len hk] at hi
    obtain ⟨h1, h2⟩ := ix_lt hk hi
    rw [del_get]
    exact ⟨get_in h1, fun q => h2 (get_inj hn h1 hk q)⟩
  · rintro ⟨h1, h2⟩
    obtain ⟨i, hi, rfl⟩ := at_of h1
    have hik : i ≠ k := fun e => h2 (by rw [e])
    obtain ⟨j, hj, e⟩ : ∃ j, j < L.length - 1 ∧ ix k j = i := by
      by_cases h : i < k
      · exact ⟨i, by omega, if_pos h⟩
      · exact ⟨i - 1, by omega, by unfold ix; rw [if_neg (by omega)]; omega⟩
    have := get_in (L := L.eraseIdx k) (i := j) (by rw [del_len hk]; exact hj)
    rw [del_get, e] at this
    exact this
theorem Cy.remove {nx pv : Nat → Nat} {L : List Nat} {k a n p : Nat} (h : Cy nx pv L) (hk : k < L.length) (ha : L.getD k 0 = a) (hn : nx a = n) (hp : pv a = p) :
    Cy (up (up nx p n) a 0) (up (up pv n p) a 0) (L.eraseIdx k) := by
  have hnn : n = L.getD (sc L.length k) 0 := by rw [← hn, ← ha, h.n k hk]
  have hpp : p = L.getD (pd L.length k) 0 := by rw [← hp, ← ha, h.p k hk]
  have inj := fun {i j : Nat} (hi : i < L.length) (hj : j < L.length) (e : L.getD i 0 = L.getD j 0) => get_inj h.nd hi hj e
  refine ⟨h.nd.sublist (List.eraseIdx_sublist _ _), fun i hi => ?_, fun i hi => ?_⟩
  · rw [del_len hk] at hi ⊢
    obtain ⟨hj, hjk⟩ := ix_lt hk hi
    have hja : L.getD (ix k i) 0 ≠ a := fun e => hjk (inj hj hk (e.trans ha.symm))
    rw [del_get, del_get, up_other _ hja, ix_sc hk hi]
    by_cases hjp : ix k i = pd L.length k
    · rw [if_pos hjp, show L.getD (ix k i) 0 = p by rw [hjp, hpp], up_same, hnn]
    · have e : L.getD (ix k i) 0 ≠ p := fun q => hjp (inj hj (pd_lt hk) (q.trans hpp))
      rw [if_neg hjp, up_other _ e, h.n _ hj]
  · rw [del_len hk] at hi ⊢
    obtain ⟨hj, hjk⟩ := ix_lt hk hi
    have hja : L.getD (ix k i) 0 ≠ a := fun e => hjk (inj hj hk (e.trans ha.symm))
    rw [del_get, del_get, up_other _ hja, ix_pd hk hi]
    by_cases hjp : ix k i = sc L.length k
    · rw [if_pos hjp, show L.getD (ix k i) 0 = n by rw [hjp, hnn], up_same, hpp]
    · have e : L.getD (ix k i) 0 ≠ n := fun q => hjp (inj hj (sc_lt hk) (q.trans hnn))
      rw [if_neg hjp, up_other _ e, h.p _ hj]

/-! ### The first one is put last -/
def rot (L : List Nat) : List Nat := match L with
  | [] => []
  | x :: r => r ++ [x]
theorem rot_len (L : List Nat) : (rot L).length = L.length := by cases L <;> simp [rot]
theorem rot_mem (L : List Nat) (x : Nat) : x ∈ rot L ↔ x ∈ L := by
  cases L with
  | nil => rfl
  | cons y r => simp [rot, or_comm]
theorem rot_get {L : List Nat} {i : Nat} (h : i < L.length) : (rot L).getD i 0 = L.getD (sc L.length i) 0 := by
  cases L with
  | nil => simp at h
  | cons y r =>
    simp only [rot, List.length_cons] at h ⊢
    rw [snoc_get]
    unfold sc
    by_cases e : i = r.length
    · subst e
      rw [if_neg (Nat.lt_irrefl _), if_pos rfl, if_pos rfl]
      rfl
    · rw [if_pos (by omega), if_neg (by omega)]
      rfl
theorem rot_nd {L : List Nat} (h : L.Nodup) : (rot L).Nodup := by
  cases L with
  | nil => exact h
  | cons y r =>
    obtain ⟨h1, h2⟩ := List.nodup_cons.1 h
    exact List.nodup_append.2 ⟨h2, nd_one _, fun x hx z hz e => by rw [List.mem_singleton] at hz; subst hz; subst e; exact h1 hx⟩
theorem pd_sc {n i : Nat} (h : i < n) : pd n (sc n i) = sc n (pd n i) := by
  unfold sc pd
  repeat' split
  all_goals omega
theorem Cy.rot {nx pv : Nat → Nat} {L : List Nat} (h : Cy nx pv L) : Cy nx pv (rot L) := by
  refine ⟨rot_nd h.nd, fun i hi => ?_, fun i hi => ?_⟩
  · rw [rot_len] at hi ⊢
    rw [rot_get hi, rot_get (sc_lt hi), h.n _ (sc_lt hi)]
  · rw [rot_len] at hi ⊢
    rw [rot_get hi, rot_get (pd_lt hi), h.p _ (sc_lt hi)]
    congr 1
    exact pd_sc hi

/-! ### One lies elsewhere -/
theorem set_get (L : List Nat) (k v i : Nat) (hk : k < L.length) : (L.set k v).getD i 0 = if i = k then v else L.getD i 0 := by
  unfold List.getD
  rw [List.getElem?_set]
  by_cases e : k = i
  · subst e
    rw [if_pos rfl, if_pos rfl, if_pos hk]
    rfl
  · rw [if_neg e, if_neg (Ne.symm e)]
theorem set_nd {L : List Nat} (h : L.Nodup) {k v : Nat} (hk : k < L.length) (hv : v ∉ L) : (L.set k v).Nodup := by
  rw [List.nodup_iff_pairwise_ne, List.pairwise_iff_getElem]
  intro i j hi hj hij e
  rw [List.length_set] at hi hj
  rw [List.getElem_set, List.getElem_set] at e
  split at e
  · split at e
    · omega
    · exact hv (e ▸ List.getElem_mem hj)
  · split at e
    · exact hv (e.symm ▸ List.getElem_mem hi)
    · have := nd_inj h hi hj e
      omega
/-- What names the one at a place names the other one. -/
def mv (f t v : Nat) : Nat := if v = f then t else v
theorem Cy.move {nx pv nx' pv' : Nat → Nat} {L : List Nat} {k f t : Nat} (h : Cy nx pv L) (hk : k < L.length) (hf : L.getD k 0 = f) (ht : t ∉ L)
    (n1 : nx' t = mv f t (nx f)) (p1 : pv' t = mv f t (pv f)) (n2 : ∀ x ∈ L, x ≠ f → nx' x = mv f t (nx x)) (p2 : ∀ x ∈ L, x ≠ f → pv' x = mv f t (pv x)) : Cy nx' pv' (L.set k t) := by
  have inj := fun {i j : Nat} (hi : i < L.length) (hj : j < L.length) (e : L.getD i 0 = L.getD j 0) => get_inj h.nd hi hj e
  have key : ∀ j, j < L.length → (L.set k t).getD j 0 = mv f t (L.getD j 0) := fun j hj => by
    rw [set_get _ _ _ _ hk]
    unfold mv
    by_cases e : j = k
    · subst e
      rw [if_pos rfl, if_pos hf]
    · rw [if_neg e, if_neg (fun q => e (inj hj hk (q.trans hf.symm)))]
  refine ⟨set_nd h.nd hk ht, fun i hi => ?_, fun i hi => ?_⟩
  · rw [List.length_set] at hi ⊢
    rw [key _ (sc_lt hi), ← h.n i hi, set_get _ _ _ _ hk]
    by_cases e : i = k
    · subst e
      rw [if_pos rfl, n1, hf]
    · rw [if_neg e]
      exact n2 _ (get_in hi) (fun q => e (inj hi hk (q.trans hf.symm)))
  · rw [List.length_set] at hi ⊢
    rw [key _ (pd_lt hi), ← h.p i hi, set_get _ _ _ _ hk]
    by_cases e : i = k
    · subst e
      rw [if_pos rfl, p1, hf]
    · rw [if_neg e]
      exact p2 _ (get_in hi) (fun q => e (inj hi hk (q.trans hf.symm)))
end Go.Proofs.YtjjfihoplkddfaaGreatDoor.Rin

namespace Go.Proofs.YtjjfihoplkddfaaGreatDoor.Rin
open Go.RowKit Num
open Mem (Mm MemC MRet Hm rd blkM)
open Sla (Sl St Lv pl aT pV)
open Cls (szC blC pdC)
open Arn (wrL)
set_option linter.unusedVariables false

/-- What a ring's bytes say: the root's words, and the links of entries. -/
structure Rv where
  hand : Nat
  broom : Nat
  cnt : Nat
  nx : Nat → Nat
  pv : Nat → Nat
/-- A link: the field 5 is next, 6 is prev. -/
def Rv.get (R : Rv) (f : Int) (x : Nat) : Nat := if f = 5 then R.nx x else R.pv x
def Rv.put (R : Rv) (f : Int) (x v : Nat) : Rv := if f = 5 then { R with nx := up R.nx x v } else { R with pv := up R.pv x v }
/-- A cursor: 13 is the hand, 14 is the broom. -/
def Rv.cur (R : Rv) (c : Int) : Nat := if c = 13 then R.hand else R.broom
def Rv.setCur (R : Rv) (c : Int) (v : Nat) : Rv := if c = 13 then { R with hand := v } else { R with broom := v }
/-- An entry's head. -/
def bl (B : Nat → Hea.Blk) (R : Rv) (x : Nat) : Hea.Blk := { B x with next := (R.nx x : Int), prev := (R.pv x : Int) }
structure EOk (b : Hea.Blk) : Prop where
  ok : b.Ok
  right : Hea.RightP b
  tag : b.tag = 1
theorem EOk.link {b : Hea.Blk} (h : EOk b) {n p : Nat} (hn : n < 4294967296) (hp : p < 4294967296) : EOk { b with next := (n : Int), prev := (p : Int) } := by
  obtain ⟨⟨k1, k2, k3, k4, k5, k6, k7, k8, k9, k10, k11⟩, hr, ht⟩ := h
  refine ⟨⟨k1, k2, k3, k4, ⟨by show (0 : Int) ≤ (n : Int); omega, by show (n : Int) < _; omega⟩, ⟨by show (0 : Int) ≤ (p : Int); omega, by show (p : Int) < _; omega⟩, k7, k8, k9, k10, k11⟩, ?_, ht⟩
  rcases hr with ⟨h0, -⟩ | hr | ⟨h0, -⟩
  · rw [ht] at h0; cases h0
  · exact .inr (.inl hr)
  · rw [ht] at h0; cases h0
theorem enc32 {b : Hea.Blk} (ht : b.tag = 1) : (Hea.encL b).length = 32 := by simp [Hea.encL, ht, Hea.p1, Hea.p4, Hea.p8, Hea.p2]
theorem enc_tag {b : Hea.Blk} (ht : b.tag = 1) : (Hea.encL b).getD 0 0 = 1 := by simp [Hea.encL, Hea.p1, ht]
theorem enc_next {b : Hea.Blk} (ht : b.tag = 1) (v : Nat) (hv : v < 4294967296) : stl (Hea.encL b) 8 4 (v : Int) = Hea.encL { b with next := (v : Int) } := by
  have e : (v : Int) / 16777216 % 256 = (v : Int) / 16777216 := by omega
  simp [Hea.encL, ht, Hea.p1, Hea.p4, Hea.p8, Hea.p2, stl, parts, e]
theorem enc_prev {b : Hea.Blk} (ht : b.tag = 1) (v : Nat) (hv : v < 4294967296) : stl (Hea.encL b) 12 4 (v : Int) = Hea.encL { b with prev := (v : Int) } := by
  have e : (v : Int) / 16777216 % 256 = (v : Int) / 16777216 := by omega
  simp [Hea.encL, ht, Hea.p1, Hea.p4, Hea.p8, Hea.p2, stl, parts, e]

/-! ### Entries that lie apart -/
structure Ap (E : List Nat) (n : Nat) : Prop where
  lo : ∀ x ∈ E, 128 ≤ x
  al : ∀ x ∈ E, x % 16 = 0
  hi : ∀ x ∈ E, x + 32 ≤ n
  ap : ∀ x ∈ E, ∀ y ∈ E, x ≠ y → x + 32 ≤ y ∨ y + 32 ≤ x
/-- Nothing but links and the root's three words is changed. -/
structure Nr (E : List Nat) (l l' : List Int) : Prop where
  len : l'.length = l.length
  out : ∀ t, ¬ (60 ≤ t ∧ t < 72) → (∀ x ∈ E, ¬ (x + 8 ≤ t ∧ t < x + 16)) → l'.getD t 0 = l.getD t 0
theorem Nr.refl (E : List Nat) (l : List Int) : Nr E l l := ⟨rfl, fun _ _ _ => rfl⟩
theorem Nr.trans {E : List Nat} {a b c : List Int} (h : Nr E a b) (k : Nr E b c) : Nr E a c := ⟨k.len.trans h.len, fun t h1 h2 => (k.out t h1 h2).trans (h.out t h1 h2)⟩
theorem Nr.wide {E F : List Nat} {a b : List Int} (h : Nr E a b) (hs : ∀ x ∈ E, x ∈ F) : Nr F a b := ⟨h.len, fun t h1 h2 => h.out t h1 (fun x hx => h2 x (hs x hx))⟩
/-- The bytes say R. -/
structure Rb (E : List Nat) (B : Nat → Hea.Blk) (l : List Int) (R : Rv) : Prop where
  ent : ∀ x ∈ E, (l.drop x).take 32 = Hea.encL (bl B R x)
  ok : ∀ x ∈ E, EOk (B x) ∧ R.nx x < 4294967296 ∧ R.pv x < 4294967296
  hand : rd l 60 4 = (R.hand : Int)
  broom : rd l 64 4 = (R.broom : Int)
  cnt : rd l 68 4 = (R.cnt : Int)
section
variable {E : List Nat} {B : Nat → Hea.Blk} {l l' : List Int} {R : Rv}
theorem Rb.eok (h : Rb E B l R) {x : Nat} (hx : x ∈ E) : EOk (bl B R x) := by
  obtain ⟨h1, h2, h3⟩ := h.ok x hx
  exact h1.link h2 h3
theorem Rb.tag (h : Rb E B l R) {x : Nat} (hx : x ∈ E) : l.getD x 0 = 1 := by
  have h1 := enc_tag (h.eok hx).tag
  rw [← h.ent x hx, take_getD _ _ _ (by omega), drop_getD] at h1
  exact h1
theorem Rb.part (h : Rb E B l R) {x : Nat} (hx : x ∈ E) : (l.drop x).take (Hea.encL (bl B R x)).length = Hea.encL (bl B R x) := by
  rw [enc32 (h.eok hx).tag]
  exact h.ent x hx
/-- What a link says. -/
theorem Rb.ld (h : Rb E B l R) {x : Nat} (hx : x ∈ E) {f : Int} (hf : f = 5 ∨ f = 6) : Hea.ldF l x 1 f = (R.get f x : Int) := by
  have hk := h.eok hx
  have ht : (bl B R x).tag = 1 := hk.tag
  rcases hf with rfl | rfl
  · have := Hea.ld_num hk.ok hk.right (h.part hx) (f := 5) (by rw [ht]; decide) (by omega)
    rw [ht] at this
    exact this
  · have := Hea.ld_num hk.ok hk.right (h.part hx) (f := 6) (by rw [ht]; decide) (by omega)
    rw [ht] at this
    exact this
theorem Rb.ld_tag (h : Rb E B l R) {x : Nat} (hx : x ∈ E) : Hea.ldF l x 1 0 = 1 := by
  have hk := h.eok hx
  have ht : (bl B R x).tag = 1 := hk.tag
  have := Hea.ld_num hk.ok hk.right (h.part hx) (f := 0) (by rw [ht]; decide) (by omega)
  rw [ht] at this
  rw [show ((0 : Nat) : Int) = 0 from rfl] at this
  rw [this]
  show IntKind.u64.wrap (bl B R x).tag = 1
  rw [ht]
  decide
theorem st_at {x : Nat} {f : Int} (hf : f = 5 ∨ f = 6) {v : Nat} (hv : v < 4294967296) : Hea.stF l x 1 f (v : Int) = stl l (x + (if f = 5 then 8 else 12)) 4 (v : Int) ∧ Hea.okF 1 f (v : Int) = true := by
  have hfit : fits (v : Int) 4 = true := by simp [fits, isW]; omega
  have hok : Hea.okF 1 f (v : Int) = true := by
    rcases hf with rfl | rfl
    · show (decide _ && fits (v : Int) 4) = true
      rw [hfit]
      rfl
    · show (decide _ && fits (v : Int) 4) = true
      rw [hfit]
      rfl
  refine ⟨?_, hok⟩
  rw [Hea.stF_yes hok]
  rcases hf with rfl | rfl <;> rfl
/-- A link is written. -/
theorem Rb.st (h : Rb E B l R) (ha : Ap E l.length) {x : Nat} (hx : x ∈ E) {f : Int} (hf : f = 5 ∨ f = 6) {v : Nat} (hv : v < 4294967296) :
    Rb E B (Hea.stF l x 1 f (v : Int)) (R.put f x v) ∧ Nr E l (Hea.stF l x 1 f (v : Int)) := by
  rw [(st_at hf hv).1]
  obtain ⟨o, ho⟩ : ∃ o : Nat, o = if f = 5 then 8 else 12 := ⟨_, rfl⟩
  rw [← ho]
  have ho2 : o = 8 ∨ o = 12 := by rcases hf with rfl | rfl <;> simp at ho <;> omega
  have hlo := ha.lo x hx
  have hhi := ha.hi x hx
  have hlen : (stl l (x + o) 4 (v : Int)).length = l.length := stl_length _ _ _ _ (by omega) (by omega)
  have hk := h.eok hx
  have key : stl l (x + o) 4 (v : Int) = wrL l x (Hea.encL (bl B (R.put f x v) x)) := by
    have e1 : l = wrL l x (Hea.encL (bl B R x)) := by rw [← h.ent x hx, Hea.wrL_self hhi]
    have e32 := enc32 hk.tag
    rw [e1, Hea.stl_in (by rw [e32]; exact hhi) (by rw [e32]; omega) (by omega), ← e1]
    congr 1
    rcases hf with rfl | rfl
    · rw [if_pos rfl] at ho
      subst ho
      rw [enc_next hk.tag v hv]
      congr 1
      unfold bl Rv.put
      rw [if_pos rfl]
      simp only [up_same]
    · rw [if_neg (by decide)] at ho
      subst ho
      rw [enc_prev hk.tag v hv]
      congr 1
      unfold bl Rv.put
      rw [if_neg (by decide)]
      simp only [up_same]
  have hB : ∀ y ∈ E, y ≠ x → bl B (R.put f x v) y = bl B R y := fun y hy hne => by
    unfold bl Rv.put
    rcases hf with rfl | rfl
    · rw [if_pos rfl]
      simp only [up_other _ hne]
    · rw [if_neg (by decide)]
      simp only [up_other _ hne]
  have hbd : ∀ y ∈ E, (R.put f x v).nx y < 4294967296 ∧ (R.put f x v).pv y < 4294967296 := fun y hy => by
    obtain ⟨-, h2, h3⟩ := h.ok y hy
    unfold Rv.put
    rcases hf with rfl | rfl
    · rw [if_pos rfl]
      refine ⟨?_, h3⟩
      show up R.nx x v y < _
      unfold up
      split <;> omega
    · rw [if_neg (by decide)]
      refine ⟨h2, ?_⟩
      show up R.pv x v y < _
      unfold up
      split <;> omega
  have ekx : EOk (bl B (R.put f x v) x) := (h.ok x hx).1.link (hbd x hx).1 (hbd x hx).2
  have hr : (R.put f x v).hand = R.hand ∧ (R.put f x v).broom = R.broom ∧ (R.put f x v).cnt = R.cnt := by
    unfold Rv.put
    split <;> exact ⟨rfl, rfl, rfl⟩
  refine ⟨⟨fun y hy => ?_, fun y hy => ⟨(h.ok y hy).1, hbd y hy⟩, ?_, ?_, ?_⟩, hlen, fun t h1 h2 => ?_⟩
  · by_cases e : y = x
    · subst e
      have e32 := enc32 ekx.tag
      have := Mem.wr_part l (Hea.encL (bl B (R.put f y v) y)) y (by rw [e32]; exact hhi)
      rw [key]
      rw [e32] at this
      exact this
    · rw [hB y hy e, ← h.ent y hy, key]
      have := ha.ap y hy x hx e
      exact Mem.wr_other _ _ _ _ _ (by rw [enc32 ekx.tag]; exact hhi) (by rw [enc32 ekx.tag]; omega)
  · rw [Mem.rd_other (by omega) (by omega) (by omega), hr.1]
    exact h.hand
  · rw [Mem.rd_other (by omega) (by omega) (by omega), hr.2.1]
    exact h.broom
  · rw [Mem.rd_other (by omega) (by omega) (by omega), hr.2.2]
    exact h.cnt
  · have := h2 x hx
    exact Lis.st_get (by omega) (by omega) (by omega)
/-- One of the root's words is written. -/
theorem Rb.root (h : Rb E B l R) (ha : Ap E l.length) (hl : 128 ≤ l.length) {c : Nat} (hc : c = 60 ∨ c = 64 ∨ c = 68) {v : Nat} (hv : v < 4294967296) {R' : Rv} (hn : R'.nx = R.nx) (hp : R'.pv = R.pv)
    (h1 : R'.hand = if c = 60 then v else R.hand) (h2 : R'.broom = if c = 64 then v else R.broom) (h3 : R'.cnt = if c = 68 then v else R.cnt) : Rb E B (stl l c 4 (v : Int)) R' ∧ Nr E l (stl l c 4 (v : Int)) := by
  have hlen : (stl l c 4 (v : Int)).length = l.length := stl_length _ _ _ _ (by omega) (by omega)
  have hsame : ∀ a, a = c → rd (stl l c 4 (v : Int)) a 4 = (v : Int) := fun a e => by
    subst e
    exact Mem.rd_same (by omega) (by decide) (by omega) (by simp [fits, isW]; omega)
  refine ⟨⟨fun y hy => ?_, fun y hy => ?_, ?_, ?_, ?_⟩, hlen, fun t g1 g2 => Lis.st_get (by omega) (by omega) (by omega)⟩
  · have := ha.lo y hy
    have e : bl B R' y = bl B R y := by unfold bl; rw [hn, hp]
    rw [e, ← h.ent y hy, Mem.stl_wrL _ _ _ _ (by omega)]
    exact Mem.wr_other _ _ _ _ _ (by simp [parts]; omega) (by simp [parts]; omega)
  · rw [hn, hp]
    exact h.ok y hy
  · rw [h1]
    by_cases e : c = 60
    · rw [if_pos e]; exact hsame _ e.symm
    · rw [if_neg e, Mem.rd_other (by omega) (by omega) (by omega)]; exact h.hand
  · rw [h2]
    by_cases e : c = 64
    · rw [if_pos e]; exact hsame _ e.symm
    · rw [if_neg e, Mem.rd_other (by omega) (by omega) (by omega)]; exact h.broom
  · rw [h3]
    by_cases e : c = 68
    · rw [if_pos e]; exact hsame _ e.symm
    · rw [if_neg e, Mem.rd_other (by omega) (by omega) (by omega)]; exact h.cnt
/-- The same bytes there: the same ring. -/
theorem Rb.same (h : Rb E B l R) (hl : l'.length = l.length) (hr : ∀ t, 60 ≤ t → t < 72 → l'.getD t 0 = l.getD t 0) (he : ∀ x ∈ E, ∀ t, x ≤ t → t < x + 32 → l'.getD t 0 = l.getD t 0) : Rb E B l' R := by
  refine ⟨fun x hx => ?_, h.ok, ?_, ?_, ?_⟩
  · rw [← h.ent x hx]
    refine Mem.list_of_getD (by simp [hl]) (fun i hi => ?_)
    have h1 : i < 32 := by rw [List.length_take] at hi; omega
    rw [take_getD _ _ _ h1, take_getD _ _ _ h1, drop_getD, drop_getD]
    exact he x hx _ (by omega) (by omega)
  · rw [Sla.rd_agree hl (fun t h1 h2 => hr t (by omega) (by omega))]; exact h.hand
  · rw [Sla.rd_agree hl (fun t h1 h2 => hr t (by omega) (by omega))]; exact h.broom
  · rw [Sla.rd_agree hl (fun t h1 h2 => hr t (by omega) (by omega))]; exact h.cnt
theorem Rb.sub (h : Rb E B l R) {F : List Nat} (hs : ∀ x ∈ F, x ∈ E) : Rb F B l R := ⟨fun x hx => h.ent x (hs x hx), fun x hx => h.ok x (hs x hx), h.hand, h.broom, h.cnt⟩
/-- The same ring again: the same bytes. -/
theorem Rb.back {R' : Rv} (h : Rb E B l R) (h' : Rb E B l' R') (hb : Arn.IsBytes l) (hb' : Arn.IsBytes l') (ha : Ap E l.length) (hl : 128 ≤ l.length) (hn : Nr E l l') (e1 : R'.hand = R.hand) (e2 : R'.broom = R.broom) (e3 : R'.cnt = R.cnt)
    (e4 : ∀ x ∈ E, R'.nx x = R.nx x ∧ R'.pv x = R.pv x) : l' = l := by
  refine Mem.list_of_getD hn.len (fun t ht => ?_)
  by_cases hr : 60 ≤ t ∧ t < 72
  · by_cases c1 : t < 64
    · exact (Lis.rd_inj hb hb' hn.len (a := 60) (n := 4) (by omega) (by rw [h.hand, h'.hand, e1]) (by omega) (by omega)).symm
    · by_cases c2 : t < 68
      · exact (Lis.rd_inj hb hb' hn.len (a := 64) (n := 4) (by omega) (by rw [h.broom, h'.broom, e2]) (by omega) (by omega)).symm
      · exact (Lis.rd_inj hb hb' hn.len (a := 68) (n := 4) (by omega) (by rw [h.cnt, h'.cnt, e3]) (by omega) (by omega)).symm
  · by_cases hx : ∃ x ∈ E, x + 8 ≤ t ∧ t < x + 16
    · obtain ⟨x, hx, h1, h2⟩ := hx
      have e : bl B R' x = bl B R x := by
        obtain ⟨q1, q2⟩ := e4 x hx
        unfold bl
        rw [q1, q2]
      have k1 := h.ent x hx
      have k2 := h'.ent x hx
      rw [e, ← k1] at k2
      have := congrArg (fun z => z.getD (t - x) 0) k2
      rw [take_getD _ _ _ (by omega), take_getD _ _ _ (by omega), drop_getD, drop_getD, show x + (t - x) = t by omega] at this
      exact this
    · exact hn.out t hr (fun x hxE q => hx ⟨x, hxE, q⟩)
end
end Go.Proofs.YtjjfihoplkddfaaGreatDoor.Rin

namespace Go.Proofs.YtjjfihoplkddfaaGreatDoor.Rin
open Go.RowKit Num
open Mem (Mm MemC MRet Hm rd blkM)
open Lis (Cf LM LR Tb at_ Nx Pv Rep Hx valsN)
open Sla (Sl St Sx SM SR SlabOk Out Lv pl aT pV ok_base bl_in bl_apart mem_lt Tk)
open Cls (szC blC pdC)
open Arn (wrL is64)
set_option linter.unusedVariables false

section
variable {h : Hm} {S N : Nat} {l0 l l' : List Int} {T T' : List Sl} {w w' W W' : World}
/-- The bytes themselves as what the low ones are compared with. -/
theorem st_self (d : St h S N l0 l T W) : St h S N l l T W := by
  obtain ⟨H, L, ⟨C, h1, h2, h3, h4, h5⟩, d2⟩ := d
  exact ⟨H, L, ⟨C, h1, h2, h3, h4, ⟨h5.ok, h5.rep, h5.xl, h5.ll, h5.tl, fun _ _ _ => rfl, h5.xlow, h5.sl⟩⟩, d2⟩
theorem st_len (d : St h S N l0 l T W) : l.length = Lay.sizeT S N ∧ l.length ≤ 100000 ∧ 240 ≤ l.length := by
  obtain ⟨H, L, ⟨C, rfl, rfl, h3, h4, h5⟩, d2⟩ := d
  have hb := ok_base h5.ok
  have := h5.ok.lo
  have := h5.ll
  omega
theorem st_bytes (d : St h S N l0 l T W) : Arn.IsBytes l := by
  obtain ⟨H, L, ⟨C, rfl, rfl, h3, h4, h5⟩, d2⟩ := d
  exact h4.m.bytes
theorem st_low (d : St h S N l0 l T W) {t : Nat} (h1 : 60 ≤ t) (h2 : t < 128) : l.getD t 0 = l0.getD t 0 := by
  obtain ⟨H, L, ⟨C, rfl, rfl, h3, h4, h5⟩, d2⟩ := d
  have hb := ok_base h5.ok
  exact h5.low t (by omega) (by omega)
theorem lv_at (d : St h S N l0 l T W) {x : Nat} (hx : Lv S N T x) : 128 ≤ x ∧ x % 16 = 0 ∧ x + 32 ≤ Lay.sizeT S N ∧ Lay.sizeT S N ≤ 100000 := by
  obtain ⟨H, L, ⟨C, rfl, rfl, h3, h4, h5⟩, d2⟩ := d
  obtain ⟨j, k, hj, hk, rfl⟩ := hx
  have hb := ok_base h5.ok
  have hin := bl_in (mem_lt hk).1
  have hm := Sla.mul_mod ((T.getD j Sl.zero).c : Int) k
  unfold pl aT
  omega
theorem lv_apart {x y : Nat} (hx : Lv S N T x) (hy : Lv S N T y) (hne : x ≠ y) : x + 32 ≤ y ∨ y + 32 ≤ x := by
  obtain ⟨j, k, hj, hk, rfl⟩ := hx
  obtain ⟨j', k', hj', hk', rfl⟩ := hy
  have h1 := Sla.blk_apart (S := S) (N := N) (mem_lt hk).1 (mem_lt hk').1 (by rintro ⟨rfl, rfl⟩; exact hne rfl)
  have h2 := bl_in (mem_lt hk).1
  have h3 := bl_in (mem_lt hk').1
  omega
theorem ap_of (d : St h S N l0 l T W) {E : List Nat} (hE : ∀ x ∈ E, Lv S N T x) : Ap E l.length := by
  obtain ⟨h1, h2, h3⟩ := st_len d
  refine ⟨fun x hx => ?_, fun x hx => ?_, fun x hx => ?_, fun x hx y hy hne => lv_apart (hE x hx) (hE y hy) hne⟩
  all_goals
    have := lv_at d (hE x hx)
    omega
theorem SlabOk.inside {x : List Int} {A : Nat} {s : Sl} (d : SlabOk l x A s) {k : Nat} (hk : k ∈ s.v) (hs : ∀ t, ¬ (pl A s.c k ≤ t ∧ t < pl A s.c k + szC s.c) → l'.getD t 0 = l.getD t 0) : SlabOk l' x A s := by
  obtain ⟨h1, h2⟩ := mem_lt hk
  have hin := bl_in h1
  refine ⟨d.ok, d.k, d.f.same (fun j hj i hi => hs _ ?_), fun t q1 q2 => ?_⟩
  · have e : j ≠ k := by rintro rfl; exact h2 hj
    rcases Nat.lt_or_gt_of_ne e with q | q
    · have := bl_apart s.c q
      unfold pl; omega
    · have := bl_apart s.c q
      unfold pl; omega
  · have hn : ¬ (pl A s.c k ≤ t ∧ t < pl A s.c k + szC s.c) := by unfold pl; omega
    rw [hs t hn]
    exact d.p t q1 q2
/-- A live block is written. -/
theorem Sx.inside {C : Cf} {H : List Hx} {L : List Int} (h5 : Sx l0 C l H L T) {j k : Nat} (hj : j < C.s) (hk : k ∈ (T.getD j Sl.zero).v) (hl : l'.length = l.length)
    (hs : ∀ t, ¬ (pl (aT C.s C.n j) (T.getD j Sl.zero).c k ≤ t ∧ t < pl (aT C.s C.n j) (T.getD j Sl.zero).c k + szC (T.getD j Sl.zero).c) → l'.getD t 0 = l.getD t 0) : Sx l0 C l' H L T := by
  have hin := bl_in (mem_lt hk).1
  have ho : Out (aT C.s C.n j) 1024 l l' C.x C.x := ⟨hl, rfl, fun t ht => hs t (by unfold pl; omega), fun _ _ => rfl⟩
  have hx := h5.slab hj ho (SlabOk.inside (h5.sl j hj) hk hs)
  rw [Sla.set_self T j (by rw [h5.tl]; exact hj)] at hx
  exact hx
/-- The words of a ring are written. -/
theorem rep_ring {H : List Hx} {L : List Int} (h : Rep S l l H L) (hl : l'.length = l.length) (hlow : ∀ t, t < 60 ∨ 72 ≤ t → l'.getD t 0 = l.getD t 0) : Rep S l' l' H L := by
  refine ⟨by rw [hl]; exact h.room, rfl, h.len, h.hlen, h.cls, h.hok, fun _ _ => rfl, fun c hc => ?_, fun j hj => ?_, fun j hj => ?_, fun j hj => ?_⟩
  · obtain ⟨v, h1, h2⟩ := h.root c hc
    exact ⟨v, (Sla.rd_agree hl (fun t _ _ => hlow t (by omega))).trans h1, h2⟩
  · obtain ⟨h1, h2, h3⟩ := h.head j hj
    exact ⟨(Sla.rd_agree hl (fun t _ _ => hlow t (by omega))).trans h1, (Sla.rd_agree hl (fun t _ _ => hlow t (by omega))).trans h2, (Sla.rd_agree hl (fun t _ _ => hlow t (by omega))).trans h3⟩
  · obtain ⟨v, h1, h2⟩ := h.nxt j hj
    exact ⟨v, (Sla.rd_agree hl (fun t _ _ => hlow t (by omega))).trans h1, h2⟩
  · obtain ⟨v, h1, h2⟩ := h.prv j hj
    exact ⟨v, (Sla.rd_agree hl (fun t _ _ => hlow t (by omega))).trans h1, h2⟩
theorem Sx.ring {C : Cf} {H : List Hx} {L : List Int} (h5 : Sx l0 C l H L T) (hl : l'.length = l.length) (hs : ∀ t, t < 60 ∨ 72 ≤ t → l'.getD t 0 = l.getD t 0) : Sx l' C l' H L T := by
  have hb := ok_base h5.ok
  refine ⟨h5.ok, rep_ring h5.rep hl hs, h5.xl, hl.trans h5.ll, h5.tl, fun _ _ _ => rfl, h5.xlow, fun j hj => ?_⟩
  exact (h5.sl j hj).same (fun t h1 h2 => ⟨hs t (by unfold aT at h1; omega), rfl⟩)

/-! ### Loads and stores -/
theorem room_live {C : Cf} {H : List Hx} {L : List Int} (h5 : Sx l0 C l H L T) {j k : Nat} (hj : j < C.s) (hk : k ∈ (T.getD j Sl.zero).v) (l' : List Int) (lk : Int) : Hea.Room (C.mm l' lk) (pl (aT C.s C.n j) (T.getD j Sl.zero).c k) 1 := by
  have hb := ok_base h5.ok
  obtain ⟨h1, h2⟩ := mem_lt hk
  have hin := bl_in h1
  have hm := Sla.mul_mod ((T.getD j Sl.zero).c : Int) k
  refine ⟨by omega, by unfold pl aT; omega, ?_, fun i hi => ?_⟩
  · show _ + 32 ≤ C.x.length
    rw [h5.xl]
    unfold pl aT
    omega
  · have hi32 : i < 32 := hi
    have := (h5.sl j hj).k k h1 i (by omega)
    rw [if_neg h2] at this
    exact this
theorem st_hload (d : St h S N l0 l T W) {x : Nat} (hx : Lv S N T x) (ht : l.getD x 0 = 1) (f : Int) :
    Calls Tryz.prog 56 #[pV h, .int .i64 (x : Int), .int .i64 f] W fun e W' => e = .returned (.int .u64 (Hea.ldF l x 1 f)) ∧ St h S N l0 l T W' ∧ Fr W.heap.size (blkM h) W W' := by
  obtain ⟨H, L, ⟨C, rfl, rfl, h3, h4, h5⟩, d2⟩ := d
  obtain ⟨j, k, hj, hk, rfl⟩ := hx
  obtain ⟨-, lk0, hm⟩ := id h4.m
  refine (Hea.hload_any h _ (C.mm l lk0) _ 1 f W h4.t hm (room_live h5 hj hk l lk0) (fun _ => ht)).mono ?_
  rintro e w' ⟨lk, hq⟩
  have hr : SR h C l (.int .u64 (Hea.ldF l _ 1 f)) W e w' := h4.mret (lk := lk) hq
  exact ⟨hr.1, ⟨H, L, ⟨C, rfl, rfl, h3, hr.2.1, h5⟩, d2⟩, hr.2.2⟩
theorem st_hstore (d : St h S N l l T W) {x : Nat} (hx : Lv S N T x) (ht : l.getD x 0 = 1) {f : Int} (hf : f = 5 ∨ f = 6) {v : Nat} (hv : v < 4294967296) :
    Calls Tryz.prog 216 #[pV h, .int .i64 (x : Int), .int .i64 f, .int .u64 (v : Int)] W fun e W' => e = .returned (.bool true) ∧ St h S N (Hea.stF l x 1 f (v : Int)) (Hea.stF l x 1 f (v : Int)) T W' ∧ Fr W.heap.size (blkM h) W W' := by
  obtain ⟨h1, h2, h3'⟩ := st_len d
  have hat := lv_at d hx
  obtain ⟨H, L, ⟨C, rfl, rfl, h3, h4, h5⟩, d2⟩ := d
  obtain ⟨j, k, hj, hk, rfl⟩ := hx
  obtain ⟨-, lk0, hm⟩ := id h4.m
  obtain ⟨e1, e2⟩ := st_at (x := pl (aT C.s C.n j) (T.getD j Sl.zero).c k) hf hv
  refine (Hea.hstore_any h _ (C.mm l lk0) _ 1 f (v : Int) W h4.t hm (room_live h5 hj hk l lk0) (fun _ => ht) (by omega) (by omega)).mono ?_
  rintro e w' ⟨lk, hq⟩
  rw [e2] at hq
  have hr : SR h C (Hea.stF l _ 1 f (v : Int)) (.bool true) W e w' := h4.mret (lk := lk) hq
  have hin := bl_in (mem_lt hk).1
  have hx := Sx.inside (l' := Hea.stF l (pl (aT C.s C.n j) (T.getD j Sl.zero).c k) 1 f (v : Int)) h5 hj hk (by rw [e1]; exact stl_length _ _ _ _ (by split <;> omega) (by omega)) (fun t q => by
    rw [e1]
    exact Lis.st_get (by split <;> omega) (by omega) (by split <;> omega))
  exact ⟨hr.1, st_self ⟨H, L, ⟨C, rfl, rfl, h3, hr.2.1, hx⟩, d2⟩, hr.2.2⟩
/-- Three fields of the root. -/
def wd (f : Int) : Nat := if f = 13 then 60 else if f = 14 then 64 else 68
theorem wd_is {f : Int} (hf : f = 13 ∨ f = 14 ∨ f = 15) : Mem.fldM f = true ∧ Mem.fatM f = (wd f : Int) ∧ Mem.fwdM f = ((4 : Nat) : Int) ∧ (wd f = 60 ∨ wd f = 64 ∨ wd f = 68) := by
  rcases hf with rfl | rfl | rfl <;> decide
theorem ring_look {C : Cf} (hC : C.Ok) {a : Nat} (ha : a = 60 ∨ a = 64 ∨ a = 68) : Wat.lookA C.x (a : Int) ((4 : Nat) : Int) 2 = true := by
  have := hC.len
  have := hC.lo
  exact Mem.look_iff.2 ⟨by decide, by omega, by omega, by decide, fun j hj => hC.root _ (by omega) (by omega)⟩
theorem st_root (d : St h S N l0 l T W) {f : Int} (hf : f = 13 ∨ f = 14 ∨ f = 15) :
    Calls Tryz.prog 134 #[pV h, .int .i64 f] W fun e W' => e = .returned (.int .u64 (rd l (wd f) 4)) ∧ St h S N l0 l T W' ∧ Fr W.heap.size (blkM h) W W' := by
  obtain ⟨H, L, ⟨C, rfl, rfl, h3, h4, h5⟩, d2⟩ := d
  obtain ⟨ht, lk, hm⟩ := id h4.m
  obtain ⟨f1, f2, f3, f4⟩ := wd_is hf
  refine (Mem.root_any h _ (C.mm l lk) _ W hm ht.p).mono ?_
  intro e w' hq
  rw [Mem.Mm.root, if_pos f1, f2, f3, Mem.load_ok (ring_look h5.ok f4) hm.lenx] at hq
  have hr : SR h C l (.int .u64 (rd l (wd f) 4)) W e w' := h4.mret (lk := wrap64 (lk + 1)) hq
  exact ⟨hr.1, ⟨H, L, ⟨C, rfl, rfl, h3, hr.2.1, h5⟩, d2⟩, hr.2.2⟩
theorem st_setRoot (d : St h S N l0 l T W) {f : Int} (hf : f = 13 ∨ f = 14 ∨ f = 15) {v : Nat} (hv : v < 4294967296) :
    Calls Tryz.prog 133 #[pV h, .int .i64 f, .int .u64 (v : Int)] W fun e W' => e = .returned (.bool true) ∧ St h S N (stl l (wd f) 4 (v : Int)) (stl l (wd f) 4 (v : Int)) T W' ∧ Fr W.heap.size (blkM h) W W' := by
  obtain ⟨k1, k2, k3⟩ := st_len d
  obtain ⟨H, L, ⟨C, rfl, rfl, h3, h4, h5⟩, d2⟩ := d
  obtain ⟨ht, lk, hm⟩ := id h4.m
  obtain ⟨f1, f2, f3, f4⟩ := wd_is hf
  have hfit : fits (v : Int) ((4 : Nat) : Int) = true := by simp [fits, isW]; omega
  refine (Mem.setRoot_any h _ (C.mm l lk) _ (v : Int) W hm ht.p (by omega) (by omega)).mono ?_
  intro e w' hq
  rw [Mem.Mm.setRoot, if_pos f1, f2, f3, Mem.store_ok (ring_look h5.ok f4) hm.lenx hfit] at hq
  have hr : SR h C (stl l (wd f) 4 (v : Int)) (.bool true) W e w' := h4.mret (lk := wrap64 (lk + 1)) hq
  have hx := Sx.ring (l' := stl l (wd f) 4 (v : Int)) h5 (stl_length _ _ _ _ (by omega) (by omega)) (fun t q => Lis.st_get (by omega) (by omega) (by omega))
  exact ⟨hr.1, ⟨H, L, ⟨C, rfl, rfl, h3, hr.2.1, hx⟩, d2⟩, hr.2.2⟩
theorem st_config (d : St h S N l0 l T W) : Calls Tryz.prog 36 #[pV h] W fun e W' => e = .returned (.agg #[.int .i64 (S : Int), .int .i64 (N : Int)]) ∧ Below W.heap.size W W' := by
  obtain ⟨H, L, d1, d2⟩ := d
  exact d1.config

/-! ### The kind of each byte -/
/-- The kind of a byte, as the slabs tell it. -/
def kA (S N : Nat) (T : List Sl) (t : Nat) : Int :=
  if t < Lay.baseT S N then Mem.kindT S N t else
    let s := T.getD ((t - Lay.baseT S N) / 1024) Sl.zero
    let o := (t - Lay.baseT S N) % 1024
    if o < blC s.c * szC s.c then (if o / szC s.c ∈ s.f then 6 else 5) else if s.c = 0 then 7 else 8
def kX (S N : Nat) (T : List Sl) : List Int := (List.range (Lay.sizeT S N)).map (kA S N T)
theorem sx_x {C : Cf} {H : List Hx} {L : List Int} (h5 : Sx l0 C l H L T) : C.x = kX C.s C.n T := by
  have hb := ok_base h5.ok
  refine Mem.list_of_getD (by rw [h5.xl]; simp [kX]) (fun t ht => ?_)
  rw [h5.xl] at ht
  have e : (kX C.s C.n T).getD t 0 = kA C.s C.n T t := by simp [kX, List.getD, ht]
  rw [e]
  unfold kA
  by_cases h1 : t < Lay.baseT C.s C.n
  · rw [if_pos h1]
    exact h5.xlow t h1
  · rw [if_neg h1]
    obtain ⟨j, hj⟩ : ∃ j, (t - Lay.baseT C.s C.n) / 1024 = j := ⟨_, rfl⟩
    obtain ⟨o, ho⟩ : ∃ o, (t - Lay.baseT C.s C.n) % 1024 = o := ⟨_, rfl⟩
    have hjs : j < C.s := by omega
    have hto : t = aT C.s C.n j + o := by unfold aT; omega
    have ho2 : o < 1024 := by omega
    simp only
    rw [hj, ho]
    have hs := h5.sl j hjs
    by_cases h2 : o < blC (T.getD j Sl.zero).c * szC (T.getD j Sl.zero).c
    · rw [if_pos h2]
      have hz : 0 < szC ((T.getD j Sl.zero).c : Int) := by
        rcases Nat.eq_zero_or_pos (szC ((T.getD j Sl.zero).c : Int)) with q | q
        · rw [q] at h2; omega
        · exact q
      have hk : o / szC ((T.getD j Sl.zero).c : Int) < blC (T.getD j Sl.zero).c := (Nat.div_lt_iff_lt_mul hz).2 h2
      have := hs.k _ hk (o % szC ((T.getD j Sl.zero).c : Int)) (Nat.mod_lt _ hz)
      have e2 : pl (aT C.s C.n j) (T.getD j Sl.zero).c (o / szC ((T.getD j Sl.zero).c : Int)) + o % szC ((T.getD j Sl.zero).c : Int) = t := by
        have := Nat.div_add_mod o (szC ((T.getD j Sl.zero).c : Int))
        rw [Nat.mul_comm] at this
        unfold pl
        omega
      rw [e2] at this
      exact this
    · rw [if_neg h2]
      have := (hs.p t (by omega) (by omega)).1
      exact this
theorem st_kind (d : St h S N l0 l T W) (a n : Int) (ha : is64 a) :
    Calls Tryz.prog 167 #[pV h, .int .i64 a, .int .i64 n] W fun e W' => e = .returned (.int .i64 (Wat.kndA (kX S N T) a n)) ∧ Below W.heap.size W W' := by
  obtain ⟨H, L, ⟨C, rfl, rfl, h3, h4, h5⟩, d2⟩ := d
  obtain ⟨ht, lk, hm⟩ := id h4.m
  have := Mem.kind_any h _ (C.mm l lk) a n W hm ha
  rw [show (C.mm l lk).x = C.x from rfl, sx_x h5] at this
  exact this
/-- All bytes of a live block's head are live. -/
theorem kX_live (d : St h S N l0 l T W) {x : Nat} (hx : Lv S N T x) : Wat.kndA (kX S N T) (x : Int) 32 = 5 := by
  obtain ⟨H, L, ⟨C, rfl, rfl, h3, h4, h5⟩, d2⟩ := d
  obtain ⟨j, k, hj, hk, rfl⟩ := hx
  have hb := ok_base h5.ok
  obtain ⟨h1, h2⟩ := mem_lt hk
  have hin := bl_in h1
  rw [← sx_x h5]
  have hg : ∀ i, i < 32 → C.x.getD (pl (aT C.s C.n j) (T.getD j Sl.zero).c k + i) 0 = 5 := fun i hi => by
    have := (h5.sl j hj).k k h1 i (by omega)
    rw [if_neg h2] at this
    exact this
  generalize hp : pl (aT C.s C.n j) (T.getD j Sl.zero).c k = p at hg
  have hf : Arn.fitB C.x.length (p : Int) ((32 : Nat) : Int) = true := Arn.fitB_of (by rw [h5.xl, ← hp]; unfold pl aT; omega)
  rw [show (32 : Int) = ((32 : Nat) : Int) from rfl, Wat.kndA, if_pos hf, Int.toNat_natCast, Int.toNat_natCast]
  have hl : ((C.x.drop p).take 32).length = 32 := by rw [List.length_take, List.length_drop, h5.xl, ← hp]; unfold pl aT; omega
  have hgg : ∀ i, i < 32 → ((C.x.drop p).take 32).getD i 0 = 5 := fun i hi => by rw [take_getD _ _ _ hi, drop_getD, hg i hi]
  unfold Wat.kndS
  rw [if_pos, hgg 0 (by omega)]
  refine ⟨fun e => by rw [e] at hl; simp at hl, fun i hi => by rw [hgg i (by omega), hgg 0 (by omega)]⟩
end
end Go.Proofs.YtjjfihoplkddfaaGreatDoor.Rin

namespace Go.Proofs.YtjjfihoplkddfaaGreatDoor.Rin
open Go.RowKit Num
open Mem (Mm MemC MRet Hm rd blkM)
open Lis (Cf LM LR Tb at_ Nx Pv Rep Hx valsN not_blk cell_lt tab_same)
open Sla (Sl St Lv pl aT pV Lo)
open Arn (wrL is64)
set_option linter.unusedVariables false

/-- The package variable holds the fields of the cursors. -/
def TabC (w : World) : Prop := Lib.TabIs Tryz.prog w "columbarium/ring.cursors" .i64 [13, 14]
theorem tabC_of {l : List (String × DataW Unit)} {w : World} (hp : (l.all fun x => x.2.handleName?.isNone) = true) (hm : ("columbarium/ring.cursors", Rows.laid_columbarium_ring_cursors) ∈ l) (h : laidMetH Tryz.prog l w) : TabC w :=
  tab_of_laid (g := 0) (n := 2) (t := 159) (e := 3) hp hm (by kernel_rfl) (by kernel_rfl) (by kernel_rfl) (by kernel_rfl) (by kernel_rfl) (by kernel_rfl) h
theorem TabC.keep {w w' : World} (hb : Below w.heap.size w w') (h : TabC w) : TabC w' := tab_keep hb h
theorem TabC.cell {w : World} (h : TabC w) : w.cell? ⟨0, 0, none⟩ = some (.int .i64 13) ∧ w.cell? ⟨0, 1, none⟩ = some (.int .i64 14) :=
  ⟨Lib.TabIs.cell h (show Tryz.prog.globalNamed "columbarium/ring.cursors" = some 0 by kernel_rfl) 0 (by decide), Lib.TabIs.cell h (show Tryz.prog.globalNamed "columbarium/ring.cursors" = some 0 by kernel_rfl) 1 (by decide)⟩

/-- What stays the same while a ring changes: where the memory lies, its slabs, the entries, their heads besides links, the bytes at some time. -/
structure Fx where
  h : Hm
  S : Nat
  N : Nat
  T : List Sl
  E : List Nat
  B : Nat → Hea.Blk
  lb : List Int
structure En (X : Fx) (l : List Int) (R : Rv) (W : World) : Prop where
  st : St X.h X.S X.N l l X.T W
  lv : ∀ x ∈ X.E, Lv X.S X.N X.T x
  rb : Rb X.E X.B l R
  tc : TabC W
structure Rs (X : Fx) (R : Rv) (W : World) : Prop where
  ex : ∃ l, En X l R W ∧ Nr X.E X.lb l
/-- What a call comes to. -/
def RsR (X : Fx) (R : Rv) (r : Value) (w : World) (e : Ending) (w' : World) : Prop := e = .returned r ∧ Rs X R w' ∧ Fr w.heap.size (blkM X.h) w w'
def Rv.word (R : Rv) (f : Int) : Nat := if f = 13 then R.hand else if f = 14 then R.broom else R.cnt
def Rv.setW (R : Rv) (f : Int) (v : Nat) : Rv := if f = 13 then { R with hand := v } else if f = 14 then { R with broom := v } else { R with cnt := v }
theorem tabC_fr {h : Hm} {S N : Nat} {l0 l : List Int} {T : List Sl} {w w' : World} (ht : TabC w) (d : St h S N l0 l T w) (hf : Fr w.heap.size (blkM h) w w') : TabC w' := by
  obtain ⟨H, L, ⟨C, rfl, rfl, h3, h4, h5⟩, d2⟩ := d
  obtain ⟨-, lk, hm⟩ := id h4.m
  have c1 := ht.cell.1
  exact tab_same (show Tryz.prog.globalNamed "columbarium/ring.cursors" = some 0 by kernel_rfl) (hf.block _ (cell_lt c1) (not_blk hm c1)) ht
section
variable {X : Fx} {l : List Int} {R R' : Rv} {r r' : Value} {w w1 w2 w' W W' : World} {e e' : Ending}
theorem En.ap (d : En X l R W) : Ap X.E l.length := ap_of d.st d.lv
theorem En.below (d : En X l R w) (hb : Below w.heap.size w w') : En X l R w' := ⟨d.st.below hb, d.lv, d.rb, d.tc.keep hb⟩
theorem Rs.below (d : Rs X R w) (hb : Below w.heap.size w w') : Rs X R w' := by
  obtain ⟨l, h1, h2⟩ := d
  exact ⟨l, h1.below hb, h2⟩
theorem Rs.drew (d : Rs X R w) : Rs X R w.drew := d.below (Below.refl _ _).drew
theorem Rs.lt (d : Rs X R w) : ∀ k, blkM X.h k → k < w.heap.size := by
  obtain ⟨l, h1, h2⟩ := d
  exact fun k hk => h1.st.lo.m k hk
theorem Rs.only (d : Rs X R w) (hb : Below w.heap.size w w') (r : Value) : RsR X R r w (.returned r) w' := ⟨rfl, d.below hb, Fr.of_below hb⟩
theorem RsR.then (h1 : RsR X R r w e w1) (h2 : RsR X R' r' w1 e' w2) : RsR X R' r' w e' w2 := ⟨h2.1, h2.2.1, h1.2.2.trans (h2.2.2.mono h1.2.2.size (fun _ _ hk => hk))⟩
theorem RsR.of_fr (hb : Below w.heap.size w w1) (h2 : RsR X R r w1 e w2) : RsR X R r w e w2 := ⟨h2.1, h2.2.1, (Fr.of_below hb).trans (h2.2.2.mono hb.size (fun _ _ hk => hk))⟩
theorem RsR.ret (h1 : RsR X R r w e w1) (r' : Value) : RsR X R r' w (.returned r') w1 := ⟨rfl, h1.2.1, h1.2.2⟩
theorem Rs.facts (d : Rs X R w) {x : Nat} (hx : x ∈ X.E) : 128 ≤ x ∧ x % 16 = 0 ∧ x + 32 ≤ 100000 := by
  obtain ⟨l, h1, h2⟩ := d
  have := lv_at h1.st (h1.lv x hx)
  omega
theorem Rs.tc (d : Rs X R w) : TabC w := by
  obtain ⟨l, h1, h2⟩ := d
  exact h1.tc
theorem Rs.load (d : Rs X R w) {x : Nat} (hx : x ∈ X.E) {f : Int} (hf : f = 5 ∨ f = 6) :
    Calls Tryz.prog 56 #[pV X.h, .int .i64 (x : Int), .int .i64 f] w (RsR X R (.int .u64 (R.get f x : Int)) w) := by
  obtain ⟨l, h1, h2⟩ := d
  refine (st_hload h1.st (h1.lv x hx) (h1.rb.tag hx) f).mono ?_
  rintro e w' ⟨rfl, hs, hf'⟩
  rw [h1.rb.ld hx hf]
  exact ⟨rfl, ⟨l, ⟨hs, h1.lv, h1.rb, tabC_fr h1.tc h1.st hf'⟩, h2⟩, hf'⟩
theorem Rs.tag (d : Rs X R w) {x : Nat} (hx : x ∈ X.E) :
    Calls Tryz.prog 56 #[pV X.h, .int .i64 (x : Int), .int .i64 0] w (RsR X R (.int .u64 1) w) := by
  obtain ⟨l, h1, h2⟩ := d
  refine (st_hload h1.st (h1.lv x hx) (h1.rb.tag hx) 0).mono ?_
  rintro e w' ⟨rfl, hs, hf'⟩
  rw [h1.rb.ld_tag hx]
  exact ⟨rfl, ⟨l, ⟨hs, h1.lv, h1.rb, tabC_fr h1.tc h1.st hf'⟩, h2⟩, hf'⟩
theorem Rs.store (d : Rs X R w) {x : Nat} (hx : x ∈ X.E) {f : Int} (hf : f = 5 ∨ f = 6) {v : Nat} (hv : v < 4294967296) :
    Calls Tryz.prog 216 #[pV X.h, .int .i64 (x : Int), .int .i64 f, .int .u64 (v : Int)] w (RsR X (R.put f x v) (.bool true) w) := by
  obtain ⟨l, h1, h2⟩ := d
  refine (st_hstore h1.st (h1.lv x hx) (h1.rb.tag hx) hf hv).mono ?_
  rintro e w' ⟨rfl, hs, hf'⟩
  obtain ⟨k1, k2⟩ := h1.rb.st h1.ap hx hf hv
  exact ⟨rfl, ⟨_, ⟨hs, h1.lv, k1, tabC_fr h1.tc h1.st hf'⟩, h2.trans k2⟩, hf'⟩
theorem Rs.root (d : Rs X R w) {f : Int} (hf : f = 13 ∨ f = 14 ∨ f = 15) :
    Calls Tryz.prog 134 #[pV X.h, .int .i64 f] w (RsR X R (.int .u64 (R.word f : Int)) w) := by
  obtain ⟨l, h1, h2⟩ := d
  refine (st_root h1.st hf).mono ?_
  rintro e w' ⟨rfl, hs, hf'⟩
  have e1 : rd l (wd f) 4 = (R.word f : Int) := by
    rcases hf with rfl | rfl | rfl
    · exact h1.rb.hand
    · exact h1.rb.broom
    · exact h1.rb.cnt
  rw [e1]
  exact ⟨rfl, ⟨l, ⟨hs, h1.lv, h1.rb, tabC_fr h1.tc h1.st hf'⟩, h2⟩, hf'⟩
theorem Rs.setRoot (d : Rs X R w) {f : Int} (hf : f = 13 ∨ f = 14 ∨ f = 15) {v : Nat} (hv : v < 4294967296) :
    Calls Tryz.prog 133 #[pV X.h, .int .i64 f, .int .u64 (v : Int)] w (RsR X (R.setW f v) (.bool true) w) := by
  obtain ⟨l, h1, h2⟩ := d
  have hl := st_len h1.st
  refine (st_setRoot h1.st hf hv).mono ?_
  rintro e w' ⟨rfl, hs, hf'⟩
  obtain ⟨k1, k2⟩ : Rb X.E X.B (stl l (wd f) 4 (v : Int)) (R.setW f v) ∧ Nr X.E l (stl l (wd f) 4 (v : Int)) := by
    rcases hf with rfl | rfl | rfl
    · exact h1.rb.root h1.ap (by omega) (.inl rfl) hv rfl rfl rfl rfl rfl
    · exact h1.rb.root h1.ap (by omega) (.inr (.inl rfl)) hv rfl rfl rfl rfl rfl
    · exact h1.rb.root h1.ap (by omega) (.inr (.inr rfl)) hv rfl rfl rfl rfl rfl
  exact ⟨rfl, ⟨_, ⟨hs, h1.lv, k1, tabC_fr h1.tc h1.st hf'⟩, h2.trans k2⟩, hf'⟩
theorem Rs.config (d : Rs X R w) : Calls Tryz.prog 36 #[pV X.h] w fun e w' => (∃ s n : Int, 7 ≤ s ∧ e = .returned (.agg #[.int .i64 s, .int .i64 n])) ∧ Below w.heap.size w w' := by
  obtain ⟨l, h1, h2⟩ := d
  have h7 := h1.st.tl.2.1
  refine (st_config h1.st).mono ?_
  rintro e w' ⟨rfl, hb⟩
  exact ⟨⟨_, _, by omega, rfl⟩, hb⟩
theorem Rs.kind (d : Rs X R w) {x : Nat} (hx : x ∈ X.E) : Calls Tryz.prog 167 #[pV X.h, .int .i64 (x : Int), .int .i64 32] w fun e w' => e = .returned (.int .i64 5) ∧ Below w.heap.size w w' := by
  have hb := d.facts hx
  obtain ⟨l, h1, h2⟩ := d
  have := st_kind h1.st (x : Int) 32 (by unfold is64; omega)
  rw [kX_live h1.st (h1.lv x hx)] at this
  exact this
theorem kX_zero (S N : Nat) (T : List Sl) (hS : 7 ≤ S) : Wat.kndA (kX S N T) 0 32 ≠ 5 := by
  intro hk
  unfold Wat.kndA at hk
  by_cases hf : Arn.fitB (kX S N T).length 0 32 = true
  · rw [if_pos hf] at hk
    unfold Wat.kndS at hk
    split at hk
    · rename_i hh
      have e0 : (((kX S N T).drop (0 : Int).toNat).take (32 : Int).toNat).getD 0 0 = (kX S N T).getD 0 0 := by
        rw [show (0 : Int).toNat = 0 from rfl, show (32 : Int).toNat = 32 from rfl, take_getD _ _ _ (by omega), drop_getD]
      rw [e0] at hk
      have hb : 0 < Lay.baseT S N := by unfold Lay.baseT Lay.endT; omega
      have hs : 0 < Lay.sizeT S N := by unfold Lay.sizeT; unfold Lay.baseT at hb; omega
      have e1 : (kX S N T).getD 0 0 = kA S N T 0 := by simp [kX, List.getD, hs]
      rw [e1, kA, if_pos hb] at hk
      unfold Mem.kindT at hk
      revert hk
      repeat' split
      all_goals omega
    · omega
  · rw [if_neg hf] at hk
    omega
theorem Rs.kind0 (d : Rs X R w) : Calls Tryz.prog 167 #[pV X.h, .int .i64 0, .int .i64 32] w fun e w' => (∃ k : Int, k ≠ 5 ∧ e = .returned (.int .i64 k)) ∧ Below w.heap.size w w' := by
  obtain ⟨l, h1, h2⟩ := d
  refine (st_kind h1.st 0 32 (by unfold is64; omega)).mono ?_
  rintro e w' ⟨rfl, hb⟩
  exact ⟨⟨_, kX_zero _ _ _ h1.st.tl.2.1, rfl⟩, hb⟩
end
end Go.Proofs.YtjjfihoplkddfaaGreatDoor.Rin

namespace Go.Proofs.YtjjfihoplkddfaaGreatDoor.Rin
open Go.RowKit Num
open Mem (Mm MemC MRet Hm rd blkM)
open Sla (Sl St Lv pl aT pV Lo)
open Arn (wrL is64)
set_option linter.unusedVariables false

abbrev rV (h : Hm) : Value := .agg #[pV h]
/-- A ring in its box. -/
structure RB (X : Fx) (R : Rv) (w : World) (N : Nat) (W : World) : Prop where
  m : Rs X R W
  b : W.heap[N]? = some (.cells #[pV X.h] 157 (0, 0))
  n : ¬ blkM X.h N
  f : Fr w.heap.size (blkM X.h) w W
section
variable {X : Fx} {l : List Int} {R R' R2 : Rv} {r r' : Value} {w w1 w2 w' W W' : World} {e e' : Ending} {b : Nat}
theorem RB.made (d : Rs X R w) : RB X R w w.heap.size (w.alloc (.cells #[pV X.h] 157)) :=
  ⟨d.below (below_made _ _), heap_alloc_new _ _, fun q => by have := d.lt _ q; omega, Fr.of_below (below_made _ _)⟩
theorem RB.cell (d : RB X R w b W) : W.cell? ⟨b, 0, none⟩ = some (.pointer (some ⟨X.h.g, 0, none⟩)) := (cell_block d.b 0).trans rfl
theorem RB.step (d : RB X R w b W) (hr : RsR X R' r W e W') : RB X R' w b W' :=
  ⟨hr.2.1, (hr.2.2.block _ (Array.getElem?_eq_some_iff.1 d.b).1 d.n).trans d.b, d.n, d.f.trans (hr.2.2.mono d.f.size (fun _ _ q => q))⟩
theorem RB.below (d : RB X R w b W) (hb : Below W.heap.size W W') : RB X R w b W' := d.step (d.m.only hb (.bool true))
theorem RB.done (d : RB X R w b W) (r : Value) : RsR X R r w (.returned r) W := ⟨rfl, d.m, d.f⟩

theorem made_any (d : Rs X R w) : Calls Tryz.prog 214 #[pV X.h] w fun e w' => e = .returned (.bool true) ∧ Below w.heap.size w w' := by
  have HC := Lib.hid d.config
  have hq : ∀ (s n : Int) W, 7 ≤ s → (Op.equalIn 10000 25 (.agg #[.int .i64 s, .int .i64 n]) (.agg #[.int .i64 0, .int .i64 0])).run Tryz.prog W = .ok false W := fun s n W h7 => by
    rw [show (10000 : Nat) = 9999 + 1 from rfl, run_equalIn_struct W 9999 25 _ _ (by kernel_rfl) (by kernel_rfl)]
    go_simp
    intro e
    omega
  have HQ := Lib.hid hq
  clear d hq
  unfold pV at *
  go_enter Tryz.func214, Tryz.ntmps214
  go_wp2_with fail
  refine HC.out.mono ?_
  rintro e w1 ⟨⟨s, n, h7, rfl⟩, hb1⟩
  have hqq := fun W => HQ.out s n W h7
  clear HQ h7
  go_wp2
  go_ret
  exact ⟨rfl, hb1⟩

theorem has_yes (d : Rs X R w) {x : Nat} (hx : x ∈ X.E) : Calls Tryz.prog 215 #[rV X.h, .int .i64 (x : Int)] w (RsR X R (.bool true) w) := by
  have hm : (x : Int).tmod 16 = 0 := by
    have := (d.facts hx).2.1
    rw [Int.tmod_eq_emod_of_nonneg (by omega)]
    omega
  have d1 := RB.made d
  have c := d1.cell
  have HK := Lib.hid (fun W (hW : Rs X R W) => hW.kind hx)
  have HT := Lib.hid (fun W (hW : Rs X R W) => hW.tag hx)
  have HD := Lib.hid d1
  clear d d1
  unfold rV pV at *
  go_enter Tryz.func215, Tryz.ntmps215
  go_wp2_with fail
  refine (HK.out _ HD.out.m).mono ?_
  rintro e w1 ⟨rfl, hb1⟩
  have HD1 := Lib.hid (HD.out.below hb1)
  replace c := HD1.out.cell
  clear hb1 HD HK
  go_wp2_with fail
  refine (HT.out _ HD1.out.m).mono ?_
  rintro e w2 hq
  obtain rfl := hq.1
  have HE := Lib.hid ((HD1.out.step hq).done (.bool true))
  clear hq HD1 HT
  go_wp2
  go_ret
  exact HE.out
theorem has_zero (d : Rs X R w) : Calls Tryz.prog 215 #[rV X.h, .int .i64 0] w (RsR X R (.bool false) w) := by
  have d1 := RB.made d
  have c := d1.cell
  have HK := Lib.hid d1.m.kind0
  have HD := Lib.hid d1
  clear d d1
  unfold rV pV at *
  go_enter Tryz.func215, Tryz.ntmps215
  go_wp2_with fail
  refine HK.out.mono ?_
  rintro e w1 ⟨⟨k, hk, rfl⟩, hb1⟩
  have hk5 : (k == 5) = false := by simpa using hk
  have HE := Lib.hid ((HD.out.below hb1).done (.bool false))
  clear hb1 HD HK hk
  go_wp2
  go_ret
  exact HE.out
theorem linked_any (d : Rs X R w) {x : Nat} (hx : x ∈ X.E) : Calls Tryz.prog 141 #[rV X.h, .int .i64 (x : Int)] w (RsR X R (.bool (decide (R.nx x ≠ 0))) w) := by
  have d1 := RB.made d
  have c := d1.cell
  have HK := Lib.hid (d1.m.load hx (f := 5) (.inl rfl))
  have HD := Lib.hid d1
  rw [show R.get 5 x = R.nx x from rfl] at HK
  generalize R.nx x = n at HK ⊢
  clear d d1
  unfold rV pV at *
  by_cases hn : n = 0
  · subst hn
    rw [show ((0 : Nat) : Int) = 0 from rfl] at HK
    go_enter Tryz.func141, Tryz.ntmps141
    go_wp2_with fail
    refine HK.out.mono ?_
    rintro e w2 hq
    obtain rfl := hq.1
    have HE := Lib.hid ((HD.out.step hq).done (.bool false))
    clear hq HD HK
    go_wp2
    go_ret
    exact HE.out
  · have hn1 : (((n : Int)) == 0) = false := by simpa using hn
    have hn2 : (((n : Int)) != 0) = true := by simpa using hn
    have hd : decide (n ≠ 0) = true := by simpa using hn
    rw [hd]
    clear hd hn
    go_enter Tryz.func141, Tryz.ntmps141
    go_wp2_with fail
    refine HK.out.mono ?_
    rintro e w2 hq
    obtain rfl := hq.1
    have HE := Lib.hid ((HD.out.step hq).done (.bool true))
    clear hq HD HK
    go_wp2
    go_ret
    exact HE.out
theorem check_yes (d : Rs X R w) {x : Nat} (hx : x ∈ X.E) : Calls Tryz.prog 140 #[rV X.h, .int .i64 (x : Int)] w (RsR X R (.int .i64 0) w) := by
  have d1 := RB.made d
  have c := d1.cell
  have HM := Lib.hid (made_any d1.m)
  have HH := Lib.hid (fun W (hW : Rs X R W) => has_yes hW hx)
  have HD := Lib.hid d1
  clear d d1
  unfold rV pV at *
  go_enter Tryz.func140, Tryz.ntmps140
  go_wp2_with fail
  refine HM.out.mono ?_
  rintro e w1 ⟨rfl, hb1⟩
  have HD1 := Lib.hid (HD.out.below hb1)
  replace c := HD1.out.cell
  clear hb1 HD HM
  go_wp2_with fail
  refine (HH.out _ HD1.out.m).mono ?_
  rintro e w2 hq
  obtain rfl := hq.1
  have HE := Lib.hid ((HD1.out.step hq).done (.int .i64 0))
  clear hq HD1 HH
  go_wp2
  go_ret
  exact HE.out
theorem checkLinked_any (d : Rs X R w) {x : Nat} (hx : x ∈ X.E) : Calls Tryz.prog 125 #[rV X.h, .int .i64 (x : Int)] w (RsR X R (.int .i64 (if R.nx x = 0 then 7 else 0)) w) := by
  have d1 := RB.made d
  have c := d1.cell
  have HC := Lib.hid (check_yes d1.m hx)
  have HL := Lib.hid (fun W (hW : Rs X R W) => linked_any hW hx)
  have HD := Lib.hid d1
  generalize R.nx x = n at HL ⊢
  clear d d1
  unfold rV pV at *
  by_cases hn : n = 0
  · subst hn
    rw [show decide (0 ≠ 0) = false from rfl] at HL
    rw [if_pos rfl]
    go_enter Tryz.func125, Tryz.ntmps125
    go_wp2_with fail
    refine HC.out.mono ?_
    rintro e w1 hq
    obtain rfl := hq.1
    have HD1 := Lib.hid (HD.out.step hq)
    replace c := HD1.out.cell
    clear hq HD HC
    go_wp2_with fail
    refine (HL.out _ HD1.out.m).mono ?_
    rintro e w2 hq
    obtain rfl := hq.1
    have HE := Lib.hid ((HD1.out.step hq).done (.int .i64 7))
    clear hq HD1 HL
    go_wp2
    go_ret
    exact HE.out
  · rw [if_neg hn]
    have hd : decide (n ≠ 0) = true := by simpa using hn
    rw [hd] at HL
    clear hd hn
    go_enter Tryz.func125, Tryz.ntmps125
    go_wp2_with fail
    refine HC.out.mono ?_
    rintro e w1 hq
    obtain rfl := hq.1
    have HD1 := Lib.hid (HD.out.step hq)
    replace c := HD1.out.cell
    clear hq HD HC
    go_wp2_with fail
    refine (HL.out _ HD1.out.m).mono ?_
    rintro e w2 hq
    obtain rfl := hq.1
    have HE := Lib.hid ((HD1.out.step hq).done (.int .i64 0))
    clear hq HD1 HL
    go_wp2
    go_ret
    exact HE.out
/-! ### Cursors and links -/
theorem u64_nat {n : Nat} (h : n < 4294967296) : IntKind.u64.wrap (n : Int) = (n : Int) := Hea.u64_id (by omega) (by omega)
theorem i64_nat {n : Nat} (h : n < 4294967296) : wrap64 (n : Int) = (n : Int) := IntWalk.wrap64_in _ (by omega)
theorem cursor_any (d : Rs X R w) {f : Int} (hf : f = 13 ∨ f = 14) (hc : R.cur f ∈ X.E ∨ R.cur f = 0) : Calls Tryz.prog 126 #[rV X.h, .int .i64 f] w (RsR X R (.int .i64 (R.cur f : Int)) w) := by
  have d1 := RB.made d
  have c := d1.cell
  have HC := Lib.hid (d1.m.root (f := f) (by rcases hf with q | q <;> simp [q]))
  have e1 : R.word f = R.cur f := by rcases hf with rfl | rfl <;> rfl
  rw [e1] at HC
  have HY := Lib.hid (fun W x (hW : Rs X R W) (hx : x ∈ X.E) => has_yes hW hx)
  have HZ := Lib.hid (fun W (hW : Rs X R W) => has_zero hW)
  have hbd : R.cur f < 4294967296 := by
    rcases hc with q | q
    · have := d.facts q; omega
    · omega
  have HD := Lib.hid d1
  generalize R.cur f = n at HC hc hbd ⊢
  have hw := i64_nat hbd
  clear d d1 e1 hf hbd
  unfold rV pV at *
  rcases hc with hx | rfl
  · go_enter Tryz.func126, Tryz.ntmps126
    go_wp2_with fail
    refine HC.out.mono ?_
    rintro e w1 hq
    obtain rfl := hq.1
    have HD1 := Lib.hid (HD.out.step hq)
    replace c := HD1.out.cell
    clear hq HD HC
    go_wp2_with fail
    refine (HY.out _ _ HD1.out.m hx).mono ?_
    rintro e w2 hq
    obtain rfl := hq.1
    have HE := Lib.hid ((HD1.out.step hq).done (.int .i64 (n : Int)))
    clear hq HD1 HY HZ
    go_wp2
    go_ret
    exact HE.out
  · rw [show ((0 : Nat) : Int) = 0 from rfl] at *
    go_enter Tryz.func126, Tryz.ntmps126
    go_wp2_with fail
    refine HC.out.mono ?_
    rintro e w1 hq
    obtain rfl := hq.1
    have HD1 := Lib.hid (HD.out.step hq)
    replace c := HD1.out.cell
    clear hq HD HC
    go_wp2_with fail
    refine (HZ.out _ HD1.out.m).mono ?_
    rintro e w2 hq
    obtain rfl := hq.1
    have HE := Lib.hid ((HD1.out.step hq).done (.int .i64 0))
    clear hq HD1 HY HZ
    go_wp2
    go_ret
    exact HE.out
theorem set_any (d : Rs X R w) {f : Int} (hf : f = 13 ∨ f = 14) {v : Nat} (hv : v < 4294967296) : Calls Tryz.prog 143 #[rV X.h, .int .i64 f, .int .i64 (v : Int)] w (RsR X (R.setCur f v) (.tuple #[]) w) := by
  have d1 := RB.made d
  have c := d1.cell
  have HC := Lib.hid (d1.m.setRoot (f := f) (v := v) (by rcases hf with q | q <;> simp [q]) hv)
  have e1 : R.setW f v = R.setCur f v := by rcases hf with rfl | rfl <;> rfl
  rw [e1] at HC
  have HD := Lib.hid d1
  generalize R.setCur f v = R1 at HC ⊢
  have hw := u64_nat hv
  clear d d1 e1 hf hv
  unfold rV pV at *
  go_enter Tryz.func143, Tryz.ntmps143
  go_wp2_with fail
  refine HC.out.mono ?_
  rintro e w1 hq
  obtain rfl := hq.1
  have HE := Lib.hid ((HD.out.step hq).done (.tuple #[]))
  clear hq HD HC
  go_wp2
  refine bodyPost_end (results_none rfl _ _ _) rfl HE.out
theorem neighbour_any (d : Rs X R w) {x : Nat} (hx : x ∈ X.E) {f : Int} (hf : f = 5 ∨ f = 6) (hn : R.get f x ∈ X.E) : Calls Tryz.prog 132 #[rV X.h, .int .i64 (x : Int), .int .i64 f] w (RsR X R (.int .i64 (R.get f x : Int)) w) := by
  have d1 := RB.made d
  have c := d1.cell
  have HC := Lib.hid (d1.m.load hx hf)
  have HY := Lib.hid (fun W x (hW : Rs X R W) (hx : x ∈ X.E) => has_yes hW hx)
  have hbd : R.get f x < 4294967296 := by
    have := d.facts hn; omega
  have HD := Lib.hid d1
  generalize R.get f x = n at HC hn hbd ⊢
  have hw := i64_nat hbd
  clear d d1 hf hbd
  unfold rV pV at *
  go_enter Tryz.func132, Tryz.ntmps132
  go_wp2_with fail
  refine HC.out.mono ?_
  rintro e w1 hq
  obtain rfl := hq.1
  have HD1 := Lib.hid (HD.out.step hq)
  replace c := HD1.out.cell
  clear hq HD HC
  go_wp2_with fail
  refine (HY.out _ _ HD1.out.m hn).mono ?_
  rintro e w2 hq
  obtain rfl := hq.1
  have HE := Lib.hid ((HD1.out.step hq).done (.int .i64 (n : Int)))
  clear hq HD1 HY
  go_wp2
  go_ret
  exact HE.out
theorem next_any (d : Rs X R w) {x : Nat} (hx : x ∈ X.E) (hn : R.nx x ∈ X.E) : Calls Tryz.prog 137 #[rV X.h, .int .i64 (x : Int)] w (RsR X R (.int .i64 (R.nx x : Int)) w) := by
  have d1 := RB.made d
  have c := d1.cell
  have HC := Lib.hid (neighbour_any d1.m hx (f := 5) (.inl rfl) hn)
  rw [show R.get 5 x = R.nx x from rfl] at HC
  have HD := Lib.hid d1
  generalize R.nx x = n at HC hn ⊢
  clear d d1
  unfold rV pV at *
  go_enter Tryz.func137, Tryz.ntmps137
  go_wp2_with fail
  refine HC.out.mono ?_
  rintro e w1 hq
  obtain rfl := hq.1
  have HE := Lib.hid ((HD.out.step hq).done (.int .i64 (n : Int)))
  clear hq HD HC
  go_wp2
  go_ret
  exact HE.out
theorem previous_any (d : Rs X R w) {x : Nat} (hx : x ∈ X.E) (hn : R.pv x ∈ X.E) : Calls Tryz.prog 142 #[rV X.h, .int .i64 (x : Int)] w (RsR X R (.int .i64 (R.pv x : Int)) w) := by
  have d1 := RB.made d
  have c := d1.cell
  have HC := Lib.hid (neighbour_any d1.m hx (f := 6) (.inr rfl) hn)
  rw [show R.get 6 x = R.pv x from rfl] at HC
  have HD := Lib.hid d1
  generalize R.pv x = n at HC hn ⊢
  clear d d1
  unfold rV pV at *
  go_enter Tryz.func142, Tryz.ntmps142
  go_wp2_with fail
  refine HC.out.mono ?_
  rintro e w1 hq
  obtain rfl := hq.1
  have HE := Lib.hid ((HD.out.step hq).done (.int .i64 (n : Int)))
  clear hq HD HC
  go_wp2
  go_ret
  exact HE.out
theorem other_any (d : Rs X R w) {x : Nat} (hx : x ∈ X.E) (hn : R.nx x ∈ X.E) : Calls Tryz.prog 128 #[rV X.h, .int .i64 (x : Int)] w (RsR X R (.int .i64 ((if R.nx x = x then 0 else R.nx x : Nat) : Int)) w) := by
  have d1 := RB.made d
  have c := d1.cell
  have HC := Lib.hid (next_any d1.m hx hn)
  have HD := Lib.hid d1
  generalize R.nx x = n at HC hn ⊢
  clear d d1
  unfold rV pV at *
  by_cases e : n = x
  · subst e
    rw [if_pos rfl, show ((0 : Nat) : Int) = 0 from rfl]
    go_enter Tryz.func128, Tryz.ntmps128
    go_wp2_with fail
    refine HC.out.mono ?_
    rintro e w1 hq
    obtain rfl := hq.1
    have HE := Lib.hid ((HD.out.step hq).done (.int .i64 0))
    clear hq HD HC
    go_wp2
    go_ret
    exact HE.out
  · rw [if_neg e]
    have e1 : ((n : Int) == (x : Int)) = false := by simp; omega
    clear e
    go_enter Tryz.func128, Tryz.ntmps128
    go_wp2_with fail
    refine HC.out.mono ?_
    rintro e w1 hq
    obtain rfl := hq.1
    have HE := Lib.hid ((HD.out.step hq).done (.int .i64 (n : Int)))
    clear hq HD HC
    go_wp2
    go_ret
    exact HE.out
theorem link_any (d : Rs X R w) {x : Nat} (hx : x ∈ X.E) {f : Int} (hf : f = 5 ∨ f = 6) {v : Nat} (hv : v < 4294967296) : Calls Tryz.prog 131 #[rV X.h, .int .i64 (x : Int), .int .i64 f, .int .i64 (v : Int)] w (RsR X (R.put f x v) (.tuple #[]) w) := by
  have d1 := RB.made d
  have c := d1.cell
  have HC := Lib.hid (d1.m.store hx hf hv)
  have HD := Lib.hid d1
  generalize R.put f x v = R1 at HC ⊢
  have hw := u64_nat hv
  clear d d1 hf hv
  unfold rV pV at *
  go_enter Tryz.func131, Tryz.ntmps131
  go_wp2_with fail
  refine HC.out.mono ?_
  rintro e w1 hq
  obtain rfl := hq.1
  have HE := Lib.hid ((HD.out.step hq).done (.tuple #[]))
  clear hq HD HC
  go_wp2
  refine bodyPost_end (results_none rfl _ _ _) rfl HE.out
/-! ### What is told -/
theorem hand_any (d : Rs X R w) (hc : R.hand ∈ X.E ∨ R.hand = 0) : Calls Tryz.prog 59 #[pV X.h] w (RsR X R (.int .i64 (R.hand : Int)) w) := by
  have HC := Lib.hid (cursor_any d (f := 13) (.inl rfl) hc)
  rw [show R.cur 13 = R.hand from rfl] at HC
  generalize R.hand = n at HC ⊢
  clear d hc
  unfold rV pV at *
  go_enter Tryz.func59, Tryz.ntmps59
  go_wp2_with fail
  refine HC.out.mono ?_
  rintro e w1 hq
  obtain rfl := hq.1
  have HE := Lib.hid hq
  clear hq HC
  go_wp2
  go_ret
  exact HE.out
theorem broom_any (d : Rs X R w) (hc : R.broom ∈ X.E ∨ R.broom = 0) : Calls Tryz.prog 61 #[pV X.h] w (RsR X R (.int .i64 (R.broom : Int)) w) := by
  have HC := Lib.hid (cursor_any d (f := 14) (.inr rfl) hc)
  rw [show R.cur 14 = R.broom from rfl] at HC
  generalize R.broom = n at HC ⊢
  clear d hc
  unfold rV pV at *
  go_enter Tryz.func61, Tryz.ntmps61
  go_wp2_with fail
  refine HC.out.mono ?_
  rintro e w1 hq
  obtain rfl := hq.1
  have HE := Lib.hid hq
  clear hq HC
  go_wp2
  go_ret
  exact HE.out
theorem len_any (d : Rs X R w) (hc : R.cnt < 4294967296) : Calls Tryz.prog 62 #[pV X.h] w (RsR X R (.int .i64 (R.cnt : Int)) w) := by
  have HC := Lib.hid (d.root (f := 15) (.inr (.inr rfl)))
  rw [show R.word 15 = R.cnt from rfl] at HC
  have hw := i64_nat hc
  generalize R.cnt = n at HC hw ⊢
  clear d hc
  unfold pV at *
  go_enter Tryz.func62, Tryz.ntmps62
  go_wp2_with fail
  refine HC.out.mono ?_
  rintro e w1 hq
  obtain rfl := hq.1
  have HE := Lib.hid (hq.ret (.int .i64 (n : Int)))
  clear hq HC
  go_wp2
  go_ret
  refine ⟨?_, HE.out.2⟩
  show Ending.returned (.int .i64 (wrap64 (n : Int))) = _
  rw [hw]
end
end Go.Proofs.YtjjfihoplkddfaaGreatDoor.Rin

namespace Go.Proofs.YtjjfihoplkddfaaGreatDoor.Rin
open Go.RowKit Num
open Mem (Mm MemC MRet Hm rd blkM)
open Sla (Sl St Lv pl aT pV Lo)
open Arn (wrL is64)
set_option linter.unusedVariables false

section
variable {X : Fx} {l : List Int} {R R' R1 R2 : Rv} {r r' : Value} {w w1 w2 w' W W' : World} {e e' : Ending} {b a x : Nat}
/-! ### Turn and Brush -/
theorem advance_next (d : Rs X R w) {f : Int} (hf : f = 13 ∨ f = 14) (hc : R.cur f ∈ X.E ∧ R.nx (R.cur f) ∈ X.E ∨ R.cur f = 0) :
    Calls Tryz.prog 127 #[rV X.h, .int .i64 f, .func (.func 137) #[rV X.h] #[]] w (RsR X (if R.cur f = 0 then R else R.setCur f (R.nx (R.cur f))) (.int .i64 (R.cur f : Int)) w) := by
  have d1 := RB.made d
  have c := d1.cell
  have HC := Lib.hid (cursor_any d1.m hf (hc.imp (fun q => q.1) id))
  by_cases hz : R.cur f = 0
  · rw [if_pos hz]
    rw [hz, show ((0 : Nat) : Int) = 0 from rfl] at HC ⊢
    have HD := Lib.hid d1
    clear d d1 hc hz hf
    unfold rV pV at *
    go_enter Tryz.func127, Tryz.ntmps127
    go_wp2_with fail
    refine HC.out.mono ?_
    rintro e w1 hq
    obtain rfl := hq.1
    have HE := Lib.hid ((HD.out.step hq).done (.int .i64 0))
    clear hq HD HC
    go_wp2
    go_ret
    exact HE.out
  · rw [if_neg hz]
    obtain ⟨hx, hn⟩ := hc.resolve_right hz
    have hnz : ((R.cur f : Int) == 0) = false := by simp; omega
    have HN := Lib.hid (fun W (hW : Rs X R W) => next_any hW hx hn)
    have hbd : R.nx (R.cur f) < 4294967296 := by have := d.facts hn; omega
    have HS := Lib.hid (fun W (hW : Rs X R W) => set_any hW hf (v := R.nx (R.cur f)) hbd)
    have HD := Lib.hid d1
    generalize R.setCur f (R.nx (R.cur f)) = R2 at HS ⊢
    generalize R.nx (R.cur f) = n at HN HS
    generalize R.cur f = x at HC HN hnz ⊢
    clear d d1 hz hf hx hn hc hbd
    unfold rV pV at *
    go_enter Tryz.func127, Tryz.ntmps127
    go_wp2_with fail
    refine HC.out.mono ?_
    rintro e w1 hq
    obtain rfl := hq.1
    have hd := HD.out.step hq
    replace c := hd.cell
    clear hq HD HC
    go_wp2_with fail
    go_region_held3 (fun w' => w'.cell? ⟨w.heap.size, 0, none⟩ = some (.pointer (some ⟨X.h.g, 0, none⟩))) (first | exact c | go_keep) ((first | (go_at_call 137; refine (HN.out _ (by first | exact hd.m | exact hd.m.drew)).mono ?_; rintro e w2 hq; obtain rfl := hq.1; replace hd := (by first | exact hd.step hq | exact (hd.below (Below.refl _ _).drew).step hq); replace c := hd.cell; clear hq) | (go_at_call 143; refine (HS.out _ (by first | exact hd.m | exact hd.m.drew)).mono ?_; rintro e w2 hq; obtain rfl := hq.1; replace hd := (by first | exact hd.step hq | exact (hd.below (Below.refl _ _).drew).step hq); replace c := hd.cell; clear hq)))
    all_goals
      have HE := Lib.hid (hd.done (.int .i64 (x : Int)))
      clear hd HN HS
      go_wp2
      go_ret
      exact HE.out
theorem turn_any (d : Rs X R w) (hc : R.hand ∈ X.E ∧ R.nx R.hand ∈ X.E ∨ R.hand = 0) : Calls Tryz.prog 48 #[pV X.h] w (RsR X (if R.hand = 0 then R else { R with hand := R.nx R.hand }) (.int .i64 (R.hand : Int)) w) := by
  have d1 := RB.made d
  have c := d1.cell
  have HA := Lib.hid (advance_next d1.m (f := 13) (.inl rfl) hc)
  rw [show R.cur 13 = R.hand from rfl, show R.setCur 13 (R.nx R.hand) = { R with hand := R.nx R.hand } from rfl] at HA
  have HD := Lib.hid d1
  generalize (if R.hand = 0 then R else { R with hand := R.nx R.hand }) = R1 at HA ⊢
  generalize R.hand = n at HA ⊢
  clear d d1 hc
  unfold rV pV at *
  go_enter Tryz.func48, Tryz.ntmps48
  go_wp2_with fail
  refine HA.out.mono ?_
  rintro e w1 hq
  obtain rfl := hq.1
  have HE := Lib.hid ((HD.out.step hq).done (.int .i64 (n : Int)))
  clear hq HD HA
  go_wp2
  go_ret
  exact HE.out
theorem brush_any (d : Rs X R w) (hc : R.broom ∈ X.E ∧ R.nx R.broom ∈ X.E ∨ R.broom = 0) : Calls Tryz.prog 50 #[pV X.h] w (RsR X (if R.broom = 0 then R else { R with broom := R.nx R.broom }) (.int .i64 (R.broom : Int)) w) := by
  have d1 := RB.made d
  have c := d1.cell
  have HA := Lib.hid (advance_next d1.m (f := 14) (.inr rfl) hc)
  rw [show R.cur 14 = R.broom from rfl, show R.setCur 14 (R.nx R.broom) = { R with broom := R.nx R.broom } from rfl] at HA
  have HD := Lib.hid d1
  generalize (if R.broom = 0 then R else { R with broom := R.nx R.broom }) = R1 at HA ⊢
  generalize R.broom = n at HA ⊢
  clear d d1 hc
  unfold rV pV at *
  go_enter Tryz.func50, Tryz.ntmps50
  go_wp2_with fail
  refine HA.out.mono ?_
  rintro e w1 hq
  obtain rfl := hq.1
  have HE := Lib.hid ((HD.out.step hq).done (.int .i64 (n : Int)))
  clear hq HD HA
  go_wp2
  go_ret
  exact HE.out

/-! ### A ring and an entry in their boxes -/
structure RC (X : Fx) (R : Rv) (w : World) (b a x : Nat) (W : World) : Prop where
  m : Rs X R W
  cb : W.heap[b]? = some (.cells #[pV X.h] 157 (0, 0))
  ca : W.heap[a]? = some (.cells #[.int .i64 (x : Int)] 3 (0, 0))
  nb : ¬ blkM X.h b
  na : ¬ blkM X.h a
  f : Fr w.heap.size (blkM X.h) w W
theorem RC.step (d : RC X R w b a x W) (hr : RsR X R' r W e W') : RC X R' w b a x W' :=
  ⟨hr.2.1, (hr.2.2.block _ (Array.getElem?_eq_some_iff.1 d.cb).1 d.nb).trans d.cb, (hr.2.2.block _ (Array.getElem?_eq_some_iff.1 d.ca).1 d.na).trans d.ca, d.nb, d.na, d.f.trans (hr.2.2.mono d.f.size (fun _ _ q => q))⟩
theorem RC.below (d : RC X R w b a x W) (hb : Below W.heap.size W W') : RC X R w b a x W' := d.step (d.m.only hb (.bool true))
theorem RC.drew (d : RC X R w b a x W) : RC X R w b a x W.drew := d.below (Below.refl _ _).drew
theorem RC.cells (d : RC X R w b a x W) : W.cell? ⟨b, 0, none⟩ = some (.pointer (some ⟨X.h.g, 0, none⟩)) ∧ W.cell? ⟨a, 0, none⟩ = some (.int .i64 (x : Int)) := ⟨(cell_block d.cb 0).trans rfl, (cell_block d.ca 0).trans rfl⟩
theorem RC.done (d : RC X R w b a x W) (r : Value) : RsR X R r w (.returned r) W := ⟨rfl, d.m, d.f⟩
/-- The same boxes, from a later world on. -/
theorem RC.again (d : RC X R w b a x W) : RC X R W b a x W := ⟨d.m, d.cb, d.ca, d.nb, d.na, Fr.refl _ _ _⟩
theorem RC.made (d : Rs X R w) (x : Nat) : RC X R w (w.heap.size + 1) w.heap.size x ((w.alloc (.cells #[.int .i64 (x : Int)] 3)).alloc (.cells #[pV X.h] 157)) := by
  have hb1 := below_made w (.cells #[.int .i64 (x : Int)] 3)
  have hb2 := below_made (w.alloc (.cells #[.int .i64 (x : Int)] 3)) (.cells #[pV X.h] 157)
  have hb := hb1.trans (hb2.mono hb1.size)
  have hs : (w.alloc (.cells #[.int .i64 (x : Int)] 3)).heap.size = w.heap.size + 1 := by simp
  have n1 := heap_alloc_new w (.cells #[.int .i64 (x : Int)] 3)
  have n2 := heap_alloc_new (w.alloc (.cells #[.int .i64 (x : Int)] 3)) (.cells #[pV X.h] 157)
  rw [hs] at n2
  exact ⟨d.below hb, n2, (hb2.block _ (by rw [hs]; omega)).trans n1, fun q => by have := d.lt _ q; omega, fun q => by have := d.lt _ q; omega, Fr.of_below hb⟩

/-- Both neighbours of an entry are updated by a function. -/
theorem beside_any (g : Nat) (u1 u2 : Value) (hen : ∀ args w, (callFunc g args).run Tryz.prog w = .ok (.enter g args) w) (K : World → Prop) (hK : ∀ W W', K W → Rs X R W ∨ Rs X R1 W → Fr W.heap.size (blkM X.h) W W' → K W') {n p : Nat} (d : Rs X R w) (k : K w) (hx : x ∈ X.E)
    (e1 : R.nx x = n) (hn : n ∈ X.E) (e2 : R1.pv x = p) (hp : p ∈ X.E)
    (H1 : ∀ W, Rs X R W → K W → Calls Tryz.prog g #[.int .i64 (n : Int), .int .i64 6, u1, u2] W (RsR X R1 (.tuple #[]) W))
    (H2 : ∀ W, Rs X R1 W → K W → Calls Tryz.prog g #[.int .i64 (p : Int), .int .i64 5, u1, u2] W (RsR X R2 (.tuple #[]) W)) :
    Calls Tryz.prog 129 #[rV X.h, .int .i64 (x : Int), .func (.func g) #[] #[u1, u2]] w (RsR X R2 (.tuple #[]) w) := by
  have d1 := RB.made d
  have c := d1.cell
  have HN := Lib.hid (next_any d1.m hx (by rw [e1]; exact hn))
  rw [e1] at HN
  have HP := Lib.hid (fun W (hW : Rs X R1 W) => previous_any hW hx (by rw [e2]; exact hp))
  rw [e2] at HP
  have HK := Lib.hid hK
  have K1 := Lib.hid (hK _ _ k (.inl d) (Fr.of_below (below_made w (.cells #[pV X.h] 157))))
  have HH1 := Lib.hid H1
  have HH2 := Lib.hid H2
  have HD := Lib.hid d1
  clear d d1 k hK H1 H2 e1 e2 hn hp hx
  unfold rV pV at *
  go_enter Tryz.func129, Tryz.ntmps129
  go_wp2_with fail
  refine HN.out.mono ?_
  rintro e w1 hq
  obtain rfl := hq.1
  have K2 := Lib.hid (HK.out _ _ K1.out (.inl HD.out.m) hq.2.2)
  have HD1 := Lib.hid (HD.out.step hq)
  replace c := HD1.out.cell
  clear hq HD HN K1
  go_wp2_with fail
  refine (HH1.out _ HD1.out.m K2.out).mono ?_
  rintro e w2 hq
  obtain rfl := hq.1
  have K3 := Lib.hid (HK.out _ _ K2.out (.inl HD1.out.m) hq.2.2)
  have HD2 := Lib.hid (HD1.out.step hq)
  replace c := HD2.out.cell
  clear hq HD1 HH1 K2
  go_wp2_with fail
  refine (HP.out _ HD2.out.m).mono ?_
  rintro e w3 hq
  obtain rfl := hq.1
  have K4 := Lib.hid (HK.out _ _ K3.out (.inr HD2.out.m) hq.2.2)
  have HD3 := Lib.hid (HD2.out.step hq)
  replace c := HD3.out.cell
  clear hq HD2 HP K3
  go_wp2_with fail
  refine (HH2.out _ HD3.out.m K4.out).mono ?_
  rintro e w4 hq
  obtain rfl := hq.1
  have HE := Lib.hid ((HD3.out.step hq).done (.tuple #[]))
  clear hq HD3 HH2 K4 HK
  go_wp2
  refine bodyPost_end (results_none rfl _ _ _) rfl HE.out

/-! ### Insert -/
theorem insert1_any (d : RC X R w b a x w) {n : Nat} (hn : n ∈ X.E) (hx : x < 4294967296) {f : Int} (hf : f = 5 ∨ f = 6) :
    Calls Tryz.prog 144 #[.int .i64 (n : Int), .int .i64 f, .pointer (some ⟨b, 0, none⟩), .pointer (some ⟨a, 0, none⟩)] w (RsR X (R.put f n x) (.tuple #[]) w) := by
  obtain ⟨c0, c1⟩ := d.cells
  have HL := Lib.hid (link_any d.m hn hf hx)
  clear d hn hf hx
  generalize R.put f n x = R1 at HL ⊢
  unfold rV pV at *
  go_enter Tryz.func144, Tryz.ntmps144
  go_wp2_with fail
  refine HL.out.mono ?_
  rintro e w1 hq
  obtain rfl := hq.1
  have HE := Lib.hid hq
  clear hq HL
  go_wp2
  refine bodyPost_end (results_none rfl _ _ _) rfl HE.out
/-- The boxes of an Insert, as a function sees them. -/
def KI (X : Fx) (b a x : Nat) (W : World) : Prop := W.heap[b]? = some (.cells #[pV X.h] 157 (0, 0)) ∧ W.heap[a]? = some (.cells #[.int .i64 (x : Int)] 3 (0, 0)) ∧ ¬ blkM X.h b ∧ ¬ blkM X.h a
theorem KI.keep (k : KI X b a x W) (hf : Fr W.heap.size (blkM X.h) W W') : KI X b a x W' :=
  ⟨(hf.block _ (Array.getElem?_eq_some_iff.1 k.1).1 k.2.2.1).trans k.1, (hf.block _ (Array.getElem?_eq_some_iff.1 k.2.1).1 k.2.2.2).trans k.2.1, k.2.2⟩
theorem KI.rc (k : KI X b a x W) (d : Rs X R W) : RC X R W b a x W := ⟨d, k.1, k.2.1, k.2.2.1, k.2.2.2, Fr.refl _ _ _⟩
theorem RC.ki (d : RC X R w b a x W) : KI X b a x W := ⟨d.cb, d.ca, d.nb, d.na⟩
set_option maxRecDepth 100000 in
theorem beside_insert (d : RC X R w b a x W) (hx : x ∈ X.E) {n p : Nat} (e1 : R.nx x = n) (hn : n ∈ X.E) (e2 : (R.put 6 n x).pv x = p) (hp : p ∈ X.E) :
    Calls Tryz.prog 129 #[rV X.h, .int .i64 (x : Int), .func (.func 144) #[] #[.pointer (some ⟨b, 0, none⟩), .pointer (some ⟨a, 0, none⟩)]] W (RsR X ((R.put 6 n x).put 5 p x) (.tuple #[]) W) := by
  have hb : x < 4294967296 := by have := d.m.facts hx; omega
  exact beside_any (R1 := R.put 6 n x) _ _ _ (fun _ _ => rfl) (KI X b a x) (fun W W' k _ hf => k.keep hf) d.m d.ki hx e1 hn e2 hp
    (fun W hW k => insert1_any (k.rc hW) hn hb (.inr rfl)) (fun W hW k => insert1_any (k.rc hW) hp hb (.inl rfl))
theorem u64_succ {n : Nat} (h : n < 4294967295) : IntKind.u64.wrap ((n : Int) + 1) = ((n + 1 : Nat) : Int) := by
  rw [Hea.u64_id (by omega) (by omega)]
  omega
set_option maxRecDepth 100000 in
theorem insert_linked (d : Rs X R w) (hx : x ∈ X.E) (hn : R.nx x ≠ 0) : Calls Tryz.prog 54 #[pV X.h, .int .i64 (x : Int)] w (RsR X R (.int .i64 8) w) := by
  have d1 := RC.made d x
  obtain ⟨c0, c1⟩ := d1.cells
  have HC := Lib.hid (check_yes d1.m hx)
  have HL := Lib.hid (fun W (hW : Rs X R W) => linked_any hW hx)
  rw [show decide (R.nx x ≠ 0) = true by simpa using hn] at HL
  have HD := Lib.hid d1
  clear d d1 hx hn
  unfold rV pV at *
  go_enter Tryz.func54, Tryz.ntmps54
  go_wp2_with fail
  refine HC.out.mono ?_
  rintro e w1 hq
  obtain rfl := hq.1
  have HD1 := Lib.hid (HD.out.step hq)
  obtain ⟨c0, c1⟩ := HD1.out.cells
  clear hq HD HC
  go_wp2_with fail
  refine (HL.out _ HD1.out.m).mono ?_
  rintro e w2 hq
  obtain rfl := hq.1
  have HE := Lib.hid ((HD1.out.step hq).done (.int .i64 8))
  clear hq HD1 HL
  go_wp2
  go_ret
  exact HE.out
set_option maxRecDepth 100000 in
set_option maxHeartbeats 1000000 in
theorem insert_more (d : Rs X R w) (hx : x ∈ X.E) (hn : R.nx x = 0) {c p : Nat} (hh : R.hand = c) (hc : c ∈ X.E) (hp : R.pv c = p) (hpE : p ∈ X.E) (hxc : x ≠ c) (hcnt : R.cnt < 4294967295) :
    Calls Tryz.prog 54 #[pV X.h, .int .i64 (x : Int)] w (RsR X { R with nx := up (up R.nx x c) p x, pv := up (up R.pv x p) c x, cnt := R.cnt + 1 } (.int .i64 0) w) := by
  have d1 := RC.made d x
  obtain ⟨c0, c1⟩ := d1.cells
  have hcb := d.facts hc
  have hpb := d.facts hpE
  have HC := Lib.hid (check_yes d1.m hx)
  have HL := Lib.hid (fun W (hW : Rs X R W) => linked_any hW hx)
  rw [show decide (R.nx x ≠ 0) = false by simp [hn]] at HL
  have HH := Lib.hid (fun W (hW : Rs X R W) => hand_any hW (.inl (by rw [hh]; exact hc)))
  rw [hh] at HH
  have HP := Lib.hid (fun W (hW : Rs X R W) => previous_any hW hc (by rw [hp]; exact hpE))
  rw [hp] at HP
  have HL1 := Lib.hid (fun W (hW : Rs X R W) => link_any hW hx (f := 5) (.inl rfl) (v := c) (by omega))
  obtain ⟨R1, hR1⟩ : ∃ R1, R1 = R.put 5 x c := ⟨_, rfl⟩
  rw [← hR1] at HL1
  have HL2 := Lib.hid (fun W (hW : Rs X R1 W) => link_any hW hx (f := 6) (.inr rfl) (v := p) (by omega))
  obtain ⟨R2, hR2⟩ : ∃ R2, R2 = R1.put 6 x p := ⟨_, rfl⟩
  rw [← hR2] at HL2
  have g1 : R2.nx x = c := by rw [hR2, hR1]; exact up_same _ _ _
  have g2 : (R2.put 6 c x).pv x = p := by rw [hR2, hR1]; exact (up_other _ hxc).trans (up_same _ _ _)
  have HB := Lib.hid (fun W (hW : RC X R2 w (w.heap.size + 1) w.heap.size x W) => beside_insert hW hx g1 hc g2 hpE)
  obtain ⟨R4, hR4⟩ : ∃ R4, R4 = (R2.put 6 c x).put 5 p x := ⟨_, rfl⟩
  rw [← hR4] at HB
  have g3 : R4.cnt = R.cnt := by rw [hR4, hR2, hR1]; rfl
  have HRo := Lib.hid (fun W (hW : Rs X R4 W) => hW.root (f := 15) (.inr (.inr rfl)))
  rw [show R4.word 15 = R.cnt from g3] at HRo
  have HSr := Lib.hid (fun W (hW : Rs X R4 W) => hW.setRoot (f := 15) (.inr (.inr rfl)) (v := R.cnt + 1) (by omega))
  have e5 : R4.setW 15 (R.cnt + 1) = { R with nx := up (up R.nx x c) p x, pv := up (up R.pv x p) c x, cnt := R.cnt + 1 } := by rw [hR4, hR2, hR1]; rfl
  rw [e5] at HSr
  have hw1 := u64_succ hcnt
  have HD := Lib.hid d1
  have hcz : ((c : Int) == 0) = false := by simp; omega
  generalize { R with nx := up (up R.nx x c) p x, pv := up (up R.pv x p) c x, cnt := R.cnt + 1 } = R5 at HSr ⊢
  generalize R.cnt = k at HRo HSr hw1
  clear d d1 hx hn hh hc hp hpE hxc hcnt hcb hpb hR1 hR2 hR4 g1 g2 g3 e5
  unfold rV pV at *
  go_enter Tryz.func54, Tryz.ntmps54
  go_wp2_with fail
  refine HC.out.mono ?_
  rintro e w1 hq
  obtain rfl := hq.1
  have HD1 := Lib.hid (HD.out.step hq)
  obtain ⟨c0, c1⟩ := HD1.out.cells
  clear hq HD HC
  go_wp2_with fail
  refine (HL.out _ HD1.out.m).mono ?_
  rintro e w2 hq
  obtain rfl := hq.1
  have HD2 := Lib.hid (HD1.out.step hq)
  obtain ⟨c0, c1⟩ := HD2.out.cells
  clear hq HD1 HL
  go_wp2_with fail
  go_quiet (fail)
  have HD2 := Lib.hid (HD2.out.below (below_drewN (Below.refl _ _) nq))
  obtain ⟨c0, c1⟩ := HD2.out.cells
  go_wp2_with fail
  refine (HH.out _ HD2.out.m).mono ?_
  rintro e w3 hq
  obtain rfl := hq.1
  have HD3 := Lib.hid (HD2.out.step hq)
  obtain ⟨c0, c1⟩ := HD3.out.cells
  clear hq HD2 HH
  go_wp2_with fail
  refine (HP.out _ HD3.out.m).mono ?_
  rintro e w4 hq
  obtain rfl := hq.1
  have HD4 := Lib.hid (HD3.out.step hq)
  obtain ⟨c0, c1⟩ := HD4.out.cells
  clear hq HD3 HP
  go_wp2_with fail
  refine (HL1.out _ HD4.out.m).mono ?_
  rintro e w5 hq
  obtain rfl := hq.1
  have HD5 := Lib.hid (HD4.out.step hq)
  obtain ⟨c0, c1⟩ := HD5.out.cells
  clear hq HD4 HL1
  go_wp2_with fail
  refine (HL2.out _ HD5.out.m).mono ?_
  rintro e w6 hq
  obtain rfl := hq.1
  have HD6 := Lib.hid (HD5.out.step hq)
  obtain ⟨c0, c1⟩ := HD6.out.cells
  clear hq HD5 HL2
  go_wp2_with fail
  refine (HB.out _ HD6.out).mono ?_
  rintro e w7 hq
  obtain rfl := hq.1
  have HD7 := Lib.hid (HD6.out.step hq)
  obtain ⟨c0, c1⟩ := HD7.out.cells
  clear hq HD6 HB
  go_wp2_with fail
  refine (HRo.out _ HD7.out.m).mono ?_
  rintro e w8 hq
  obtain rfl := hq.1
  have HD8 := Lib.hid (HD7.out.step hq)
  obtain ⟨c0, c1⟩ := HD8.out.cells
  clear hq HD7 HRo
  go_wp2_with fail
  refine (HSr.out _ HD8.out.m).mono ?_
  rintro e w9 hq
  obtain rfl := hq.1
  have HE := Lib.hid ((HD8.out.step hq).done (.int .i64 0))
  clear hq HD8 HSr
  go_wp2
  go_ret
  exact HE.out
set_option maxRecDepth 100000 in
set_option maxHeartbeats 1000000 in
/-- The first one. -/
theorem insert_first (d : Rs X R w) (hx : x ∈ X.E) (hn : R.nx x = 0) (hh : R.hand = 0) (hcnt : R.cnt < 4294967295) :
    Calls Tryz.prog 54 #[pV X.h, .int .i64 (x : Int)] w (RsR X { hand := x, broom := x, nx := up (up R.nx x x) x x, pv := up (up R.pv x x) x x, cnt := R.cnt + 1 } (.int .i64 0) w) := by
  have d1 := RC.made d x
  obtain ⟨c0, c1⟩ := d1.cells
  have hxb := d.facts hx
  have HC := Lib.hid (check_yes d1.m hx)
  have HL := Lib.hid (fun W (hW : Rs X R W) => linked_any hW hx)
  rw [show decide (R.nx x ≠ 0) = false by simp [hn]] at HL
  have HH := Lib.hid (fun W (hW : Rs X R W) => hand_any hW (.inr hh))
  rw [hh, show ((0 : Nat) : Int) = 0 from rfl] at HH
  have HS1 := Lib.hid (fun W (hW : Rs X R W) => set_any hW (f := 13) (.inl rfl) (v := x) (by omega))
  obtain ⟨R1, hR1⟩ : ∃ R1, R1 = R.setCur 13 x := ⟨_, rfl⟩
  rw [← hR1] at HS1
  have HS2 := Lib.hid (fun W (hW : Rs X R1 W) => set_any hW (f := 14) (.inr rfl) (v := x) (by omega))
  obtain ⟨R2, hR2⟩ : ∃ R2, R2 = R1.setCur 14 x := ⟨_, rfl⟩
  rw [← hR2] at HS2
  have HL1 := Lib.hid (fun W (hW : Rs X R2 W) => link_any hW hx (f := 5) (.inl rfl) (v := x) (by omega))
  obtain ⟨R3, hR3⟩ : ∃ R3, R3 = R2.put 5 x x := ⟨_, rfl⟩
  rw [← hR3] at HL1
  have HL2 := Lib.hid (fun W (hW : Rs X R3 W) => link_any hW hx (f := 6) (.inr rfl) (v := x) (by omega))
  obtain ⟨R4, hR4⟩ : ∃ R4, R4 = R3.put 6 x x := ⟨_, rfl⟩
  rw [← hR4] at HL2
  have g1 : R4.nx x = x := by rw [hR4, hR3]; exact up_same _ _ _
  have g2 : (R4.put 6 x x).pv x = x := by exact up_same _ _ _
  have HB := Lib.hid (fun W (hW : RC X R4 w (w.heap.size + 1) w.heap.size x W) => beside_insert hW hx g1 hx g2 hx)
  obtain ⟨R6, hR6⟩ : ∃ R6, R6 = (R4.put 6 x x).put 5 x x := ⟨_, rfl⟩
  rw [← hR6] at HB
  have g3 : R6.cnt = R.cnt := by rw [hR6, hR4, hR3, hR2, hR1]; rfl
  have HRo := Lib.hid (fun W (hW : Rs X R6 W) => hW.root (f := 15) (.inr (.inr rfl)))
  rw [show R6.word 15 = R.cnt from g3] at HRo
  have HSr := Lib.hid (fun W (hW : Rs X R6 W) => hW.setRoot (f := 15) (.inr (.inr rfl)) (v := R.cnt + 1) (by omega))
  have e5 : R6.setW 15 (R.cnt + 1) = { hand := x, broom := x, nx := up (up R.nx x x) x x, pv := up (up R.pv x x) x x, cnt := R.cnt + 1 } := by
    rw [hR6, hR4, hR3, hR2, hR1]
    rfl
  rw [e5] at HSr
  have hw1 := u64_succ hcnt
  have HD := Lib.hid d1
  generalize Rv.mk x x (R.cnt + 1) (up (up R.nx x x) x x) (up (up R.pv x x) x x) = R7 at HSr ⊢
  generalize R.cnt = k at HRo HSr hw1
  clear d d1 hx hn hh hcnt hxb hR1 hR2 hR3 hR4 hR6 g1 g2 g3 e5
  unfold rV pV at *
  go_enter Tryz.func54, Tryz.ntmps54
  go_wp2_with fail
  refine HC.out.mono ?_
  rintro e w1 hq
  obtain rfl := hq.1
  have HD1 := Lib.hid (HD.out.step hq)
  obtain ⟨c0, c1⟩ := HD1.out.cells
  clear hq HD HC
  go_wp2_with fail
  refine (HL.out _ HD1.out.m).mono ?_
  rintro e w2 hq
  obtain rfl := hq.1
  have HD2 := Lib.hid (HD1.out.step hq)
  obtain ⟨c0, c1⟩ := HD2.out.cells
  clear hq HD1 HL
  go_wp2_with fail
  go_quiet (fail)
  have HD2 := Lib.hid (HD2.out.below (below_drewN (Below.refl _ _) nq))
  obtain ⟨c0, c1⟩ := HD2.out.cells
  go_wp2_with fail
  refine (HH.out _ HD2.out.m).mono ?_
  rintro e w3 hq
  obtain rfl := hq.1
  have HD3 := Lib.hid (HD2.out.step hq)
  obtain ⟨c0, c1⟩ := HD3.out.cells
  clear hq HD2 HH
  go_wp2_with fail
  refine (HS1.out _ HD3.out.m).mono ?_
  rintro e w4 hq
  obtain rfl := hq.1
  have HD4 := Lib.hid (HD3.out.step hq)
  obtain ⟨c0, c1⟩ := HD4.out.cells
  clear hq HD3 HS1
  go_wp2_with fail
  refine (HS2.out _ HD4.out.m).mono ?_
  rintro e w5 hq
  obtain rfl := hq.1
  have HD5 := Lib.hid (HD4.out.step hq)
  obtain ⟨c0, c1⟩ := HD5.out.cells
  clear hq HD4 HS2
  go_wp2_with fail
  refine (HL1.out _ HD5.out.m).mono ?_
  rintro e w6 hq
  obtain rfl := hq.1
  have HD6 := Lib.hid (HD5.out.step hq)
  obtain ⟨c0, c1⟩ := HD6.out.cells
  clear hq HD5 HL1
  go_wp2_with fail
  refine (HL2.out _ HD6.out.m).mono ?_
  rintro e w7 hq
  obtain rfl := hq.1
  have HD7 := Lib.hid (HD6.out.step hq)
  obtain ⟨c0, c1⟩ := HD7.out.cells
  clear hq HD6 HL2
  go_wp2_with fail
  refine (HB.out _ HD7.out).mono ?_
  rintro e w8 hq
  obtain rfl := hq.1
  have HD8 := Lib.hid (HD7.out.step hq)
  obtain ⟨c0, c1⟩ := HD8.out.cells
  clear hq HD7 HB
  go_wp2_with fail
  refine (HRo.out _ HD8.out.m).mono ?_
  rintro e w9 hq
  obtain rfl := hq.1
  have HD9 := Lib.hid (HD8.out.step hq)
  obtain ⟨c0, c1⟩ := HD9.out.cells
  clear hq HD8 HRo
  go_wp2_with fail
  refine (HSr.out _ HD9.out.m).mono ?_
  rintro e w10 hq
  obtain rfl := hq.1
  have HE := Lib.hid ((HD9.out.step hq).done (.int .i64 0))
  clear hq HD9 HSr
  go_wp2
  go_ret
  exact HE.out
end
end Go.Proofs.YtjjfihoplkddfaaGreatDoor.Rin

namespace Go.Proofs.YtjjfihoplkddfaaGreatDoor.Rin
open Go.RowKit Num
open Mem (Mm MemC MRet Hm rd blkM)
open Sla (Sl St Lv pl aT pV Lo)
open Arn (wrL is64)
set_option linter.unusedVariables false

theorem index_cur {p : Nat} (hp : p < 2) (w : World) : (Instr.index 159 (.agg #[.int .i64 13, .int .i64 14]) (.int .i64 (p : Int))).run Tryz.prog w = .ok (.int .i64 (13 + (p : Int))) w := by
  rcases (show p = 0 ∨ p = 1 by omega) with rfl | rfl <;> kernel_rfl
/-- The cursors behind k rounds: those at x are at s. -/
def rk (R : Rv) (x s k : Nat) : Rv := { R with hand := if 1 ≤ k ∧ R.hand = x then s else R.hand, broom := if 2 ≤ k ∧ R.broom = x then s else R.broom }
theorem rk_zero (R : Rv) (x s : Nat) : rk R x s 0 = R := by simp [rk]
theorem rk_cur (R : Rv) (x s : Nat) {k : Nat} (hk : k < 2) : (rk R x s k).cur (13 + (k : Int)) = if k = 0 then R.hand else R.broom := by
  rcases (show k = 0 ∨ k = 1 by omega) with rfl | rfl
  · simp [rk, Rv.cur]
  · simp [rk, Rv.cur]
theorem rk_step (R : Rv) (x s : Nat) {k : Nat} (hk : k < 2) : rk R x s (k + 1) = if (rk R x s k).cur (13 + (k : Int)) = x then (rk R x s k).setCur (13 + (k : Int)) s else rk R x s k := by
  rw [rk_cur R x s hk]
  rcases (show k = 0 ∨ k = 1 by omega) with rfl | rfl
  · by_cases h : R.hand = x
    · simp [rk, Rv.setCur, h]
    · simp [rk, h]
  · by_cases h : R.broom = x
    · simp [rk, Rv.setCur, h]
    · simp [rk, h]
theorem u64_pred {n : Nat} (h0 : 0 < n) (h : n < 4294967296) : IntKind.u64.wrap ((n : Int) - 1) = ((n - 1 : Nat) : Int) := by
  rw [Hea.u64_id (by omega) (by omega)]
  omega
section
variable {X : Fx} {l : List Int} {R R' R1 R2 : Rv} {r r' : Value} {w w1 w2 w' W W' : World} {e e' : Ending} {b a x : Nat}
theorem advance_other (d : Rs X R w) {f : Int} (hf : f = 13 ∨ f = 14) (hc : R.cur f = x) (hx : x ∈ X.E) (hn : R.nx x ∈ X.E) :
    Calls Tryz.prog 127 #[rV X.h, .int .i64 f, .func (.func 128) #[rV X.h] #[]] w (RsR X (R.setCur f (if R.nx x = x then 0 else R.nx x)) (.int .i64 (x : Int)) w) := by
  have d1 := RB.made d
  have c := d1.cell
  have hxb := d.facts hx
  have HC := Lib.hid (cursor_any d1.m hf (.inl (by rw [hc]; exact hx)))
  rw [hc] at HC
  have hnz : ((x : Int) == 0) = false := by simp; omega
  have HN := Lib.hid (fun W (hW : Rs X R W) => other_any hW hx hn)
  have hbd : (if R.nx x = x then 0 else R.nx x) < 4294967296 := by
    have := d.facts hn
    split <;> omega
  have HS := Lib.hid (fun W (hW : Rs X R W) => set_any hW hf hbd)
  have HD := Lib.hid d1
  generalize R.setCur f (if R.nx x = x then 0 else R.nx x) = R2 at HS ⊢
  generalize (if R.nx x = x then 0 else R.nx x) = n at HN HS
  clear d d1 hf hx hn hc hbd hxb
  unfold rV pV at *
  go_enter Tryz.func127, Tryz.ntmps127
  go_wp2_with fail
  refine HC.out.mono ?_
  rintro e w1 hq
  obtain rfl := hq.1
  have hd := HD.out.step hq
  replace c := hd.cell
  clear hq HD HC
  go_wp2_with fail
  go_region_held3 (fun w' => w'.cell? ⟨w.heap.size, 0, none⟩ = some (.pointer (some ⟨X.h.g, 0, none⟩))) (first | exact c | go_keep) ((first | (go_at_call 128; refine (HN.out _ (by first | exact hd.m | exact hd.m.drew)).mono ?_; rintro e w2 hq; obtain rfl := hq.1; replace hd := (by first | exact hd.step hq | exact (hd.below (Below.refl _ _).drew).step hq); replace c := hd.cell; clear hq) | (go_at_call 143; refine (HS.out _ (by first | exact hd.m | exact hd.m.drew)).mono ?_; rintro e w2 hq; obtain rfl := hq.1; replace hd := (by first | exact hd.step hq | exact (hd.below (Below.refl _ _).drew).step hq); replace c := hd.cell; clear hq)))
  all_goals
    have HE := Lib.hid (hd.done (.int .i64 (x : Int)))
    clear hd HN HS
    go_wp2
    go_ret
    exact HE.out
theorem remove1_any (d : RC X R w b a x w) {n : Nat} (hn : n ∈ X.E) (hx : x ∈ X.E) {f : Int} (hf : f = 5 ∨ f = 6) (hg : R.get f x ∈ X.E) :
    Calls Tryz.prog 130 #[.int .i64 (n : Int), .int .i64 f, .pointer (some ⟨b, 0, none⟩), .pointer (some ⟨a, 0, none⟩)] w (RsR X (R.put f n (R.get f x)) (.tuple #[]) w) := by
  obtain ⟨c0, c1⟩ := d.cells
  have hbd : R.get f x < 4294967296 := by have := d.m.facts hg; omega
  have HN := Lib.hid (fun W (hW : Rs X R W) => neighbour_any hW hx hf hg)
  have HL := Lib.hid (fun W (hW : Rs X R W) => link_any hW hn hf hbd)
  have hd := d
  generalize R.put f n (R.get f x) = R1 at HL ⊢
  generalize R.get f x = v at HN HL
  clear d hn hf hx hg hbd
  unfold rV pV at *
  go_enter Tryz.func130, Tryz.ntmps130
  go_wp2_with fail
  go_region_held3 (fun w' => w'.cell? ⟨b, 0, none⟩ = some (.pointer (some ⟨X.h.g, 0, none⟩)) ∧ w'.cell? ⟨a, 0, none⟩ = some (.int .i64 (x : Int))) (first | exact ⟨c0, c1⟩ | go_keep) ((first | (go_at_call 132; refine (HN.out _ (by first | exact hd.m | exact hd.m.drew)).mono ?_; rintro e w2 hq; obtain rfl := hq.1; replace hd := (by first | exact hd.step hq | exact hd.drew.step hq); obtain ⟨c0, c1⟩ := hd.cells; clear hq) | (go_at_call 131; refine (HL.out _ (by first | exact hd.m | exact hd.m.drew)).mono ?_; rintro e w2 hq; obtain rfl := hq.1; replace hd := (by first | exact hd.step hq | exact hd.drew.step hq); obtain ⟨c0, c1⟩ := hd.cells; clear hq)))
  all_goals
    have HE := Lib.hid (hd.done (.tuple #[]))
    clear hd HN HL
    go_wp2
    refine bodyPost_end (results_none rfl _ _ _) rfl HE.out
set_option maxRecDepth 100000 in
theorem beside_remove (d : RC X R w b a x W) (hx : x ∈ X.E) {n p : Nat} (e1 : R.nx x = n) (hn : n ∈ X.E) (e2 : R.pv x = p) (hp : p ∈ X.E) :
    Calls Tryz.prog 129 #[rV X.h, .int .i64 (x : Int), .func (.func 130) #[] #[.pointer (some ⟨b, 0, none⟩), .pointer (some ⟨a, 0, none⟩)]] W (RsR X { R with nx := up R.nx p n, pv := up R.pv n p } (.tuple #[]) W) := by
  have g1 : (R.put 6 n p).pv x = p := by
    show up R.pv n p x = p
    unfold up
    split
    · rfl
    · exact e2
  have g2 : R.get 6 x = p := e2
  have g3 : (R.put 6 n p).get 5 x = n := e1
  refine beside_any (R1 := R.put 6 n p) (R2 := { R with nx := up R.nx p n, pv := up R.pv n p }) _ _ _ (fun _ _ => rfl) (KI X b a x) (fun W W' k _ hf => k.keep hf) d.m d.ki hx e1 hn g1 hp
    (fun W hW k => ?_) (fun W hW k => ?_)
  · have := remove1_any (k.rc hW) hn hx (f := 6) (.inr rfl) (by rw [g2]; exact hp)
    rw [g2] at this
    exact this
  · have := remove1_any (k.rc hW) hp hx (f := 5) (.inl rfl) (by rw [g3]; exact hn)
    rw [g3] at this
    exact this
set_option maxRecDepth 100000 in
theorem remove_none (d : Rs X R w) (hx : x ∈ X.E) (hn : R.nx x = 0) : Calls Tryz.prog 46 #[pV X.h, .int .i64 (x : Int)] w (RsR X R (.int .i64 7) w) := by
  have d1 := RC.made d x
  obtain ⟨c0, c1⟩ := d1.cells
  have HC := Lib.hid (checkLinked_any d1.m hx)
  rw [if_pos hn] at HC
  have HD := Lib.hid d1
  clear d d1 hx hn
  unfold rV pV at *
  go_enter Tryz.func46, Tryz.ntmps46
  go_wp2_with fail
  refine HC.out.mono ?_
  rintro e w1 hq
  obtain rfl := hq.1
  have HE := Lib.hid ((HD.out.step hq).done (.int .i64 7))
  clear hq HD HC
  go_wp2
  go_ret
  exact HE.out
/-- What is left when an entry is taken out. -/
def remR (R : Rv) (x n p : Nat) : Rv :=
  { hand := if R.hand = x then (if n = x then 0 else n) else R.hand, broom := if R.broom = x then (if n = x then 0 else n) else R.broom, cnt := R.cnt - 1, nx := up (up R.nx p n) x 0, pv := up (up R.pv n p) x 0 }
set_option maxRecDepth 100000 in
set_option maxHeartbeats 2000000 in
theorem remove_any (d : Rs X R w) (hx : x ∈ X.E) {n p : Nat} (e1 : R.nx x = n) (hn : n ∈ X.E) (e2 : R.pv x = p) (hp : p ∈ X.E) (hh : R.hand ∈ X.E ∨ R.hand = 0) (hb : R.broom ∈ X.E ∨ R.broom = 0) (hcnt : 0 < R.cnt) (hcnt2 : R.cnt < 4294967296) :
    Calls Tryz.prog 46 #[pV X.h, .int .i64 (x : Int)] w (RsR X (remR R x n p) (.int .i64 0) w) := by
  have d1 := RC.made d x
  obtain ⟨c0, c1⟩ := d1.cells
  have hnb := d.facts hn
  have HC := Lib.hid (checkLinked_any d1.m hx)
  rw [if_neg (by omega)] at HC
  obtain ⟨s, hs⟩ : ∃ s, s = if n = x then 0 else n := ⟨_, rfl⟩
  have hsE : s ∈ X.E ∨ s = 0 := by
    rw [hs]
    by_cases e : n = x
    · rw [if_pos e]; exact .inr rfl
    · rw [if_neg e]; exact .inl hn
  have HCu := Lib.hid (fun (k : Nat) (hk : k < 2) W (hW : Rs X (rk R x s k) W) => cursor_any hW (f := 13 + (k : Int)) (by omega) (by rw [rk_cur R x s hk]; by_cases e : k = 0; rw [if_pos e]; exact hh; rw [if_neg e]; exact hb))
  have HAd := Lib.hid (fun (k : Nat) (hk : k < 2) W (hW : Rs X (rk R x s k) W) (hc : (rk R x s k).cur (13 + (k : Int)) = x) => advance_other hW (f := 13 + (k : Int)) (by omega) hc hx (by show R.nx x ∈ X.E; rw [e1]; exact hn))
  have HB := Lib.hid (fun W (hW : RC X (rk R x s 2) w (w.heap.size + 1) w.heap.size x W) => beside_remove hW hx (n := n) (p := p) e1 hn e2 hp)
  obtain ⟨R3, hR3⟩ : ∃ R3, R3 = { rk R x s 2 with nx := up (rk R x s 2).nx p n, pv := up (rk R x s 2).pv n p } := ⟨_, rfl⟩
  rw [← hR3] at HB
  have HL1 := Lib.hid (fun W (hW : Rs X R3 W) => link_any hW hx (f := 5) (.inl rfl) (v := 0) (by omega))
  obtain ⟨R4, hR4⟩ : ∃ R4, R4 = R3.put 5 x 0 := ⟨_, rfl⟩
  rw [← hR4] at HL1
  have HL2 := Lib.hid (fun W (hW : Rs X R4 W) => link_any hW hx (f := 6) (.inr rfl) (v := 0) (by omega))
  obtain ⟨R5, hR5⟩ : ∃ R5, R5 = R4.put 6 x 0 := ⟨_, rfl⟩
  rw [← hR5] at HL2
  rw [show ((0 : Nat) : Int) = 0 from rfl] at HL1 HL2
  have g3 : R5.cnt = R.cnt := by rw [hR5, hR4, hR3]; rfl
  have HRo := Lib.hid (fun W (hW : Rs X R5 W) => hW.root (f := 15) (.inr (.inr rfl)))
  rw [show R5.word 15 = R.cnt from g3] at HRo
  have HSr := Lib.hid (fun W (hW : Rs X R5 W) => hW.setRoot (f := 15) (.inr (.inr rfl)) (v := R.cnt - 1) (by omega))
  have e5 : R5.setW 15 (R.cnt - 1) = remR R x n p := by
    rw [hR5, hR4, hR3, hs]
    unfold remR rk
    simp only [show (1 ≤ 2) = True by simp, Nat.le_refl, true_and]
    rfl
  rw [e5] at HSr
  have hw1 := u64_pred hcnt hcnt2
  have HD : Hid (RC X (rk R x s 0) w (w.heap.size + 1) w.heap.size x ((w.alloc (.cells #[.int .i64 (x : Int)] 3)).alloc (.cells #[pV X.h] 157))) := by rw [rk_zero]; exact d1
  have HCx : Hid (Calls Tryz.prog 125 #[rV X.h, .int .i64 (x : Int)] ((w.alloc (.cells #[.int .i64 (x : Int)] 3)).alloc (.cells #[pV X.h] 157)) (RsR X (rk R x s 0) (.int .i64 0) ((w.alloc (.cells #[.int .i64 (x : Int)] 3)).alloc (.cells #[pV X.h] 157)))) := by rw [rk_zero]; exact HC.out
  have HSt := Lib.hid (fun (k : Nat) (hk : k < 2) => rk_step R x s hk)
  have hse : (if R.nx x = x then 0 else R.nx x) = s := by rw [hs, e1]
  have HSe : Hid (∀ k, (if (rk R x s k).nx x = x then 0 else (rk R x s k).nx x) = s) := fun k => hse
  generalize remR R x n p = R7 at HSr ⊢
  generalize R.cnt = cn at HRo HSr hw1
  generalize hrk : rk R x s = rr at HCu HAd HB HD HCx HSt HSe
  clear d d1 hx hn hh hb hcnt hcnt2 hnb hR3 hR4 hR5 g3 e5 e1 e2 hp hs hsE hse hrk HC
  unfold rV pV at *
  go_enter Tryz.func46, Tryz.ntmps46
  go_wp2_with fail
  refine HCx.out.mono ?_
  rintro e w1 hq
  obtain rfl := hq.1
  have HD1 := Lib.hid (HD.out.step hq)
  obtain ⟨c0, c1⟩ := HD1.out.cells
  obtain ⟨t0, t1⟩ := HD1.out.m.tc.cell
  clear hq HD HCx
  go_wp2
  clear t0 t1 c0 c1
  go_loopw [18] (fun i wr => ∃ k : Nat, k ≤ 2 ∧ i = .int .i64 k ∧ Hid (RC X (rr k) w (w.heap.size + 1) w.heap.size x wr)) (fun i _ => 2 - (intOf i).toNat)
  case atStart => exact ⟨0, Nat.zero_le _, rfl, HD1.out⟩
  case round =>
    obtain ⟨k, hk, rfl, HR⟩ := hrel
    by_cases hlt : k < 2
    · have hlt1 : (k : Int) < 2 := by omega
      have hlt0 : (0 : Int) ≤ (k : Int) := by omega
      have hix := fun u => index_cur hlt u
      obtain ⟨c0, c1⟩ := HR.out.cells
      have HC1 := Lib.hid (HCu.out k hlt)
      have HA1 := Lib.hid (HAd.out k hlt)
      have hst := HSt.out k hlt
      have hse := HSe.out k
      by_cases hc : (rr k).cur (13 + (k : Int)) = x
      · rw [if_pos hc] at hst
        rw [hse, ← hst] at HA1
        rw [hc] at HC1
        have HA2 := Lib.hid (fun W hW => HA1.out W hW hc)
        have hd := HR.out
        generalize (13 + (k : Int)) = f at HC1 HA2 hix
        clear hst hse hc HA1 HR
        go_wp2
        go_region_held3 (fun w' => w'.cell? ⟨w.heap.size + 1, 0, none⟩ = some (.pointer (some ⟨X.h.g, 0, none⟩)) ∧ w'.cell? ⟨w.heap.size, 0, none⟩ = some (.int .i64 (x : Int))) (first | exact ⟨c0, c1⟩ | go_keep) ((go_at_call 126; refine (HC1.out _ (by first | exact hd.m | exact hd.m.drew)).mono ?_; rintro e w2 hq; obtain rfl := hq.1; replace hd := (by first | exact hd.step hq | exact hd.drew.step hq); obtain ⟨c0, c1⟩ := hd.cells; clear hq))
        all_goals
          have HE := Lib.hid hd
          clear hd HC1
          go_wp2_with fail
          refine (HA2.out _ HE.out.m).mono ?_
          rintro e w3 hq
          obtain rfl := hq.1
          have HE2 := Lib.hid (HE.out.step hq)
          clear hq HE HA2
          go_wp2
          go_roundw
          case rel => exact ⟨k + 1, by omega, by go_num, HE2.out⟩
          case measure => simp [intOf]; omega
      · rw [if_neg hc] at hst
        have hne : (((rr k).cur (13 + (k : Int)) : Int) == (x : Int)) = false := by simp; omega
        have hd := HR.out
        rw [← hst] at hd
        have hd0 := HR.out
        generalize (rr k).cur (13 + (k : Int)) = y at HC1 hne
        generalize (13 + (k : Int)) = f at HC1 hix
        rw [← hst] at HC1
        clear hst hse hc HA1 HR hd0
        go_wp2
        go_region_held3 (fun w' => w'.cell? ⟨w.heap.size + 1, 0, none⟩ = some (.pointer (some ⟨X.h.g, 0, none⟩)) ∧ w'.cell? ⟨w.heap.size, 0, none⟩ = some (.int .i64 (x : Int))) (first | exact ⟨c0, c1⟩ | go_keep) ((go_at_call 126; refine (HC1.out _ (by first | exact hd.m | exact hd.m.drew)).mono ?_; rintro e w2 hq; obtain rfl := hq.1; replace hd := (by first | exact hd.step hq | exact hd.drew.step hq); obtain ⟨c0, c1⟩ := hd.cells; clear hq))
        all_goals
          have HE := Lib.hid hd
          clear hd HC1
          go_wp2
          go_roundw
          case rel => exact ⟨k + 1, by omega, by go_num, HE.out⟩
          case measure => simp [intOf]; omega
    · obtain rfl : k = 2 := by omega
      have HD2 := Lib.hid HR.out
      obtain ⟨c0, c1⟩ := HD2.out.cells
      clear HR HCu HAd HSt HSe
      go_wp2_with fail
      refine (HB.out _ HD2.out).mono ?_
      rintro e w3 hq
      obtain rfl := hq.1
      have HD3 := Lib.hid (HD2.out.step hq)
      obtain ⟨c0, c1⟩ := HD3.out.cells
      clear hq HD2 HB
      go_wp2_with fail
      refine (HL1.out _ HD3.out.m).mono ?_
      rintro e w4 hq
      obtain rfl := hq.1
      have HD4 := Lib.hid (HD3.out.step hq)
      obtain ⟨c0, c1⟩ := HD4.out.cells
      clear hq HD3 HL1
      go_wp2_with fail
      refine (HL2.out _ HD4.out.m).mono ?_
      rintro e w5 hq
      obtain rfl := hq.1
      have HD5 := Lib.hid (HD4.out.step hq)
      obtain ⟨c0, c1⟩ := HD5.out.cells
      clear hq HD4 HL2
      go_wp2_with fail
      refine (HRo.out _ HD5.out.m).mono ?_
      rintro e w6 hq
      obtain rfl := hq.1
      have HD6 := Lib.hid (HD5.out.step hq)
      obtain ⟨c0, c1⟩ := HD6.out.cells
      clear hq HD5 HRo
      go_wp2_with fail
      refine (HSr.out _ HD6.out.m).mono ?_
      rintro e w7 hq
      obtain rfl := hq.1
      have HE := Lib.hid ((HD6.out.step hq).done (.int .i64 0))
      clear hq HD6 HSr
      go_wp2
      go_ret
      exact HE.out
end
end Go.Proofs.YtjjfihoplkddfaaGreatDoor.Rin

namespace Go.Proofs.YtjjfihoplkddfaaGreatDoor.Rin
open Go.RowKit Num
open Mem (Mm MemC MRet Hm rd blkM)
open Sla (Sl St Lv pl aT pV Lo)
open Hea (Blks)
open Arn (wrL is64)
set_option linter.unusedVariables false

theorem up_self (f : Nat → Nat) (a : Nat) : up f a (f a) = f := by
  funext y
  unfold up
  split
  · rename_i h; rw [h]
  · rfl
theorem put_self (R : Rv) (f : Int) (x : Nat) : R.put f x (R.get f x) = R := by
  unfold Rv.put Rv.get
  by_cases h : f = 5
  · rw [if_pos h, if_pos h, up_self]
  · rw [if_neg h, if_neg h, up_self]
/-- A link that names the one names the other. -/
def fol (f t : Nat) (R : Rv) (c : Int) (x : Nat) : Rv := R.put c x (mv f t (R.get c x))
section
variable {X : Fx} {l : List Int} {R R' R1 R2 : Rv} {r r' : Value} {w w1 w2 w' W W' : World} {e e' : Ending} {b a x f t bg bm br bt bf : Nat} {L : List (Nat × Obj)}
/-- The same, of a function that names four variables. -/
theorem beside4_any (g : Nat) (u1 u2 u3 u4 : Value) (hen : ∀ args w, (callFunc g args).run Tryz.prog w = .ok (.enter g args) w) (K : World → Prop) (hK : ∀ W W', K W → Rs X R W ∨ Rs X R1 W → Fr W.heap.size (blkM X.h) W W' → K W') {n p : Nat} (d : Rs X R w) (k : K w) (hx : x ∈ X.E)
    (e1 : R.nx x = n) (hn : n ∈ X.E) (e2 : R1.pv x = p) (hp : p ∈ X.E)
    (H1 : ∀ W, Rs X R W → K W → Calls Tryz.prog g #[.int .i64 (n : Int), .int .i64 6, u1, u2, u3, u4] W (RsR X R1 (.tuple #[]) W))
    (H2 : ∀ W, Rs X R1 W → K W → Calls Tryz.prog g #[.int .i64 (p : Int), .int .i64 5, u1, u2, u3, u4] W (RsR X R2 (.tuple #[]) W)) :
    Calls Tryz.prog 129 #[rV X.h, .int .i64 (x : Int), .func (.func g) #[] #[u1, u2, u3, u4]] w (RsR X R2 (.tuple #[]) w) := by
  have d1 := RB.made d
  have c := d1.cell
  have HN := Lib.hid (next_any d1.m hx (by rw [e1]; exact hn))
  rw [e1] at HN
  have HP := Lib.hid (fun W (hW : Rs X R1 W) => previous_any hW hx (by rw [e2]; exact hp))
  rw [e2] at HP
  have HK := Lib.hid hK
  have K1 := Lib.hid (hK _ _ k (.inl d) (Fr.of_below (below_made w (.cells #[pV X.h] 157))))
  have HH1 := Lib.hid H1
  have HH2 := Lib.hid H2
  have HD := Lib.hid d1
  clear d d1 k hK H1 H2 e1 e2 hn hp hx
  unfold rV pV at *
  go_enter Tryz.func129, Tryz.ntmps129
  go_wp2_with fail
  refine HN.out.mono ?_
  rintro e w1 hq
  obtain rfl := hq.1
  have K2 := Lib.hid (HK.out _ _ K1.out (.inl HD.out.m) hq.2.2)
  have HD1 := Lib.hid (HD.out.step hq)
  replace c := HD1.out.cell
  clear hq HD HN K1
  go_wp2_with fail
  refine (HH1.out _ HD1.out.m K2.out).mono ?_
  rintro e w2 hq
  obtain rfl := hq.1
  have K3 := Lib.hid (HK.out _ _ K2.out (.inl HD1.out.m) hq.2.2)
  have HD2 := Lib.hid (HD1.out.step hq)
  replace c := HD2.out.cell
  clear hq HD1 HH1 K2
  go_wp2_with fail
  refine (HP.out _ HD2.out.m).mono ?_
  rintro e w3 hq
  obtain rfl := hq.1
  have K4 := Lib.hid (HK.out _ _ K3.out (.inr HD2.out.m) hq.2.2)
  have HD3 := Lib.hid (HD2.out.step hq)
  replace c := HD3.out.cell
  clear hq HD2 HP K3
  go_wp2_with fail
  refine (HH2.out _ HD3.out.m K4.out).mono ?_
  rintro e w4 hq
  obtain rfl := hq.1
  have HE := Lib.hid ((HD3.out.step hq).done (.tuple #[]))
  clear hq HD3 HH2 K4 HK
  go_wp2
  refine bodyPost_end (results_none rfl _ _ _) rfl HE.out


/-! ### Variables in their boxes -/
structure RD (X : Fx) (R : Rv) (w : World) (L : List (Nat × Obj)) (W : World) : Prop where
  m : Rs X R W
  k : Blks L W
  n : ∀ p ∈ L, ¬ blkM X.h p.1
  f : Fr w.heap.size (blkM X.h) w W
theorem RD.step (d : RD X R w L W) (hr : RsR X R' r W e W') : RD X R' w L W' :=
  ⟨hr.2.1, d.k.fr hr.2.2 (fun p hp => ⟨(Array.getElem?_eq_some_iff.1 (d.k p hp)).1, d.n p hp⟩), d.n, d.f.trans (hr.2.2.mono d.f.size (fun _ _ q => q))⟩
theorem RD.below (d : RD X R w L W) (hb : Below W.heap.size W W') : RD X R w L W' := d.step (d.m.only hb (.bool true))
theorem RD.drew (d : RD X R w L W) : RD X R w L W.drew := d.below (Below.refl _ _).drew
theorem RD.done (d : RD X R w L W) (r : Value) : RsR X R r w (.returned r) W := ⟨rfl, d.m, d.f⟩
theorem RD.cell (d : RD X R w L W) {b : Nat} {c : Array Value} {T : TypeId} {v : Value} (h : (b, Obj.cells c T (0, 0)) ∈ L) (hv : c[0]? = some v) : W.cell? ⟨b, 0, none⟩ = some v := (cell_block (d.k _ h) 0).trans hv
def KL (X : Fx) (L : List (Nat × Obj)) (W : World) : Prop := Blks L W ∧ ∀ p ∈ L, ¬ blkM X.h p.1
theorem KL.keep (k : KL X L W) (hf : Fr W.heap.size (blkM X.h) W W') : KL X L W' := ⟨k.1.fr hf (fun p hp => ⟨(Array.getElem?_eq_some_iff.1 (k.1 p hp)).1, k.2 p hp⟩), k.2⟩
theorem KL.rd (k : KL X L W) (d : Rs X R W) : RD X R W L W := ⟨d, k.1, k.2, Fr.refl _ _ _⟩
theorem RD.kl (d : RD X R w L W) : KL X L W := ⟨d.k, d.n⟩
/-- The variables of a Move: the memory, from, to, the ring, the function that tells whether a link names from. -/
def mvL (X : Fx) (f t s : Nat) : List (Nat × Obj) :=
  [(s, .cells #[pV X.h] 26 (0, 0)), (s + 1, .cells #[.int .i64 (f : Int)] 3 (0, 0)), (s + 1 + 1, .cells #[.int .i64 (t : Int)] 3 (0, 0)), (s + 1 + 1 + 1, .cells #[pV X.h] 157 (0, 0))]
def mvG (s : Nat) : Value := .func (.func 220) #[] #[.pointer (some ⟨s + 1, 0, none⟩)]
def mvM (X : Fx) (f t s g : Nat) : List (Nat × Obj) := (g, .cells #[mvG s] 227 (0, 0)) :: mvL X f t s

theorem RD.cells {s g : Nat} (d : RD X R w (mvM X f t s g) W) : W.cell? ⟨g, 0, none⟩ = some (.func (.func 220) #[] #[.pointer (some ⟨s + 1, 0, none⟩)]) ∧ W.cell? ⟨s, 0, none⟩ = some (.pointer (some ⟨X.h.g, 0, none⟩)) ∧ W.cell? ⟨s + 1, 0, none⟩ = some (.int .i64 (f : Int)) ∧ W.cell? ⟨s + 1 + 1, 0, none⟩ = some (.int .i64 (t : Int)) ∧ W.cell? ⟨s + 1 + 1 + 1, 0, none⟩ = some (.pointer (some ⟨X.h.g, 0, none⟩)) :=
  ⟨d.cell (.head _) rfl, d.cell (.tail _ (.head _)) rfl, d.cell (.tail _ (.tail _ (.head _))) rfl, d.cell (.tail _ (.tail _ (.tail _ (.head _)))) rfl, d.cell (.tail _ (.tail _ (.tail _ (.tail _ (.head _))))) rfl⟩
theorem refers_any (v f s : Nat) (hf : f ≠ 0) (hb : f < 4294967296) (W : World) (hc : W.cell? ⟨s, 0, none⟩ = some (.int .i64 (f : Int))) :
    Calls Tryz.prog 220 #[.int .u64 (v : Int), .pointer (some ⟨s, 0, none⟩)] W fun e W' => e = .returned (.bool (decide (v = f))) ∧ W = W' := by
  have hz : ((f : Int) == 0) = false := by simpa using hf
  have hz2 : ((f : Int) != 0) = true := by rw [bne, hz]; rfl
  have hw := u64_nat hb
  by_cases h : v = f
  · subst h
    rw [decide_eq_true rfl]
    clear hf hb
    go_enter Tryz.func220, Tryz.ntmps220
    go_wp2
    go_ret
    exact ⟨rfl, rfl⟩
  · rw [decide_eq_false h]
    have hq : ((v : Int) == (f : Int)) = false := by rw [beq_eq_false_iff_ne]; omega
    clear hf hb h
    go_enter Tryz.func220, Tryz.ntmps220
    go_wp2
    go_ret
    exact ⟨rfl, rfl⟩
set_option maxRecDepth 100000 in
theorem follow_any {s g : Nat} (d : RD X R w (mvM X f t s g) w) (hf : f ≠ 0) (hfb : f < 4294967296) (htb : t < 4294967296) {x : Nat} (hx : x ∈ X.E) {c : Int} (hc : c = 5 ∨ c = 6) :
    Calls Tryz.prog 221 #[.int .i64 (x : Int), .int .i64 c, .pointer (some ⟨g, 0, none⟩), .pointer (some ⟨s, 0, none⟩), .pointer (some ⟨s + 1 + 1 + 1, 0, none⟩), .pointer (some ⟨s + 1 + 1, 0, none⟩)] w (RsR X (fol f t R c x) (.tuple #[]) w) := by
  have HL := Lib.hid (fun W (hW : Rs X R W) => hW.load hx hc)
  have HR := Lib.hid (fun W (v : Nat) hW => refers_any v f (s + 1) hf hfb W hW)
  have HK := Lib.hid (fun W (hW : Rs X R W) => link_any hW hx hc htb)
  obtain ⟨v, hv⟩ : ∃ v, v = R.get c x := ⟨_, rfl⟩
  have hfol : fol f t R c x = if v = f then R.put c x t else R := by
    unfold fol mv
    rw [← hv]
    by_cases h : v = f
    · rw [if_pos h, if_pos h]
    · rw [if_neg h, if_neg h, hv, put_self]
  rw [hfol]
  rw [← hv] at HL
  have hd := d
  obtain ⟨c0, c1, c2, c3, c4⟩ := hd.cells
  have HR1 := HR.out
  clear hfol hv d hf hfb htb hx hc
  generalize R.put c x t = R1 at HK ⊢
  by_cases h : v = f
  · rw [if_pos h]
    have HRv := Lib.hid (fun W hW => HR1 W v hW)
    rw [decide_eq_true h] at HRv
    clear h HR HR1
    unfold rV pV at *
    go_enter Tryz.func221, Tryz.ntmps221
    go_wp2_with fail
    go_region_held3 (fun w' => w'.cell? ⟨g, 0, none⟩ = some (.func (.func 220) #[] #[.pointer (some ⟨s + 1, 0, none⟩)]) ∧ w'.cell? ⟨s, 0, none⟩ = some (.pointer (some ⟨X.h.g, 0, none⟩)) ∧ w'.cell? ⟨s + 1, 0, none⟩ = some (.int .i64 (f : Int))) (first | exact ⟨c0, c1, c2⟩ | go_keep) ((first | (go_at_call 56; refine (HL.out _ (by first | exact hd.m | exact hd.m.drew)).mono ?_; rintro e w2 hq; obtain rfl := hq.1; replace hd := (by first | exact hd.step hq | exact hd.drew.step hq); obtain ⟨c0, c1, c2, c3, c4⟩ := hd.cells; clear hq) | (go_at_call 220; refine (HRv.out _ (by first | exact c2 | exact hd.drew.cells.2.2.1)).mono ?_; rintro e w3 ⟨rfl, rfl⟩)))
    all_goals
      have HD2 := Lib.hid hd
      clear hd HL HRv
      go_wp2_with fail
      refine (HK.out _ HD2.out.m).mono ?_
      rintro e w4 hq
      obtain rfl := hq.1
      have HE := Lib.hid ((HD2.out.step hq).done (.tuple #[]))
      clear hq HD2 HK
      go_wp2
      refine bodyPost_end (results_none rfl _ _ _) rfl HE.out
  · rw [if_neg h]
    have HRv := Lib.hid (fun W hW => HR1 W v hW)
    rw [decide_eq_false h] at HRv
    clear h HR HR1 HK
    unfold rV pV at *
    go_enter Tryz.func221, Tryz.ntmps221
    go_wp2_with fail
    go_region_held3 (fun w' => w'.cell? ⟨g, 0, none⟩ = some (.func (.func 220) #[] #[.pointer (some ⟨s + 1, 0, none⟩)]) ∧ w'.cell? ⟨s, 0, none⟩ = some (.pointer (some ⟨X.h.g, 0, none⟩)) ∧ w'.cell? ⟨s + 1, 0, none⟩ = some (.int .i64 (f : Int))) (first | exact ⟨c0, c1, c2⟩ | go_keep) ((first | (go_at_call 56; refine (HL.out _ (by first | exact hd.m | exact hd.m.drew)).mono ?_; rintro e w2 hq; obtain rfl := hq.1; replace hd := (by first | exact hd.step hq | exact hd.drew.step hq); obtain ⟨c0, c1, c2, c3, c4⟩ := hd.cells; clear hq) | (go_at_call 220; refine (HRv.out _ (by first | exact c2 | exact hd.drew.cells.2.2.1)).mono ?_; rintro e w3 ⟨rfl, rfl⟩)))
    all_goals
      have HE := Lib.hid (hd.done (.tuple #[]))
      clear hd HL HRv
      go_wp2
      refine bodyPost_end (results_none rfl _ _ _) rfl HE.out
/-! ### Move -/
theorem RD.cons (d : RD X R w L W) (o : Obj) : RD X R w ((W.heap.size, o) :: L) (W.alloc o) := by
  have h1 := d.below (below_made W o)
  refine ⟨h1.m, fun p hp => ?_, fun p hp => ?_, h1.f⟩
  · rcases List.mem_cons.1 hp with rfl | hp
    · exact heap_alloc_new W o
    · exact h1.k p hp
  · rcases List.mem_cons.1 hp with rfl | hp
    · intro q
      have := d.m.lt _ q
      exact absurd this (Nat.lt_irrefl _)
    · exact d.n p hp
theorem RD.start (d : Rs X R w) : RD X R w [] w := ⟨d, fun p hp => (by cases hp), fun p hp => (by cases hp), Fr.refl _ _ _⟩
theorem RD.perm {L' : List (Nat × Obj)} (d : RD X R w L W) (h : ∀ p ∈ L', p ∈ L) : RD X R w L' W := ⟨d.m, fun p hp => d.k p (h p hp), fun p hp => d.n p (h p hp), d.f⟩
theorem RD.made (d : Rs X R w) (f t : Nat) : RD X R w (mvL X f t w.heap.size) ((((w.alloc (.cells #[pV X.h] 26)).alloc (.cells #[.int .i64 (f : Int)] 3)).alloc (.cells #[.int .i64 (t : Int)] 3)).alloc (.cells #[pV X.h] 157)) := by
  have h := ((((RD.start d).cons (.cells #[pV X.h] 26)).cons (.cells #[.int .i64 (f : Int)] 3)).cons (.cells #[.int .i64 (t : Int)] 3)).cons (.cells #[pV X.h] 157)
  simp only [World.size_alloc] at h
  refine h.perm (fun p hp => ?_)
  simp only [mvL, List.mem_cons, List.not_mem_nil, or_false] at hp ⊢
  rcases hp with q | q | q | q
  · exact .inr (.inr (.inr q))
  · exact .inr (.inr (.inl q))
  · exact .inr (.inl q)
  · exact .inl q
theorem RD.cells4 (d : RD X R w (mvL X f t b) W) : W.cell? ⟨b, 0, none⟩ = some (.pointer (some ⟨X.h.g, 0, none⟩)) ∧ W.cell? ⟨b + 1, 0, none⟩ = some (.int .i64 (f : Int)) ∧ W.cell? ⟨b + 1 + 1, 0, none⟩ = some (.int .i64 (t : Int)) ∧ W.cell? ⟨b + 1 + 1 + 1, 0, none⟩ = some (.pointer (some ⟨X.h.g, 0, none⟩)) :=
  ⟨d.cell (.head _) rfl, d.cell (.tail _ (.head _)) rfl, d.cell (.tail _ (.tail _ (.head _))) rfl, d.cell (.tail _ (.tail _ (.tail _ (.head _)))) rfl⟩
theorem rk_word (R : Rv) (x s : Nat) {k : Nat} (hk : k < 2) : (rk R x s k).word (13 + (k : Int)) = (rk R x s k).cur (13 + (k : Int)) := by
  rcases (show k = 0 ∨ k = 1 by omega) with rfl | rfl <;> rfl
set_option maxRecDepth 100000 in
set_option maxHeartbeats 2000000 in
theorem move_any (d : Rs X R w) (hf : f ≠ 0) (hfb : f < 4294967296) (ht : t ∈ X.E) (hl : R.nx t ≠ 0) {R2 R3 R4 : Rv} {n p : Nat} (e2 : R2 = fol f t (fol f t R 5 t) 6 t) (hn : R2.nx t = n) (hnE : n ∈ X.E) (e3 : R3 = fol f t R2 6 n) (hp : R3.pv t = p) (hpE : p ∈ X.E) (e4 : R4 = fol f t R3 5 p) :
    Calls Tryz.prog 139 #[pV X.h, .int .i64 (f : Int), .int .i64 (t : Int)] w (RsR X (rk R4 f t 2) (.int .i64 0) w) := by
  have htb : t < 4294967296 := by have := d.facts ht; omega
  have d1 := RD.made d f t
  obtain ⟨c0, c1, c2, c3⟩ := d1.cells4
  have HC := Lib.hid (checkLinked_any d1.m ht)
  rw [if_neg hl] at HC
  have HF1 := Lib.hid (fun g W (hW : RD X R w (mvM X f t w.heap.size g) W) => follow_any (hW.kl.rd hW.m) hf hfb htb ht (c := 5) (.inl rfl))
  obtain ⟨R1, hR1⟩ : ∃ R1, R1 = fol f t R 5 t := ⟨_, rfl⟩
  rw [← hR1] at HF1 e2
  have HF2 := Lib.hid (fun g W (hW : RD X R1 w (mvM X f t w.heap.size g) W) => follow_any (hW.kl.rd hW.m) hf hfb htb ht (c := 6) (.inr rfl))
  rw [← e2] at HF2
  have HB := Lib.hid (fun g W (hW : RD X R2 w (mvM X f t w.heap.size g) W) => beside4_any (R1 := R3) (R2 := R4) (g := 221) (.pointer (some ⟨g, 0, none⟩)) (.pointer (some ⟨w.heap.size, 0, none⟩)) (.pointer (some ⟨w.heap.size + 1 + 1 + 1, 0, none⟩)) (.pointer (some ⟨w.heap.size + 1 + 1, 0, none⟩)) (fun _ _ => rfl) (KL X (mvM X f t w.heap.size g)) (fun W W' k _ hf => k.keep hf) hW.m hW.kl ht hn hnE hp hpE
    (fun W hW k => by rw [e3]; exact follow_any (k.rd hW) hf hfb htb hnE (.inr rfl)) (fun W hW k => by rw [e4]; exact follow_any (k.rd hW) hf hfb htb hpE (.inl rfl)))
  have HRo := Lib.hid (fun (k : Nat) (hk : k < 2) W (hW : Rs X (rk R4 f t k) W) => hW.root (f := 13 + (k : Int)) (by omega))
  have HRf := Lib.hid (fun (v : Nat) W hW => refers_any v f (w.heap.size + 1) hf hfb W hW)
  have HS := Lib.hid (fun (k : Nat) (hk : k < 2) W (hW : Rs X (rk R4 f t k) W) => set_any hW (f := 13 + (k : Int)) (by omega) htb)
  have HSt := Lib.hid (fun (k : Nat) (hk : k < 2) => rk_step R4 f t hk)
  have HWd := Lib.hid (fun (k : Nat) (hk : k < 2) => rk_word R4 f t hk)
  have h0 : rk R4 f t 0 = R4 := rk_zero _ _ _
  have HD := Lib.hid d1
  generalize rk R4 f t = rr at HRo HS HSt HWd h0 ⊢
  clear d d1 hf hfb ht hl e2 hn hnE e3 hp hpE e4 hR1 htb
  unfold rV pV at *
  go_enter Tryz.func139, Tryz.ntmps139
  go_wp2_with fail
  refine HC.out.mono ?_
  rintro e w1 hq
  obtain rfl := hq.1
  have HD1 := Lib.hid (HD.out.step hq)
  clear hq HD HC c0 c1 c2 c3
  have HD2 : Hid (RD X R w (mvM X f t w.heap.size w1.heap.size) (w1.alloc (.cells #[.func (.func 220) #[] #[.pointer (some ⟨w.heap.size + 1, 0, none⟩)]] 227))) := HD1.out.cons _
  obtain ⟨c0, c1, c2, c3, c4⟩ := HD2.out.cells
  clear HD1
  go_wp2_with fail
  refine (HF1.out _ _ HD2.out).mono ?_
  clear c0 c1 c2 c3 c4
  generalize w1.heap.size = g at HD2 ⊢
  rintro e w3 hq
  obtain rfl := hq.1
  have HD3 := Lib.hid (HD2.out.step hq)
  obtain ⟨c0, c1, c2, c3, c4⟩ := HD3.out.cells
  clear hq HD2 HF1
  go_wp2_with fail
  refine (HF2.out _ _ HD3.out).mono ?_
  rintro e w4 hq
  obtain rfl := hq.1
  have HD4 := Lib.hid (HD3.out.step hq)
  obtain ⟨c0, c1, c2, c3, c4⟩ := HD4.out.cells
  clear hq HD3 HF2
  go_wp2_with fail
  refine (HB.out _ _ HD4.out).mono ?_
  rintro e w5 hq
  obtain rfl := hq.1
  have HD5 := Lib.hid (HD4.out.step hq)
  obtain ⟨c0, c1, c2, c3, c4⟩ := HD5.out.cells
  clear hq HD4 HB
  obtain ⟨t0, t1⟩ := HD5.out.m.tc.cell
  rw [← h0] at HD5
  clear h0
  go_wp2
  clear t0 t1 c0 c1 c2 c3 c4
  go_loopw [34] (fun i wr => ∃ k : Nat, k ≤ 2 ∧ i = .int .i64 k ∧ Hid (RD X (rr k) w (mvM X f t w.heap.size g) wr)) (fun i _ => 2 - (intOf i).toNat)
  case atStart => exact ⟨0, Nat.zero_le _, rfl, HD5.out⟩
  case round =>
    obtain ⟨k, hk, rfl, HR⟩ := hrel
    by_cases hlt : k < 2
    · have hlt1 : (k : Int) < 2 := by omega
      have hlt0 : (0 : Int) ≤ (k : Int) := by omega
      have hix := fun u => index_cur hlt u
      obtain ⟨c0, c1, c2, c3, c4⟩ := HR.out.cells
      have HR1 := Lib.hid (HRo.out k hlt)
      have HS1 := Lib.hid (HS.out k hlt)
      have hst := HSt.out k hlt
      rw [HWd.out k hlt] at HR1
      by_cases hc : (rr k).cur (13 + (k : Int)) = f
      · rw [if_pos hc] at hst
        rw [← hst] at HS1
        have HRf1 := Lib.hid (fun W hW => HRf.out ((rr k).cur (13 + (k : Int))) W hW)
        rw [decide_eq_true hc] at HRf1
        have hd := HR.out
        generalize (rr k).cur (13 + (k : Int)) = y at HR1 HRf1
        generalize (13 + (k : Int)) = c at HR1 HS1 hix
        clear hst hc HR
        go_wp2
        go_region_held3 (fun w' => w'.cell? ⟨g, 0, none⟩ = some (.func (.func 220) #[] #[.pointer (some ⟨w.heap.size + 1, 0, none⟩)]) ∧ w'.cell? ⟨w.heap.size, 0, none⟩ = some (.pointer (some ⟨X.h.g, 0, none⟩)) ∧ w'.cell? ⟨w.heap.size + 1, 0, none⟩ = some (.int .i64 (f : Int))) (first | exact ⟨c0, c1, c2⟩ | go_keep) ((first | (go_at_call 134; refine (HR1.out _ (by first | exact hd.m | exact hd.m.drew)).mono ?_; rintro e w2 hq; obtain rfl := hq.1; replace hd := (by first | exact hd.step hq | exact hd.drew.step hq); obtain ⟨c0, c1, c2, c3, c4⟩ := hd.cells; clear hq) | (go_at_call 220; refine (HRf1.out _ (by first | exact c2 | exact hd.drew.cells.2.2.1)).mono ?_; rintro e w3 ⟨rfl, rfl⟩)))
        all_goals
          have HE := Lib.hid hd
          clear hd HR1 HRf1
          go_wp2_with fail
          refine (HS1.out _ HE.out.m).mono ?_
          rintro e w3 hq
          obtain rfl := hq.1
          have HE2 := Lib.hid (HE.out.step hq)
          clear hq HE HS1
          go_wp2
          go_roundw
          case rel => exact ⟨k + 1, by omega, by go_num, HE2.out⟩
          case measure => simp [intOf]; omega
      · rw [if_neg hc] at hst
        have HRf1 := Lib.hid (fun W hW => HRf.out ((rr k).cur (13 + (k : Int))) W hW)
        rw [decide_eq_false hc] at HRf1
        have hd := HR.out
        generalize (rr k).cur (13 + (k : Int)) = y at HR1 HRf1
        generalize (13 + (k : Int)) = c at HR1 hix
        rw [← hst] at HR1 hd
        clear hst hc HR HS1
        go_wp2
        go_region_held3 (fun w' => w'.cell? ⟨g, 0, none⟩ = some (.func (.func 220) #[] #[.pointer (some ⟨w.heap.size + 1, 0, none⟩)]) ∧ w'.cell? ⟨w.heap.size, 0, none⟩ = some (.pointer (some ⟨X.h.g, 0, none⟩)) ∧ w'.cell? ⟨w.heap.size + 1, 0, none⟩ = some (.int .i64 (f : Int))) (first | exact ⟨c0, c1, c2⟩ | go_keep) ((first | (go_at_call 134; refine (HR1.out _ (by first | exact hd.m | exact hd.m.drew)).mono ?_; rintro e w2 hq; obtain rfl := hq.1; replace hd := (by first | exact hd.step hq | exact hd.drew.step hq); obtain ⟨c0, c1, c2, c3, c4⟩ := hd.cells; clear hq) | (go_at_call 220; refine (HRf1.out _ (by first | exact c2 | exact hd.drew.cells.2.2.1)).mono ?_; rintro e w3 ⟨rfl, rfl⟩)))
        all_goals
          have HE := Lib.hid hd
          clear hd HR1 HRf1
          go_wp2
          go_roundw
          case rel => exact ⟨k + 1, by omega, by go_num, HE.out⟩
          case measure => simp [intOf]; omega
    · obtain rfl : k = 2 := by omega
      have HE := Lib.hid (HR.out.done (.int .i64 0))
      clear HR HRo HS HSt HWd HRf
      go_wp2
      go_ret
      exact HE.out
end
end Go.Proofs.YtjjfihoplkddfaaGreatDoor.Rin
