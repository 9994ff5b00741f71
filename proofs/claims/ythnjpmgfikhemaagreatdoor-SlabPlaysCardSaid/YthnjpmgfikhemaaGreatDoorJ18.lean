/- The landed slabs: Take and Give of slabs that hang together. The landed slabs: a memory that is begun; what is told; the example. Plain mathematics of slabs: which blocks are live behind each call. The landed slabs: blocks that are written and read; the bytes behind all were given back; acts, as they come in. Slabs within a statement: the memory, rows of places, what calls come to. Rows of one's own: what they are; a live block lies in its memory. Places of live blocks; rows of bytes between two bounds. -/
import Derived.Test.YthnjpmgfikhemaaGreatDoorJ17
import Derived.Test.YthnjpmgfikhemaaGreatDoorJ1
import Derived.Lib.SlBytesConst
namespace Go.Proofs.YthnjpmgfikhemaaGreatDoor.Sla
open Go.RowKit Num
open Mem (Mm MemC MRet Hm rd blkM)
open Lis (Cf LM LR Tb at_ Nx Pv Rep Hx valsN)
open Cls (szC blC pdC)
open Arn (wrL)
set_option linter.unusedVariables false

theorem getD_set1 (T : List Sl) (j : Nat) (s : Sl) (hj : j < T.length) : (T.set j s).getD j Sl.zero = s := by rw [Lis.getD_set _ _ _ _ _ hj, if_pos rfl]
theorem getD_set2 (T : List Sl) {i j : Nat} (s : Sl) (hj : j < T.length) (hi : i ≠ j) : (T.set j s).getD i Sl.zero = T.getD i Sl.zero := by rw [Lis.getD_set _ _ _ _ _ hj, if_neg hi]
theorem hset1 (H : List Hx) (j : Nat) (s : Hx) (hj : j < H.length) : (H.set j s).getD j (0, 0, 0) = s := by rw [Lis.getD_set _ _ _ _ _ hj, if_pos rfl]
theorem hset2 (H : List Hx) {i j : Nat} (s : Hx) (hj : j < H.length) (hi : i ≠ j) : (H.set j s).getD i (0, 0, 0) = H.getD i (0, 0, 0) := by rw [Lis.getD_set _ _ _ _ _ hj, if_neg hi]
theorem lset1 (L : List Int) (j : Nat) (s : Int) (hj : j < L.length) : at_ (L.set j s) j = s := by rw [Lis.at_set hj, if_pos rfl]
theorem lset2 (L : List Int) {i j : Nat} (s : Int) (hj : j < L.length) (hi : i ≠ j) : at_ (L.set j s) i = at_ L i := by rw [Lis.at_set hj, if_neg hi]
theorem v_of_len {s : Sl} (h : s.Ok) (hl : s.f.length < blC s.c) : s.v ≠ [] := by
  intro e
  have := h.len
  rw [e] at this
  simp at this
  omega
theorem range_cons (n : Nat) (h : 1 ≤ n) : List.range n = 0 :: (List.range (n - 1)).map (· + 1) := by
  obtain ⟨m, rfl⟩ : ∃ m, n = m + 1 := ⟨n - 1, by omega⟩
  rw [List.range_succ_eq_map]
  rfl
/-- What is left when the first free block is taken. -/
theorem Co.taken {S N : Nat} {H : List Hx} {L : List Int} {T : List Sl} (hS : T.length = S ∧ H.length = S ∧ L.length = S) {j c : Nat} {f : List Nat} (hj : j < S) (hc : 1 ≤ c) (hs : (Sl.mk c f).Ok) (hlt : f.length < blC c)
    (hH : ∀ i, i < S → i ≠ j → H.getD i (0, 0, 0) = (((T.getD i Sl.zero).c : Int), ((T.getD i Sl.zero).v.length : Int), (lk (aT S N i) (T.getD i Sl.zero).c (T.getD i Sl.zero).f : Int)))
    (hL : ∀ i, i < S → i ≠ j → at_ L i = lst (T.getD i Sl.zero)) (hLj : at_ L j = (c : Int)) (hV : ∀ i, i < S → i ≠ j → (T.getD i Sl.zero).c ≠ 0 → (T.getD i Sl.zero).v ≠ []) :
    Co S N (H.set j ((c : Int), ((kpA S N j ⟨c, f⟩ 5).length : Int), (lk (aT S N j) c f : Int))) (if f = [] then L.set j (-1) else L) (T.set j ⟨c, f⟩) := by
  obtain ⟨e1, e2, e3⟩ := hS
  refine ⟨fun i hi => ?_, fun i hi => ?_, fun i hi => ?_⟩
  · by_cases e : i = j
    · subst e
      rw [hset1 _ _ _ (by omega), getD_set1 _ _ _ (by omega), kpA5_len]
    · rw [hset2 _ _ (by omega) e, getD_set2 _ _ (by omega) e]
      exact hH i hi e
  · by_cases e : i = j
    · subst e
      rw [getD_set1 _ _ _ (by omega)]
      unfold lst
      simp only
      rw [if_neg (show ¬ c = 0 by omega)]
      by_cases hf : f = []
      · rw [if_pos hf, if_pos hf, lset1 _ _ _ (by omega)]
      · rw [if_neg hf, if_neg hf, hLj]
    · rw [getD_set2 _ _ (by omega) e]
      by_cases hf : f = []
      · rw [if_pos hf, lset2 _ _ (by omega) e]
        exact hL i hi e
      · rw [if_neg hf]
        exact hL i hi e
  · by_cases e : i = j
    · subst e
      rw [getD_set1 _ _ _ (by omega)]
      intro _
      exact v_of_len hs hlt
    · rw [getD_set2 _ _ (by omega) e]
      exact hV i hi e
section
variable {h : Hm} {S N : Nat} {l0 l l' : List Int} {T T' : List Sl} {w W W' : World}
theorem Sb.lk_zero {H : List Hx} {L : List Int} (d : Sb h S N l0 l H L T w) {j : Nat} (hj : j < S) {c : Int} (f : List Nat) (hf : ∀ k, k ∈ f → k < blC c) : lk (aT S N j) c f < 4294967296 ∧ (lk (aT S N j) c f = 0 ↔ f = []) := by
  obtain ⟨C, rfl, rfl, h3, h4, h5⟩ := d
  have hb := ok_base h5.ok
  cases f with
  | nil => exact ⟨by show 0 < 4294967296; omega, by simp [lk]⟩
  | cons y f =>
    have hy := hf y (by simp)
    have := pl_bd (S := 0) (N := 0) h5.ok hj hy
    refine ⟨by show pl (aT C.s C.n j) c y < _; omega, ?_⟩
    simp only [lk]
    unfold pl aT
    constructor
    · intro q; omega
    · intro q; cases q
theorem St.take (d : St h S N l0 l T w) (c : Int) :
    Calls Tryz.prog 8 #[pV h, .int .i64 c] w fun e w' => ∃ l', e = .returned (.tuple #[.int .i64 (tkF S N T c).1.1, .int .i64 (tkF S N T c).1.2]) ∧ St h S N l0 l' (tkF S N T c).2 w' ∧ Fr w.heap.size (blkM h) w w' ∧ Kp S N T (tkF S N T c).2 l l' ∧
      ((tkF S N T c).1.2 = 0 → ∀ i, i < szC c → l'.getD ((tkF S N T c).1.1.toNat + i) 0 = 0) := by
  obtain ⟨H, L, d1, d2⟩ := d
  obtain ⟨tl, Ll, Hl, s7, s64⟩ := d1.tl
  by_cases hz : szC c = 0
  · have e : tkF S N T c = ((0, 2), T) := by unfold tkF; rw [if_pos hz]
    rw [e]
    refine (d1.take_arg (Cls.blC_no hz)).mono ?_
    intro e w' hr
    exact ⟨l, hr.1, ⟨H, L, hr.2.1, d2⟩, hr.2.2, Kp.refl _ _ _ _ _, fun q => by simp at q⟩
  · have hb := Cls.szC_is hz
    obtain ⟨n, rfl⟩ : ∃ n : Nat, c = n := ⟨c.toNat, by omega⟩
    have hn1 : 1 ≤ n := by omega
    have hn9 : n ≤ 9 := by omega
    cases hj : fi T (n : Int) with
    | some j =>
      obtain ⟨j1, j2, -⟩ := fi_some hj
      have hjS : j < S := by omega
      obtain ⟨q1, q2⟩ := lst_pos hn1 j2
      obtain ⟨k, f, hf⟩ : ∃ k f, (T.getD j Sl.zero).f = k :: f := by
        cases hx : (T.getD j Sl.zero).f with
        | nil => exact absurd hx q2
        | cons k f => exact ⟨k, f, rfl⟩
      have hT : T.getD j Sl.zero = ⟨n, k :: f⟩ := by
        cases hx : T.getD j Sl.zero with
        | mk c0 f0 =>
          rw [hx] at q1 hf
          simp only at q1 hf
          rw [q1, hf]
      have hok := d1.ok9 hjS
      rw [hT] at hok
      have hk : k < blC (n : Int) := hok.lt k (by simp)
      have e : tkF S N T (n : Int) = (((pl (aT S N j) n k : Int), 0), T.set j ⟨n, f⟩) := by
        unfold tkF tkJ
        rw [if_neg hz, Int.toNat_natCast, hj]
        simp only
        rw [hf]
      rw [e]
      have hF : (H.getD j (0, 0, 0)).2.2 = (pl (aT S N j) n k : Int) := by
        rw [d2.h j hjS, hT]
        rfl
      have hLj : at_ L j = (n : Int) := by rw [d2.l j hjS, j2]
      have hfo : (Sl.mk n f).Ok := ⟨hok.c, (List.nodup_cons.1 hok.nd).2, fun y hy => hok.lt y (by simp [hy])⟩
      obtain ⟨z1, z2⟩ := d1.lk_zero hjS (c := (n : Int)) f (fun y hy => hfo.lt y hy)
      have hlen := hok.len
      have hnx := nx_some d2 Ll tl hj
      refine (d1.take_yes (P := fun l1 => l1 = l) hn1 hn9 (fun W dd => by
        refine (dd.source_has hn9 hnx).mono ?_
        intro e W' hr
        exact ⟨l, hr, rfl⟩) hjS d2.hc hT hF hLj z1 z2 tl).mono ?_
      rintro e w' ⟨l1, l', rfl, hr, ho, hzr⟩
      refine ⟨l', hr.1, ⟨_, _, hr.2.1, Co.taken ⟨tl, Hl, Ll⟩ hjS hn1 hfo (by simp at hlen; omega) (fun i hi _ => d2.h i hi) (fun i hi _ => d2.l i hi) hLj (fun i hi _ => d2.v i hi)⟩, hr.2.2, ?_, fun _ i hi => by rw [Int.toNat_natCast]; exact hzr i hi⟩
      intro i k' hi hv hv' hcc t ht
      by_cases e : i = j
      · subst e
        rw [hT] at hv ht ⊢
        refine off_block ho ?_ ht
        rintro rfl
        exact (mem_lt hv).2 (by simp)
      · exact off_slab (off_wide ho hk) e (mem_lt hv).1 ht
    | none =>
      have hnx := nx_none d2 Ll tl hj
      cases hj0 : fi T 0 with
      | none =>
        have e : tkF S N T (n : Int) = ((0, 5), T) := by
          unfold tkF tkJ
          rw [if_neg hz, Int.toNat_natCast, hj]
          simp only
          rw [hj0]
        rw [e]
        refine (d1.take_full hn1 hn9 hnx (nx_none d2 Ll tl hj0)).mono ?_
        intro e w' hr
        exact ⟨l, hr.1, ⟨H, L, hr.2.1, d2⟩, hr.2.2, Kp.refl _ _ _ _ _, fun q => by simp at q⟩
      | some j =>
        obtain ⟨j1, j2, -⟩ := fi_some hj0
        have hjS : j < S := by omega
        have hc0 := lst_zero.1 j2
        have hbp := Cls.blC_pos hz
        have hrc := range_cons (blC (n : Int)) (by omega)
        have hTs : (T.set j ⟨n, List.range (blC (n : Int))⟩).getD j Sl.zero = ⟨n, List.range (blC (n : Int))⟩ := getD_set1 _ _ _ (by omega)
        have e : tkF S N T (n : Int) = (((pl (aT S N j) n 0 : Int), 0), T.set j ⟨n, (List.range (blC (n : Int) - 1)).map (· + 1)⟩) := by
          unfold tkF tkJ
          rw [if_neg hz, Int.toNat_natCast, hj]
          simp only
          rw [hj0]
          simp only
          rw [hTs]
          simp only
          rw [hrc]
          simp only
          rw [List.set_set]
        rw [e]
        have hLj : at_ L j = 0 := by rw [d2.l j hjS, j2]
        have hr9 : (Sl.mk n (List.range (blC (n : Int)))).Ok := ⟨hn9, List.nodup_range, fun y hy => by simpa using hy⟩
        have hfo : (Sl.mk n ((List.range (blC (n : Int) - 1)).map (· + 1))).Ok := by
          have h1 := hr9.nd
          have h2 := hr9.lt
          simp only at h1 h2
          rw [hrc] at h1 h2
          exact ⟨hn9, (List.nodup_cons.1 h1).2, fun y hy => h2 y (by simp only [List.mem_cons]; exact .inr hy)⟩
        obtain ⟨z1, z2⟩ := d1.lk_zero hjS (c := (n : Int)) _ (fun y hy => hfo.lt y hy)
        have hHC : HC S (H.set j ((n : Int), 0, (aT S N j : Int))) (T.set j ⟨n, List.range (blC (n : Int))⟩) := fun i hi => by
          by_cases e : i = j
          · subst e
            rw [hset1 _ _ _ (by omega), hTs]
          · rw [hset2 _ _ (by omega) e, getD_set2 _ _ (by omega) e]
            exact d2.hc i hi
        have hnx0 := nx_some d2 Ll tl hj0
        refine (d1.take_yes (P := fun l1 => OffU S N (aT S N j) 1024 l l1) (f := (List.range (blC (n : Int) - 1)).map (· + 1)) (k := 0) hn1 hn9 (fun W dd => by
          refine (dd.source_new hn1 hn9 hnx hnx0 hjS hLj).mono ?_
          rintro e W' ⟨l1, hr, ho⟩
          exact ⟨l1, hr, ho⟩) hjS hHC (by rw [hTs, hrc]) (by rw [hset1 _ _ _ (by omega)]; unfold pl; simp) (lset1 _ _ _ (by rw [List.length_set]; omega)) z1 z2 (by rw [List.length_set]; exact tl)).mono ?_
        rintro e w' ⟨l1, l', hp, hr, ho, hzr⟩
        have hss : (T.set j ⟨n, List.range (blC (n : Int))⟩).set j ⟨n, (List.range (blC (n : Int) - 1)).map (· + 1)⟩ = T.set j ⟨n, (List.range (blC (n : Int) - 1)).map (· + 1)⟩ := List.set_set ..
        rw [hss] at hr
        have hlen := hfo.len
        have hsb := hr.2.1
        have hco : Co S N ((H.set j ((n : Int), 0, (aT S N j : Int))).set j ((n : Int), ((kpA S N j ⟨n, (List.range (blC (n : Int) - 1)).map (· + 1)⟩ 5).length : Int), (lk (aT S N j) n ((List.range (blC (n : Int) - 1)).map (· + 1)) : Int)))
            (if (List.range (blC (n : Int) - 1)).map (· + 1) = [] then ((L.set j (-1)).set j (n : Int)).set j (-1) else (L.set j (-1)).set j (n : Int)) ((T.set j ⟨n, List.range (blC (n : Int))⟩).set j ⟨n, (List.range (blC (n : Int) - 1)).map (· + 1)⟩) :=
          Co.taken ⟨by rw [List.length_set]; exact tl, by rw [List.length_set]; exact Hl, by rw [List.length_set, List.length_set]; exact Ll⟩ hjS hn1 hfo (by simp; omega)
            (fun i hi e => by rw [hset2 _ _ (by omega) e, getD_set2 _ _ (by omega) e]; exact d2.h i hi)
            (fun i hi e => by rw [lset2 _ _ (by rw [List.length_set]; omega) e, lset2 _ _ (by omega) e, getD_set2 _ _ (by omega) e]; exact d2.l i hi)
            (lset1 _ _ _ (by rw [List.length_set]; omega))
            (fun i hi e => by rw [getD_set2 _ _ (by omega) e]; exact d2.v i hi)
        rw [hss] at hco
        refine ⟨l', hr.1, ⟨_, _, hsb, hco⟩, hr.2.2, ?_, fun _ i hi => by rw [Int.toNat_natCast]; exact hzr i hi⟩
        intro i k' hi hv hv' hcc t ht
        have hne : i ≠ j := by
          rintro rfl
          rw [zero_v hc0] at hv
          cases hv
        exact off_slab (hp.trans (off_wide ho (by omega))) hne (mem_lt hv).1 ht

theorem St.give (d : St h S N l0 l T w) {a : Int} (h64 : Arn.is64 a) :
    Calls Tryz.prog 11 #[pV h, .int .i64 a] w fun e w' => ∃ l', e = .returned (.int .i64 (gvF S N T a).1) ∧ St h S N l0 l' (gvF S N T a).2 w' ∧ Fr w.heap.size (blkM h) w w' ∧ Kp S N T (gvF S N T a).2 l l' := by
  obtain ⟨H, L, d1, d2⟩ := d
  obtain ⟨tl, Ll, Hl, s7, s64⟩ := d1.tl
  cases hf : fnd S N T a with
  | none =>
    have e : gvF S N T a = (30, T) := by unfold gvF; rw [hf]
    rw [e]
    refine (d1.give_no (p := none) (j := 0) (c := 0) (b := 0) (fun W dd => dd.begins_no d2.hc h64 hf)).mono ?_
    intro e w' hr
    exact ⟨l, hr.1, ⟨H, L, hr.2.1, d2⟩, hr.2.2, Kp.refl _ _ _ _ _⟩
  | some p =>
    obtain ⟨j, k⟩ := p
    obtain ⟨hj, hk, -, -⟩ := fnd_some d1.right hf
    by_cases hp : (pl (aT S N j) (T.getD j Sl.zero).c k : Int) = a
    · by_cases hkf : k ∈ (T.getD j Sl.zero).f
      · have e : gvF S N T a = (30, T) := by
          unfold gvF
          rw [hf]
          exact if_neg (fun q => q.2 hkf)
        rw [e]
        refine (d1.give_dead (j := j) (c := (T.getD j Sl.zero).c) (A := pl (aT S N j) (T.getD j Sl.zero).c k) (K := 6) (by omega) (fun W dd => by
          have := dd.begins d2.hc h64 hf
          rw [decide_eq_true hp] at this
          exact this) (fun W dd => by
          have := dd.kind hj hk 0
          rw [show kd (T.getD j Sl.zero) k = 6 from if_pos hkf] at this
          exact this)).mono ?_
        intro e w' hr
        exact ⟨l, hr.1, ⟨H, L, hr.2.1, d2⟩, hr.2.2, Kp.refl _ _ _ _ _⟩
      · have hok := d1.ok9 hj
        have e : gvF S N T a = (0, T.set j (if (T.getD j Sl.zero).f.length + 1 = blC (T.getD j Sl.zero).c then Sl.zero else ⟨(T.getD j Sl.zero).c, k :: (T.getD j Sl.zero).f⟩)) := by
          unfold gvF
          rw [hf]
          exact if_pos ⟨hp, hkf⟩
        rw [e]
        have hHj := d2.h j hj
        have hLj := d2.l j hj
        obtain ⟨c, f, hT⟩ : ∃ c f, T.getD j Sl.zero = ⟨c, f⟩ := ⟨_, _, rfl⟩
        rw [hT] at hk hp hkf hok hHj hLj ⊢
        simp only at hk hp hkf hHj ⊢
        have hlen := hok.len
        have hc0 : c ≠ 0 := by
          rintro rfl
          rw [show blC ((0 : Nat) : Int) = 0 from rfl] at hk
          omega
        have hc9 := hok.c
        simp only at hlen hc9
        have hfo : (Sl.mk c (k :: f)).Ok := ⟨hc9, List.nodup_cons.2 ⟨hkf, hok.nd⟩, fun y hy => by
          rcases List.mem_cons.1 hy with rfl | hy
          · exact hk
          · exact hok.lt y hy⟩
        have hlen2 := hfo.len
        simp only [List.length_cons] at hlen2
        have hbp := Cls.blC_pos (c := (c : Int)) (by rw [Cls.szC_zero]; omega)
        obtain ⟨z1, z2⟩ := d1.lk_zero hj (c := (c : Int)) f (fun y hy => hok.lt y hy)
        have hL2 : at_ L j = if f = [] then -1 else (c : Int) := by
          rw [hLj]
          unfold lst
          simp only
          rw [if_neg hc0]
        rw [← hp]
        refine (d1.give_yes (m := (kpA S N j ⟨c, k :: f⟩ 5).length) hj d2.hc hT hk hkf (by omega) hc9 (by rw [hHj]) hL2 z1 z2 tl rfl (fun q => by
          rw [kpA5_len] at q
          rintro rfl
          simp at hlen2
          omega)).mono ?_
        rintro e w' ⟨l', hr, ho⟩
        rw [kpA5_len] at hr ho
        by_cases hm : f.length + 1 = blC (c : Int)
        · have hm0 : (Sl.mk c (k :: f)).v.length = 0 := by omega
          rw [if_pos hm0] at hr ho
          rw [if_pos hm]
          have hss : (T.set j ⟨c, k :: f⟩).set j Sl.zero = T.set j Sl.zero := List.set_set ..
          rw [hss] at hr
          refine ⟨l', hr.1, ⟨_, _, hr.2.1, fun i hi => ?_, fun i hi => ?_, fun i hi => ?_⟩, hr.2.2, ?_⟩
          · by_cases e : i = j
            · subst e
              rw [hset1 _ _ _ (by omega), getD_set1 _ _ _ (by omega), zero_v (s := Sl.zero) rfl]
              rfl
            · rw [hset2 _ _ (by omega) e, getD_set2 _ _ (by omega) e]
              exact d2.h i hi
          · by_cases e : i = j
            · subst e
              rw [lset1 _ _ _ (by rw [List.length_set]; omega), getD_set1 _ _ _ (by omega)]
              rfl
            · rw [lset2 _ _ (by rw [List.length_set]; omega) e, lset2 _ _ (by omega) e, getD_set2 _ _ (by omega) e]
              exact d2.l i hi
          · by_cases e : i = j
            · subst e
              rw [getD_set1 _ _ _ (by omega)]
              intro q
              exact absurd rfl q
            · rw [getD_set2 _ _ (by omega) e]
              exact d2.v i hi
          · intro i k' hi hv hv' hcc t ht
            have hne : i ≠ j := by
              rintro rfl
              rw [getD_set1 _ _ _ (by omega), zero_v (s := Sl.zero) rfl] at hv'
              cases hv'
            exact off_slab ho hne (mem_lt hv).1 ht
        · have hm0 : ¬ (Sl.mk c (k :: f)).v.length = 0 := by omega
          rw [if_neg hm0] at hr ho
          rw [if_neg hm]
          refine ⟨l', hr.1, ⟨_, _, hr.2.1, fun i hi => ?_, fun i hi => ?_, fun i hi => ?_⟩, hr.2.2, ?_⟩
          · by_cases e : i = j
            · subst e
              rw [hset1 _ _ _ (by omega), getD_set1 _ _ _ (by omega)]
              rfl
            · rw [hset2 _ _ (by omega) e, getD_set2 _ _ (by omega) e]
              exact d2.h i hi
          · by_cases e : i = j
            · subst e
              rw [getD_set1 _ _ _ (by omega)]
              have hl : lst (Sl.mk c (k :: f)) = (c : Int) := by
                unfold lst
                simp only
                rw [if_neg hc0, if_neg (by simp)]
              rw [hl]
              by_cases hf0 : f = []
              · rw [if_pos hf0, lset1 _ _ _ (by omega)]
              · rw [if_neg hf0, hL2, if_neg hf0]
            · rw [getD_set2 _ _ (by omega) e]
              by_cases hf0 : f = []
              · rw [if_pos hf0, lset2 _ _ (by omega) e]
                exact d2.l i hi
              · rw [if_neg hf0]
                exact d2.l i hi
          · by_cases e : i = j
            · subst e
              rw [getD_set1 _ _ _ (by omega)]
              intro _
              exact v_of_len hfo (by simp only [List.length_cons]; omega)
            · rw [getD_set2 _ _ (by omega) e]
              exact d2.v i hi
          · intro i k' hi hv hv' hcc t ht
            by_cases e : i = j
            · subst e
              rw [getD_set1 _ _ _ (by omega)] at hv'
              rw [hT] at ht ⊢
              refine off_block ho ?_ ht
              rintro rfl
              exact (mem_lt hv').2 (by simp)
            · exact off_slab (off_wide ho hk) e (mem_lt hv).1 ht
    · have e : gvF S N T a = (30, T) := by
        unfold gvF
        rw [hf]
        exact if_neg (fun q => hp q.1)
      rw [e]
      refine (d1.give_no (p := some ⟨h.g, 0, none⟩) (j := j) (c := (T.getD j Sl.zero).c) (b := pl (aT S N j) (T.getD j Sl.zero).c k) (fun W dd => by
        have := dd.begins d2.hc h64 hf
        rw [decide_eq_false hp] at this
        exact this)).mono ?_
      intro e w' hr
      exact ⟨l, hr.1, ⟨H, L, hr.2.1, d2⟩, hr.2.2, Kp.refl _ _ _ _ _⟩
end
end Go.Proofs.YthnjpmgfikhemaaGreatDoor.Sla

namespace Go.Proofs.YthnjpmgfikhemaaGreatDoor.Sla
open Go.RowKit Num
open Mem (Mm MemC MRet Hm rd blkM)
open Lis (Cf LM LR Tb at_ Nx Pv Rep Hx valsN)
open Cls (szC blC pdC)
open Arn (wrL)
set_option linter.unusedVariables false

/-! ### A new memory -/
theorem putA_far {l : List Int} {a x v : Int} {t : Nat} (h : a.toNat + x.toNat ≤ t) : (Arn.putA l a x v).1.getD t 0 = l.getD t 0 := by
  unfold Arn.putA
  split
  · rename_i hs
    obtain ⟨m, n, rfl, rfl, h1, h2⟩ := Arn.ste_zero hs
    rw [Int.toNat_natCast, Int.toNat_natCast] at h ⊢
    exact Lis.st_get (by simpa using h1) (by simpa using h2) (.inr h)
  · rfl
theorem stamped_far (s n : Int) (l : List Int) {t : Nat} (ht : 20 ≤ t) : (Mem.stamped s n 3 l).getD t 0 = l.getD t 0 := by
  unfold Mem.stamped Mem.stamped Mem.stamped Mem.stamped
  rw [putA_far (Nat.le_trans (show (Mem.fatM ((2 : Nat) : Int)).toNat + (Mem.fwdM ((2 : Nat) : Int)).toNat ≤ 20 by decide) ht),
    putA_far (Nat.le_trans (show (Mem.fatM ((1 : Nat) : Int)).toNat + (Mem.fwdM ((1 : Nat) : Int)).toNat ≤ 20 by decide) ht),
    putA_far (Nat.le_trans (show (Mem.fatM ((0 : Nat) : Int)).toNat + (Mem.fwdM ((0 : Nat) : Int)).toNat ≤ 20 by decide) ht)]
/-- The bytes of a new memory. -/
def newL (S N : Nat) : List Int := Mem.stamped (S : Int) (N : Int) 3 (List.replicate (Lay.sizeC (S : Int) (N : Int)) 0)
theorem newL_far (S N : Nat) {t : Nat} (ht : 20 ≤ t) : (newL S N).getD t 0 = 0 := by
  unfold newL
  rw [stamped_far _ _ _ ht]
  simp [List.getD, List.getElem?_replicate]
  split <;> rfl
theorem getD_rep {α : Type} (n : Nat) (x d : α) {j : Nat} (hj : j < n) : (List.replicate n x).getD j d = x := by simp [List.getD, hj]
section
variable {h : Hm} {S N : Nat} {l0 l l' : List Int} {T T' : List Sl} {w W W' : World}
theorem new_z (z : Bool) (S N : Nat) (w : World) (hr : Lay.rightC (S : Int) (N : Int) = true) (ht : Tb w) (hh : Hea.Tab w) :
    Calls Tryz.prog 5 #[.agg #[.int .i64 (S : Int), .int .i64 (N : Int)]] w fun e w' => ∃ h, e = .returned (pV h) ∧ SM h (Lis.newCf S N) (newL S N) w' ∧ Below w.heap.size w w' ∧ (∀ k, blkM h k → w.heap.size ≤ k) ∧ h.z = z := by
  refine (Mem.new_yes S N w hr ht.c ht.p).mono ?_
  rintro e w' ⟨v, h, rfl, hm, hb, hk⟩
  have hv := hm.hv
  subst hv
  exact ⟨{ h with z := z }, rfl, ⟨⟨ht.keep hb, 0, hm.lax z⟩, hh.keep hb⟩, hb, hk, rfl⟩
theorem Co.start (S N : Nat) : Co S N (List.replicate S (0, 0, 0)) (List.replicate S 0) (List.replicate S Sl.zero) := by
  refine ⟨fun j hj => ?_, fun j hj => ?_, fun j hj => ?_⟩
  · rw [getD_rep _ _ _ hj, getD_rep _ _ _ hj, zero_v (s := Sl.zero) rfl]
    rfl
  · rw [Lis.at_rep, if_pos hj, getD_rep _ _ _ hj]
    rfl
  · rw [getD_rep _ _ _ hj]
    intro q
    exact absurd rfl q
theorem begin_any {Z : List Int} (hZ : ∀ t, 20 ≤ t → Z.getD t 0 = 0) (hr : Lay.rightC (S : Int) (N : Int) = true) (d : SM h (Lis.newCf S N) Z w) :
    Calls Tryz.prog 7 #[pV h] w fun e w' => ∃ l', e = .returned (.int .i64 0) ∧ St h S N l' l' (List.replicate S Sl.zero) w' ∧ Fr w.heap.size (blkM h) w w' := by
  have hC := Lis.newCf_ok hr
  have hlx := d.m.len
  have hll : Z.length = Lay.sizeT S N := by
    obtain ⟨-, lk, hm⟩ := d.m
    have h1 := hm.len
    rw [show ((Lis.newCf S N).mm Z lk).l = Z from rfl] at h1
    rw [h1]
    show Lay.sizeC (S : Int) (N : Int) = _
    rw [Lay.sizeC, if_pos hr, Int.toNat_natCast, Int.toNat_natCast]
  have hbs := ok_base hC
  have hBg := Lis.begin_any h (Lis.newCf S N) Z Z w hC d.m (Lis.B1.fresh (by rw [hll]; show 128 + 16 * S ≤ _; rw [show (Lis.newCf S N).s = S from rfl, show (Lis.newCf S N).n = N from rfl] at hbs; omega))
  have hmain : Calls Tryz.prog 30 #[pV h] w fun e w' => ∃ l', e = .returned (.int .i64 0) ∧ St h S N l' l' (List.replicate S Sl.zero) w' ∧ Fr w.heap.size (blkM h) w w' := by
    refine hBg.mono ?_
    rintro e w' ⟨l', hl, hrp⟩
    have hq := d.lr hl
    have hx : (Lis.newCf S N).x.length = Lay.sizeT S N := hlx.symm.trans hll
    refine ⟨l', hq.1, ⟨_, _, ⟨Lis.newCf S N, rfl, rfl, fun _ => rfl, hq.2.1, ⟨hC, rep_self hrp, hx, hrp.llen.trans hll, List.length_replicate .., fun _ _ _ => rfl, fun t ht => ?_, fun j hj => ?_⟩⟩, Co.start S N⟩, hq.2.2⟩
    · obtain ⟨S', N', e1, e2, -, -, -, -, -, hk⟩ := Mem.kinds0_at hr
      obtain rfl : S = S' := by omega
      obtain rfl : N = N' := by omega
      exact hk t
    · have hj' : j < S := hj
      rw [getD_rep _ _ _ hj']
      refine Sh.done (fun t h1 h2 => ?_)
      rw [show (Lis.newCf S N).s = S from rfl, show (Lis.newCf S N).n = N from rfl] at hbs h1 h2
      unfold aT at h1 h2
      constructor
      · obtain ⟨S', N', e1, e2, -, -, -, -, -, hk⟩ := Mem.kinds0_at hr
        obtain rfl : S = S' := by omega
        obtain rfl : N = N' := by omega
        rw [show (Lis.newCf S N).x = Mem.kinds0 S N from rfl, hk]
        unfold Mem.kindT
        have e1 : Lay.endT S N ≤ Lay.baseT S N := by unfold Lay.baseT; omega
        have e2 : Lay.slT S ≤ Lay.endT S N := by unfold Lay.slT Lay.endT; omega
        rw [if_neg (by omega), if_neg (by omega), if_neg (by omega), if_neg (by omega), if_neg (by omega), if_pos (by omega)]
      · rw [hrp.rest t (by right; right; show 128 + 16 * S ≤ t; omega)]
        exact hZ t (by omega)
  have HM := Lib.hid hmain
  clear hmain hBg hlx hll hbs hC d hr
  unfold pV at *
  go_enter Tryz.func7, Tryz.ntmps7
  go_wp2_with fail
  refine HM.out.mono ?_
  rintro e w1 ⟨l', rfl, h1, h2⟩
  have HG : Hid (St h S N l' l' (List.replicate S Sl.zero) w1 ∧ Fr w.heap.size (blkM h) w w1) := ⟨h1, h2⟩
  clear h1 h2 HM
  go_wp2
  go_ret
  exact ⟨l', rfl, HG.out⟩

/-! ### What is told -/
def czL (T : List Sl) : List Nat := (List.range T.length).filter fun j => decide ((T.getD j Sl.zero).c = 0)
theorem alI_cz {H : List Hx} {L : List Int} (hL : L.length = S) (hT : T.length = S) (hc : Co S N H L T) : Lis.alI L 0 = czL T := by
  unfold Lis.alI czL
  rw [if_pos (by decide), Lis.allL, Nat.sub_zero, hL, hT, List.range_eq_range']
  refine List.filter_congr (fun j hj => ?_)
  have hj' : j < S := by simp at hj; omega
  rw [hc.l j hj']
  by_cases e : (T.getD j Sl.zero).c = 0
  · rw [lst_zero.2 e, e]
    rfl
  · have : lst (T.getD j Sl.zero) ≠ 0 := fun q => e (lst_zero.1 q)
    rw [decide_eq_false e]
    exact beq_eq_false_iff_ne.2 this
theorem St.free (d : St h S N l0 l T w) : Calls Tryz.prog 13 #[pV h] w fun e w' => e = .returned (.int .i64 ((czL T).length : Int)) ∧ St h S N l0 l T w' ∧ Fr w.heap.size (blkM h) w w' := by
  obtain ⟨H, L, d1, d2⟩ := d
  have ha : Calls Tryz.prog 50 #[pV h, .int .i64 0] w fun e w' => ∃ a cap, e = .returned (.slice a (czL T).length cap) ∧ St h S N l0 l T w' ∧ Fr w.heap.size (blkM h) w w' := by
    refine (d1.all 0).mono ?_
    rintro e w' ⟨u, hr, hrow⟩
    rw [alI_cz d1.tl.2.1 d1.tl.1 d2] at hrow
    obtain ⟨a, cap, rfl, -⟩ := hrow
    rw [Lis.ints_length] at hr
    exact ⟨a, cap, hr.1, ⟨H, L, hr.2.1, d2⟩, hr.2.2⟩
  have HA := Lib.hid ha
  generalize (czL T).length = n at HA ⊢
  clear ha d1 d2
  unfold pV at *
  go_enter Tryz.func13, Tryz.ntmps13
  go_wp2_with fail
  refine HA.out.mono ?_
  rintro e w1 ⟨a, cap, rfl, h1, h2⟩
  have HG : Hid (St h S N l0 l T w1 ∧ Fr w.heap.size (blkM h) w w1) := ⟨h1, h2⟩
  clear h1 h2 HA
  go_wp2
  go_ret
  exact ⟨rfl, HG.out⟩

/-! ### The example -/
def X0 : List Sl := List.replicate 7 Sl.zero
def X1 : List Sl := (tkF 7 224 X0 1).2
def X2 : List Sl := (tkF 7 224 X1 1).2
def X3 : List Sl := (tkF 7 224 X2 9).2
def X4 : List Sl := (gvF 7 224 X3 1136).2
def X5 : List Sl := (tkF 7 224 X4 1).2
set_option maxRecDepth 100000 in
theorem ex1 : (tkF 7 224 X0 1).1 = (1136, 0) := by kernel_rfl
set_option maxRecDepth 100000 in
theorem ex2 : (tkF 7 224 X1 1).1 = (1168, 0) := by kernel_rfl
set_option maxRecDepth 100000 in
theorem ex3 : (tkF 7 224 X2 9).1 = (2160, 0) := by kernel_rfl
set_option maxRecDepth 100000 in
theorem ex4 : (gvF 7 224 X3 1136).1 = 0 := by kernel_rfl
set_option maxRecDepth 100000 in
theorem ex5 : (tkF 7 224 X4 1).1 = (1136, 0) := by kernel_rfl
set_option maxRecDepth 100000 in
theorem ex6 : (czL X5).length = 5 := by kernel_rfl
/-- The tables. -/
structure Ts (w : World) : Prop where
  t : Tb w
  h : Hea.Tab w
theorem Ts.keep {w w' : World} (hb : Below w.heap.size w w') (h : Ts w) : Ts w' := ⟨h.t.keep hb, h.h.keep hb⟩
theorem St.ts (d : St h S N l0 l T w) : Ts w := by
  obtain ⟨H, L, ⟨C, h1, h2, h3, h4, h5⟩, d2⟩ := d
  exact ⟨h4.m.1, h4.t⟩
set_option maxRecDepth 100000 in
set_option maxHeartbeats 4000000 in
theorem takes_any (w : World) (ht : Ts w) : Calls Tryz.prog 4 #[] w fun e w' => e = .returned (.bool true) ∧ Below w.heap.size w w' := by
  have hr : Lay.rightC ((7 : Nat) : Int) ((224 : Nat) : Int) = true := by decide
  have HN := Lib.hid (new_z false 7 224 w hr ht.t ht.h)
  have HB := Lib.hid (fun h W (d : SM h (Lis.newCf 7 224) (newL 7 224) W) => begin_any (fun t ht => newL_far 7 224 ht) hr d)
  have tk := fun (T : List Sl) (c a : Int) (he : (tkF 7 224 T c).1 = (a, 0)) h l0 l W (d : St h 7 224 l0 l T W) => by
    have := d.take c
    rw [he] at this
    exact this
  have H1 := Lib.hid (tk X0 1 1136 ex1)
  have H2 := Lib.hid (tk X1 1 1168 ex2)
  have H3 := Lib.hid (tk X2 9 2160 ex3)
  have gv := fun h l0 l W (d : St h 7 224 l0 l X3 W) => d.give (a := 1136) (by unfold Arn.is64; omega)
  rw [ex4] at gv
  have H4 := Lib.hid gv
  have H5 := Lib.hid (tk X4 1 1136 ex5)
  have fr := fun h l0 l W (d : St h 7 224 l0 l X5 W) => d.free
  rw [ex6] at fr
  have H6 := Lib.hid fr
  have H7 := Lib.hid (fun h l0 l W (hz : h.z = false) (d : St h 7 224 l0 l X5 W) => d.faults hz)
  clear tk gv fr ht hr
  have hcast : ((5 : Nat) : Int) = 5 := rfl
  rw [hcast] at H6
  rw [show ((7 : Nat) : Int) = 7 from rfl, show ((224 : Nat) : Int) = 224 from rfl] at HN
  change Hid (∀ h W, _ → Calls _ _ _ _ fun e w' => ∃ l', _ ∧ St h 7 224 l' l' X0 w' ∧ _) at HB
  simp only at H1 H2 H3 H5
  change Hid (∀ h l0 l W, _ → Calls _ _ _ _ fun e w' => ∃ l', _ ∧ St h 7 224 l0 l' X1 w' ∧ _) at H1
  change Hid (∀ h l0 l W, _ → Calls _ _ _ _ fun e w' => ∃ l', _ ∧ St h 7 224 l0 l' X2 w' ∧ _) at H2
  change Hid (∀ h l0 l W, _ → Calls _ _ _ _ fun e w' => ∃ l', _ ∧ St h 7 224 l0 l' X3 w' ∧ _) at H3
  change Hid (∀ h l0 l W, _ → Calls _ _ _ _ fun e w' => ∃ l', _ ∧ St h 7 224 l0 l' X4 w' ∧ _) at H4
  change Hid (∀ h l0 l W, _ → Calls _ _ _ _ fun e w' => ∃ l', _ ∧ St h 7 224 l0 l' X5 w' ∧ _) at H5
  generalize X0 = Y0 at *
  generalize X1 = Y1 at *
  generalize X2 = Y2 at *
  generalize X3 = Y3 at *
  generalize X4 = Y4 at *
  generalize X5 = Y5 at *
  unfold pV at *
  go_enter Tryz.func4, Tryz.ntmps4
  go_wp2_with fail
  refine HN.out.mono ?_
  rintro e w1 ⟨h, rfl, hd1, hb1, hk, hz⟩
  have HZ := Lib.hid hz
  clear hz
  have HK := Lib.hid hk
  have HB1 := Lib.hid hb1
  have stp : ∀ {w0 w1 w2 : World}, Below w.heap.size w0 w1 → w.heap.size ≤ w1.heap.size → Fr w1.heap.size (blkM h) w1 w2 → Below w.heap.size w0 w2 := fun h1 hs hf => h1.trans (hf.toBelow hs (fun k hlt q => by have := hk k q; omega))
  clear hk hb1 HN
  go_wp2_with fail
  refine (HB.out _ _ hd1).mono ?_
  rintro e w2 ⟨l2, rfl, hd2, hf2⟩
  have HB2 := Lib.hid (stp HB1.out HB1.out.size hf2)
  clear hf2 HB hd1 HB1
  go_wp2_with fail
  refine (H1.out _ _ _ _ hd2).mono ?_
  rintro e w3 ⟨l3, rfl, hd3, hf3, -⟩
  have HB3 := Lib.hid (stp HB2.out HB2.out.size hf3)
  clear hf3 H1 hd2 HB2
  go_wp2_with fail
  refine (H2.out _ _ _ _ hd3).mono ?_
  rintro e w4 ⟨l4, rfl, hd4, hf4, -⟩
  have HB4 := Lib.hid (stp HB3.out HB3.out.size hf4)
  clear hf4 H2 hd3 HB3
  go_wp2_with fail
  refine (H3.out _ _ _ _ hd4).mono ?_
  rintro e w5 ⟨l5, rfl, hd5, hf5, -⟩
  have HB5 := Lib.hid (stp HB4.out HB4.out.size hf5)
  clear hf5 H3 hd4 HB4
  go_wp2_with fail
  refine (H4.out _ _ _ _ hd5).mono ?_
  rintro e w6 ⟨l6, rfl, hd6, hf6, -⟩
  have HB6 := Lib.hid (stp HB5.out HB5.out.size hf6)
  clear hf6 H4 hd5 HB5
  go_wp2_with fail
  refine (H5.out _ _ _ _ hd6).mono ?_
  rintro e w7 ⟨l7, rfl, hd7, hf7, -⟩
  have HB7 := Lib.hid (stp HB6.out HB6.out.size hf7)
  clear hf7 H5 hd6 HB6
  go_wp2_with fail
  refine (H6.out _ _ _ _ hd7).mono ?_
  rintro e w8 ⟨rfl, hd8, hf8⟩
  have HB8 := Lib.hid (stp HB7.out HB7.out.size hf8)
  clear hf8 H6 hd7 HB7
  go_wp2_with fail
  refine (H7.out _ _ _ _ HZ.out hd8).mono ?_
  rintro e w9 ⟨rfl, hb9⟩
  have HB9 := Lib.hid (HB8.out.trans (hb9.mono HB8.out.size))
  clear hb9 H7 hd8 HB8 stp
  go_wp2
  go_ret
  exact ⟨rfl, HB9.out⟩
end
end Go.Proofs.YthnjpmgfikhemaaGreatDoor.Sla

namespace Go.Proofs.YthnjpmgfikhemaaGreatDoor.Sla
open Go.RowKit Num
open Cls (szC blC pdC)
set_option linter.unusedVariables false

/-- Slabs that are some. -/
structure Tk (S : Nat) (T : List Sl) : Prop where
  l : T.length = S
  ok : ∀ j, j < S → (T.getD j Sl.zero).Ok
theorem pl_inj {S N j j' k k' : Nat} {c c' : Int} (hk : k < blC c) (hk' : k' < blC c') (h : pl (aT S N j) c k = pl (aT S N j') c' k') : j = j' ∧ (c = c' → k = k') := by
  have h1 := bl_in hk
  have h2 := bl_in hk'
  have hj : j = j' := by
    unfold pl aT at h
    omega
  refine ⟨hj, ?_⟩
  rintro rfl
  subst hj
  unfold pl at h
  rcases Nat.lt_trichotomy k k' with q | q | q
  · have := bl_apart c q
    omega
  · exact q
  · have := bl_apart c q
    omega
/-- A live block begins there. -/
def Lv (S N : Nat) (T : List Sl) (a : Nat) : Prop := ∃ j k, j < S ∧ k ∈ (T.getD j Sl.zero).v ∧ a = pl (aT S N j) (T.getD j Sl.zero).c k
theorem range_up_not (n k : Nat) (hn : 1 ≤ n) : k < n ∧ k ∉ (List.range (n - 1)).map (· + 1) ↔ k = 0 := by
  simp only [List.mem_map, List.mem_range, not_exists, not_and]
  constructor
  · rintro ⟨h1, h2⟩
    rcases Nat.eq_zero_or_pos k with q | q
    · exact q
    · exact absurd (by omega : k - 1 + 1 = k) (h2 (k - 1) (by omega))
  · rintro rfl
    exact ⟨by omega, fun x _ => by omega⟩
/-- What Take does. -/
structure Tkn (S N : Nat) (T T' : List Sl) (c : Int) (j k : Nat) : Prop where
  hj : j < S
  c1 : 1 ≤ c
  c9 : c ≤ 9
  hk : k < blC c
  cls : ((T'.getD j Sl.zero).c : Int) = c
  oth : ∀ i, i ≠ j → T'.getD i Sl.zero = T.getD i Sl.zero
  mem : ∀ x, x ∈ (T'.getD j Sl.zero).v ↔ x = k ∨ x ∈ (T.getD j Sl.zero).v
  new : k ∉ (T.getD j Sl.zero).v
  old : ((T.getD j Sl.zero).c : Int) = c ∨ (T.getD j Sl.zero).c = 0
  ok : Tk S T'
theorem tk_spec {S N : Nat} {T : List Sl} (hT : Tk S T) (c : Int) :
    ((tkF S N T c).1.2 ≠ 0 ∧ (tkF S N T c).2 = T) ∨ ((tkF S N T c).1.2 = 0 ∧ ∃ j k, (tkF S N T c).1.1 = (pl (aT S N j) c k : Int) ∧ Tkn S N T (tkF S N T c).2 c j k) := by
  have hl := hT.l
  unfold tkF
  by_cases hz : szC c = 0
  · rw [if_pos hz]
    exact .inl ⟨by simp, rfl⟩
  rw [if_neg hz]
  have hb := Cls.szC_is hz
  have hbp := Cls.blC_pos hz
  obtain ⟨n, rfl⟩ : ∃ n : Nat, c = n := ⟨c.toNat, by omega⟩
  rw [Int.toNat_natCast]
  have hn1 : 1 ≤ n := by omega
  unfold tkJ
  cases hj : fi T (n : Int) with
  | some j =>
    obtain ⟨j1, j2, -⟩ := fi_some hj
    obtain ⟨q1, q2⟩ := lst_pos hn1 j2
    have hjS : j < S := by omega
    have hok := hT.ok j hjS
    simp only
    cases hx : (T.getD j Sl.zero).f with
    | nil => exact absurd hx q2
    | cons k f =>
      simp only
      refine .inr ⟨trivial, j, k, rfl, ?_⟩
      have hTj : (T.set j ⟨n, f⟩).getD j Sl.zero = ⟨n, f⟩ := getD_set1 _ _ _ (by omega)
      have hnd := hok.nd
      rw [hx] at hnd
      obtain ⟨d1, d2⟩ := List.nodup_cons.1 hnd
      have hk : k < blC (n : Int) := by rw [← q1]; exact hok.lt k (by rw [hx]; simp)
      refine ⟨hjS, by omega, by omega, hk, by rw [hTj], fun i hi => getD_set2 _ _ (by omega) hi, fun x => ?_, ?_, .inl (by rw [q1]), ?_⟩
      · rw [hTj, Sl.mem_v, Sl.mem_v, q1, hx]
        simp only [List.mem_cons, not_or]
        constructor
        · rintro ⟨a1, a2⟩
          by_cases e : x = k
          · exact .inl e
          · exact .inr ⟨a1, e, a2⟩
        · rintro (rfl | ⟨a1, a2, a3⟩)
          · exact ⟨hk, d1⟩
          · exact ⟨a1, a3⟩
      · rw [Sl.mem_v, hx]
        simp
      · refine ⟨by rw [List.length_set]; exact hl, fun i hi => ?_⟩
        by_cases e : i = j
        · subst e
          rw [hTj]
          exact ⟨by have := hok.c; rw [q1] at this; exact this, d2, fun y hy => by have := hok.lt y (by rw [hx]; simp [hy]); rw [q1] at this; exact this⟩
        · rw [getD_set2 _ _ (by omega) e]
          exact hT.ok i hi
  | none =>
    simp only
    cases hj0 : fi T 0 with
    | none => exact .inl ⟨by simp, rfl⟩
    | some j =>
      obtain ⟨j1, j2, -⟩ := fi_some hj0
      have hjS : j < S := by omega
      have hc0 := lst_zero.1 j2
      have hTs : (T.set j ⟨n, List.range (blC (n : Int))⟩).getD j Sl.zero = ⟨n, List.range (blC (n : Int))⟩ := getD_set1 _ _ _ (by omega)
      simp only
      rw [hTs]
      simp only
      rw [range_cons (blC (n : Int)) (by omega)]
      simp only
      refine .inr ⟨trivial, j, 0, rfl, ?_⟩
      have hss : (T.set j ⟨n, 0 :: (List.range (blC (n : Int) - 1)).map (· + 1)⟩).set j ⟨n, (List.range (blC (n : Int) - 1)).map (· + 1)⟩ = T.set j ⟨n, (List.range (blC (n : Int) - 1)).map (· + 1)⟩ := List.set_set ..
      rw [hss]
      have hTj : (T.set j ⟨n, (List.range (blC (n : Int) - 1)).map (· + 1)⟩).getD j Sl.zero = ⟨n, (List.range (blC (n : Int) - 1)).map (· + 1)⟩ := getD_set1 _ _ _ (by omega)
      refine ⟨hjS, by omega, by omega, by omega, by rw [hTj], fun i hi => getD_set2 _ _ (by omega) hi, fun x => ?_, ?_, .inr hc0, ?_⟩
      · rw [hTj, Sl.mem_v, zero_v hc0]
        simp only
        rw [range_up_not _ _ (by omega)]
        simp
      · rw [zero_v hc0]
        simp
      · refine ⟨by rw [List.length_set]; exact hl, fun i hi => ?_⟩
        by_cases e : i = j
        · subst e
          rw [hTj]
          have hr9 : (List.range (blC (n : Int))).Nodup := List.nodup_range
          rw [range_cons (blC (n : Int)) (by omega)] at hr9
          refine ⟨by show n ≤ 9; omega, (List.nodup_cons.1 hr9).2, fun y hy => ?_⟩
          simp only [List.mem_map, List.mem_range] at hy
          obtain ⟨z, h1, rfl⟩ := hy
          show z + 1 < blC (n : Int)
          omega
        · rw [getD_set2 _ _ (by omega) e]
          exact hT.ok i hi
theorem Tkn.lv {S N : Nat} {T T' : List Sl} {c : Int} {j k : Nat} (h : Tkn S N T T' c j k) (hT : Tk S T) (x : Nat) : Lv S N T' x ↔ x = pl (aT S N j) c k ∨ Lv S N T x := by
  have hcc : ∀ y, y ∈ (T.getD j Sl.zero).v → ((T'.getD j Sl.zero).c : Int) = ((T.getD j Sl.zero).c : Int) := fun y hy => by
    rcases h.old with q | q
    · rw [h.cls, q]
    · rw [zero_v q] at hy; cases hy
  constructor
  · rintro ⟨i, y, h1, h2, h3⟩
    by_cases e : i = j
    · subst e
      rcases (h.mem y).1 h2 with rfl | h2
      · exact .inl (by rw [h3, h.cls])
      · exact .inr ⟨i, y, h1, h2, by rw [h3, hcc y h2]⟩
    · rw [h.oth i e] at h2 h3
      exact .inr ⟨i, y, h1, h2, h3⟩
  · rintro (rfl | ⟨i, y, h1, h2, h3⟩)
    · exact ⟨j, k, h.hj, (h.mem k).2 (.inl rfl), by rw [h.cls]⟩
    · by_cases e : i = j
      · subst e
        exact ⟨i, y, h1, (h.mem y).2 (.inr h2), by rw [hcc y h2]; exact h3⟩
      · exact ⟨i, y, h1, by rw [h.oth i e]; exact h2, by rw [h.oth i e]; exact h3⟩
theorem Tkn.fresh {S N : Nat} {T T' : List Sl} {c : Int} {j k : Nat} (h : Tkn S N T T' c j k) : ¬ Lv S N T (pl (aT S N j) c k) := by
  rintro ⟨i, y, h1, h2, h3⟩
  obtain ⟨rfl, hkk⟩ := pl_inj h.hk (mem_lt h2).1 h3
  rcases h.old with q | q
  · exact h.new ((hkk q.symm) ▸ h2)
  · rw [zero_v q] at h2; cases h2

/-- What Give does. -/
structure Gvn (S N : Nat) (T T' : List Sl) (j k : Nat) : Prop where
  oth : ∀ i, i ≠ j → T'.getD i Sl.zero = T.getD i Sl.zero
  mem : ∀ x, x ∈ (T'.getD j Sl.zero).v ↔ x ≠ k ∧ x ∈ (T.getD j Sl.zero).v
  cls : (T'.getD j Sl.zero).v ≠ [] → (T'.getD j Sl.zero).c = (T.getD j Sl.zero).c
  ok : Tk S T'
theorem fnd_live {S N : Nat} {T : List Sl} (hr : Lay.rightC (S : Int) (N : Int) = true) {j k : Nat} (hj : j < S) (hk : k < blC (T.getD j Sl.zero).c) : fnd S N T (pl (aT S N j) (T.getD j Sl.zero).c k : Int) = some (j, k) := by
  have hin := bl_in hk
  have := fnd_at (N := N) (T := T) hr hj hk (show 0 < _ by omega)
  rw [Nat.add_zero] at this
  exact this
theorem gv_yes {S N : Nat} {T : List Sl} (hT : Tk S T) (hr : Lay.rightC (S : Int) (N : Int) = true) {j k : Nat} (hj : j < S) (hk : k ∈ (T.getD j Sl.zero).v) :
    (gvF S N T (pl (aT S N j) (T.getD j Sl.zero).c k : Int)).1 = 0 ∧ Gvn S N T (gvF S N T (pl (aT S N j) (T.getD j Sl.zero).c k : Int)).2 j k := by
  obtain ⟨h1, h2⟩ := mem_lt hk
  have hl := hT.l
  have hok := hT.ok j hj
  unfold gvF
  rw [fnd_live hr hj h1]
  simp only
  rw [if_pos ⟨trivial, h2⟩]
  refine ⟨rfl, ?_⟩
  have hfo : (Sl.mk (T.getD j Sl.zero).c (k :: (T.getD j Sl.zero).f)).Ok := ⟨hok.c, List.nodup_cons.2 ⟨h2, hok.nd⟩, fun y hy => by
    rcases List.mem_cons.1 hy with rfl | hy
    · exact h1
    · exact hok.lt y hy⟩
  by_cases hm : (T.getD j Sl.zero).f.length + 1 = blC ((T.getD j Sl.zero).c : Int)
  · rw [if_pos hm]
    have hTj := getD_set1 T j Sl.zero (by omega)
    have hlen := hfo.len
    simp only [List.length_cons] at hlen
    have hnil : (Sl.mk (T.getD j Sl.zero).c (k :: (T.getD j Sl.zero).f)).v = [] := List.length_eq_zero_iff.1 (by omega)
    refine ⟨fun i hi => getD_set2 _ _ (by omega) hi, fun x => ?_, fun q => ?_, ⟨by rw [List.length_set]; exact hl, fun i hi => ?_⟩⟩
    · rw [hTj, zero_v (s := Sl.zero) rfl]
      constructor
      · intro q; cases q
      · rintro ⟨q1, q2⟩
        have : x ∈ (Sl.mk (T.getD j Sl.zero).c (k :: (T.getD j Sl.zero).f)).v := by
          rw [Sl.mem_v] at q2 ⊢
          exact ⟨q2.1, by simp only [List.mem_cons, not_or]; exact ⟨q1, q2.2⟩⟩
        rw [hnil] at this
        cases this
    · rw [hTj, zero_v (s := Sl.zero) rfl] at q
      exact absurd rfl q
    · by_cases e : i = j
      · subst e
        rw [hTj]
        exact Sl.zero_ok
      · rw [getD_set2 _ _ (by omega) e]
        exact hT.ok i hi
  · rw [if_neg hm]
    have hTj := getD_set1 T j (Sl.mk (T.getD j Sl.zero).c (k :: (T.getD j Sl.zero).f)) (by omega)
    refine ⟨fun i hi => getD_set2 _ _ (by omega) hi, fun x => ?_, fun q => by rw [hTj], ⟨by rw [List.length_set]; exact hl, fun i hi => ?_⟩⟩
    · rw [hTj, Sl.mem_v, Sl.mem_v]
      simp only [List.mem_cons, not_or]
      constructor
      · rintro ⟨a1, a2, a3⟩
        exact ⟨a2, a1, a3⟩
      · rintro ⟨a1, a2, a3⟩
        exact ⟨a2, a1, a3⟩
    · by_cases e : i = j
      · subst e
        rw [hTj]
        exact hfo
      · rw [getD_set2 _ _ (by omega) e]
        exact hT.ok i hi
theorem Gvn.lv {S N : Nat} {T T' : List Sl} {j k : Nat} (h : Gvn S N T T' j k) (hj : j < S) (hk : k ∈ (T.getD j Sl.zero).v) (x : Nat) : Lv S N T' x ↔ x ≠ pl (aT S N j) (T.getD j Sl.zero).c k ∧ Lv S N T x := by
  constructor
  · rintro ⟨i, y, h1, h2, h3⟩
    by_cases e : i = j
    · subst e
      have hc := h.cls (List.ne_nil_of_mem h2)
      obtain ⟨m1, m2⟩ := (h.mem y).1 h2
      rw [hc] at h3
      refine ⟨?_, i, y, h1, m2, h3⟩
      rintro q
      rw [h3] at q
      exact m1 ((pl_inj (mem_lt m2).1 (mem_lt hk).1 q).2 rfl)
    · rw [h.oth i e] at h2 h3
      refine ⟨?_, i, y, h1, h2, h3⟩
      rintro q
      rw [h3] at q
      exact e (pl_inj (mem_lt h2).1 (mem_lt hk).1 q).1
  · rintro ⟨hne, i, y, h1, h2, h3⟩
    by_cases e : i = j
    · subst e
      have hy : y ≠ k := by rintro rfl; exact hne h3
      have hm := (h.mem y).2 ⟨hy, h2⟩
      exact ⟨i, y, h1, hm, by rw [h.cls (List.ne_nil_of_mem hm)]; exact h3⟩
    · exact ⟨i, y, h1, by rw [h.oth i e]; exact h2, by rw [h.oth i e]; exact h3⟩
theorem gv_no {S N : Nat} {T : List Sl} (hr : Lay.rightC (S : Int) (N : Int) = true) {a : Int} (h : ∀ x : Nat, a = x → ¬ Lv S N T x) : gvF S N T a = (30, T) := by
  unfold gvF
  cases hf : fnd S N T a with
  | none => rfl
  | some p =>
    obtain ⟨j, k⟩ := p
    simp only
    obtain ⟨h1, h2, h3, h4⟩ := fnd_some hr hf
    refine if_neg ?_
    rintro ⟨q1, q2⟩
    exact h _ q1.symm ⟨j, k, h1, (Sl.mem_v _ _).2 ⟨h2, q2⟩, rfl⟩
end Go.Proofs.YthnjpmgfikhemaaGreatDoor.Sla

namespace Go.Proofs.YthnjpmgfikhemaaGreatDoor.Sla
open Go.RowKit Num
open Mem (Mm MemC MRet Hm rd blkM)
open Lis (Cf LM LR Tb at_ Nx Pv Rep Hx valsN)
open Cls (szC blC pdC)
open Arn (wrL is64)
set_option linter.unusedVariables false

/-! ### Writing and reading live blocks -/
section
variable {h : Hm} {S N : Nat} {l0 l l' : List Int} {T T' : List Sl} {w W W' : World}
theorem St.tk (d : St h S N l0 l T w) : Tk S T := ⟨d.tl.1, fun j hj => d.ok hj⟩
end

/-! ### Acts -/
structure Act where
  k : Int
  n : Int
def Act.zero : Act := ⟨0, 0⟩
def Act.cells (x : Act) : List Value := [.int .i64 x.k, .int .i64 x.n]
def ActR (w : World) (cs : List Value) (x : Act) : Prop := cs = x.cells ∧ is64 x.k ∧ is64 x.n
abbrev ActRow := GRow 2 ActR Act.zero
theorem wf64 {n : Int} (h : (Lit.int .i64 n).wf = true) : is64 n := by
  have := bounds_i64 h
  unfold is64
  omega
set_option maxRecDepth 100000 in
theorem act_cells {H : Type} {enc : TypeId × Value → H} {w : World} {base : Nat} {spare : Nat → Bool} {held : Bool} {n : Nat} {cs : List Value} {y : DataW H × List MemPlace}
    (h : DataW.trod enc Tryz.prog w base spare held n 34 cs = some y) : ∃ x, ActR w cs x := by
  obtain ⟨xs, n', -, -, hlen, hxs, hf⟩ := DataW.trod_struct Tryz.underlying34 h
  have h2 : cs.length = 2 := hlen.trans (by kernel_rfl)
  have x2 : xs.length = 2 := hxs
  match cs, h2, xs, x2 with
  | [c0, c1], _, [y0, y1], _ =>
    have f0 : DataW.trod enc Tryz.prog w base spare held n' 3 (([c0, c1].drop 0).take (Tryz.prog.cellsOf 3)) = [y0, y1][0]? := hf 0 _ rfl
    have f1 : DataW.trod enc Tryz.prog w base spare held n' 3 (([c0, c1].drop 1).take (Tryz.prog.cellsOf 3)) = [y0, y1][1]? := hf 1 _ rfl
    have q1 : Tryz.prog.cellsOf 3 = 1 := by kernel_rfl
    rw [q1] at f0 f1
    simp only [List.drop, List.take, List.getElem?_cons_zero, List.getElem?_cons_succ] at f0 f1
    obtain ⟨k0, e0, -, w0⟩ := DataW.trod_int Tryz.underlying3 f0
    obtain ⟨k1, e1, -, w1⟩ := DataW.trod_int Tryz.underlying3 f1
    simp at e0 e1
    subst e0 e1
    exact ⟨⟨k0, k1⟩, rfl, wf64 w0, wf64 w1⟩
set_option maxRecDepth 100000 in
theorem open_acts {H : Type} {enc : TypeId × Value → H} {w : World} {base : Nat} {spare : Nat → Bool} {held : Bool} {r : Reach} {b0 : Nat} {v : Value} {d : DataW H} {p : List MemPlace}
    (hval : Value.okWide Tryz.prog w r b0 22 v) (h : DataW.Trod enc Tryz.prog w base spare held 22 v d p) : ∃ x : Value × List Act, v = x.1 ∧ ActRow w x.1 x.2 := by
  obtain ⟨a, len, cap, rfl⟩ := WideShapes.okWide_slice Tryz.underlying22 hval
  obtain ⟨fuel, hf⟩ := h
  obtain ⟨L, -, hrow⟩ := open_grow Act.zero Tryz.underlying22 (show Tryz.prog.cellsOf 34 = 2 by kernel_rfl) (by omega) (fun n cs y hy => act_cells hy) hf
  exact ⟨(_, L), rfl, hrow⟩
end Go.Proofs.YthnjpmgfikhemaaGreatDoor.Sla

namespace Go.Proofs.YthnjpmgfikhemaaGreatDoor.Sla
open Go.RowKit Num
open Mem (Mm MemC MRet Hm rd blkM)
open Lis (Cf LM LR Tb at_ Nx Pv Rep Hx valsN)
open Cls (szC blC pdC)
open Arn (wrL is64)
set_option linter.unusedVariables false

structure Wd (w0 : World) (h : Hm) (n S N : Nat) (l0 l : List Int) (T : List Sl) (W : World) : Prop where
  st : St h S N l0 l T W
  b : Below w0.heap.size w0 W
  kk : ∀ k, blkM h k → w0.heap.size ≤ k
  lo : Lo h n
  nn : n ≤ W.heap.size
  n0 : w0.heap.size ≤ n
  z : h.z = false
section
variable {w0 W W' : World} {h : Hm} {n S N : Nat} {l0 l l' : List Int} {T T' : List Sl}
theorem Wd.below (d : Wd w0 h n S N l0 l T W) (hb : Below W.heap.size W W') : Wd w0 h n S N l0 l T W' :=
  ⟨d.st.below hb, d.b.trans (hb.mono d.b.size), d.kk, d.lo, Nat.le_trans d.nn hb.size, d.n0, d.z⟩
theorem Wd.drew (d : Wd w0 h n S N l0 l T W) : Wd w0 h n S N l0 l T W.drew := d.below (Below.refl _ _).drew
theorem Wd.low (d : Wd w0 h n S N l0 l T W) (hb : Below n W W') : Wd w0 h n S N l0 l T W' :=
  ⟨d.st.stay hb d.lo, d.b.trans (hb.mono d.n0), d.kk, d.lo, Nat.le_trans d.nn hb.size, d.n0, d.z⟩
theorem Wd.fr (d : Wd w0 h n S N l0 l T W) (hs : St h S N l0 l' T' W') (hf : Fr W.heap.size (blkM h) W W') : Wd w0 h n S N l0 l' T' W' :=
  ⟨hs, d.b.trans (hf.toBelow d.b.size (fun k hk q => by have := d.kk k q; omega)), d.kk, d.lo, Nat.le_trans d.nn hf.size, d.n0, d.z⟩

/-! ### Rows of one's own -/
def RowG (k : IntKind) (n : Nat) (W : World) (u : Value) (X : List Int) : Prop := Row k W u X ∧ ∀ b, u.ownBlock = some b → n ≤ b
theorem RowG.below {k : IntKind} {u : Value} {X : List Int} (r : RowG k n W u X) (hb : Below W.heap.size W W') : RowG k n W' u X := ⟨r.1.mono hb (Nat.le_refl _), r.2⟩
theorem RowG.fr {k : IntKind} {u : Value} {X : List Int} (r : RowG k n W u X) (hf : Fr W.heap.size (blkM h) W W') (hl : Lo h n) : RowG k n W' u X := by
  refine ⟨r.1.fr hf (fun hX b hb => ⟨?_, fun q => by have := hl.m b q; have := r.2 b hb; omega⟩), r.2⟩
  obtain ⟨a, cap, rfl, -, -, -, q⟩ := r.1
  obtain ⟨b', off, rfl, hlt, -⟩ := q hX
  simp only [Value.ownBlock, Option.some.injEq] at hb
  omega
def OwnI (n : Nat) (W : World) (u : Value) (A : List Nat) : Prop := W.ownsRow n 3 1 u A.length (valsN A)
theorem OwnI.below {u : Value} {A : List Nat} (r : OwnI n W u A) (hb : Below W.heap.size W W') : OwnI n W' u A := ownsRow_stays r hb
theorem OwnI.fr {u : Value} {A : List Nat} (r : OwnI n W u A) (hf : Fr W.heap.size (blkM h) W W') (hl : Lo h n) : OwnI n W' u A := by
  refine ⟨r.1, ?_⟩
  rcases r.2 with hn | ⟨g, cap, cur, rfl, hb, hgg, rest⟩
  · exact .inl hn
  · exact .inr ⟨g, cap, cur, rfl, hb, (hf.block g (Array.getElem?_eq_some_iff.1 hgg).1 (fun q => by have := hl.m g q; omega)).trans hgg, rest⟩
theorem OwnI.row {u : Value} {A : List Nat} (r : OwnI n W u A) (hA : ∀ x ∈ A, x ≤ 100000) : RowG .i64 n W u (Lis.ints A) := ⟨Lis.rowN_of_owns r rfl hA, Lis.owns_base r⟩
theorem OwnI.nil (n : Nat) (W : World) : OwnI n W (.slice none 0 0) [] := World.ownsRow_nil _ _ _ _
theorem RowG.wide {k : IntKind} {m : Nat} {u : Value} {X : List Int} (r : RowG k m W u X) (h : n ≤ m) : RowG k n W u X := ⟨r.1, fun b hb => Nat.le_trans h (r.2 b hb)⟩

/-! ### What calls come to -/
theorem Wd.take (d : Wd w0 h n S N l0 l T W) (c : Int) : Calls Tryz.prog 8 #[pV h, .int .i64 c] W fun e W' =>
    (∃ l' x er, er ≠ 0 ∧ e = .returned (.tuple #[.int .i64 x, .int .i64 er]) ∧ Wd w0 h n S N l0 l' T W' ∧ Fr W.heap.size (blkM h) W W' ∧ Kp S N T T l l') ∨
    (∃ l' T' j k, e = .returned (.tuple #[.int .i64 (pl (aT S N j) c k : Int), .int .i64 0]) ∧ Tkn S N T T' c j k ∧ Wd w0 h n S N l0 l' T' W' ∧ Fr W.heap.size (blkM h) W W' ∧ Kp S N T T' l l' ∧ ∀ i, i < szC c → l'.getD (pl (aT S N j) c k + i) 0 = 0) := by
  refine (d.st.take c).mono ?_
  rintro e W' ⟨l', he, hs, hf, hk, hz⟩
  rcases tk_spec (N := N) d.st.tk c with ⟨h1, h2⟩ | ⟨h1, j, k, h2, h3⟩
  · rw [h2] at hs hk
    exact .inl ⟨l', _, _, h1, he, d.fr hs hf, hf, hk⟩
  · refine .inr ⟨l', _, j, k, ?_, h3, d.fr hs hf, hf, hk, fun i hi => ?_⟩
    · rw [he, h1, h2]
    · have := hz h1 i hi
      rw [h2, Int.toNat_natCast] at this
      exact this
theorem Wd.give (d : Wd w0 h n S N l0 l T W) {j k : Nat} (hj : j < S) (hk : k ∈ (T.getD j Sl.zero).v) : Calls Tryz.prog 11 #[pV h, .int .i64 (pl (aT S N j) (T.getD j Sl.zero).c k : Int)] W fun e W' =>
    ∃ l' T', e = .returned (.int .i64 0) ∧ Gvn S N T T' j k ∧ Wd w0 h n S N l0 l' T' W' ∧ Fr W.heap.size (blkM h) W W' ∧ Kp S N T T' l l' := by
  have hb : is64 (pl (aT S N j) (T.getD j Sl.zero).c k : Int) := by
    obtain ⟨H, L, ⟨C, rfl, rfl, h3, h4, h5⟩, d2⟩ := d.st
    have := pl_bd (S := 0) (N := 0) h5.ok hj (mem_lt hk).1
    unfold is64
    omega
  refine (d.st.give hb).mono ?_
  rintro e W' ⟨l', he, hs, hf, hkp⟩
  obtain ⟨h1, h2⟩ := gv_yes (N := N) d.st.tk d.st.right hj hk
  exact ⟨l', _, by rw [he, h1], h2, d.fr hs hf, hf, hkp⟩
theorem Wd.give_no (d : Wd w0 h n S N l0 l T W) {a : Int} (h64 : is64 a) (ha : ∀ x : Nat, a = x → ¬ Lv S N T x) : Calls Tryz.prog 11 #[pV h, .int .i64 a] W fun e W' =>
    ∃ l', e = .returned (.int .i64 30) ∧ Wd w0 h n S N l0 l' T W' ∧ Fr W.heap.size (blkM h) W W' ∧ Kp S N T T l l' := by
  refine (d.st.give h64).mono ?_
  rintro e W' ⟨l', he, hs, hf, hkp⟩
  rw [gv_no d.st.right ha] at he hs hkp
  exact ⟨l', he, d.fr hs hf, hf, hkp⟩
theorem lv_bd (d : St h S N l0 l T W) {x : Nat} (hx : Lv S N T x) : x ≤ 100000 := by
  obtain ⟨j, k, hj, hk, rfl⟩ := hx
  obtain ⟨H, L, ⟨C, rfl, rfl, h3, h4, h5⟩, d2⟩ := d
  have := pl_bd (S := 0) (N := 0) h5.ok hj (mem_lt hk).1
  omega
end
/-- The rows' length, of a value. -/
def slLen : Value → Nat
  | .slice _ n _ => n
  | _ => 0
/-! ### One of a row is left out -/
theorem OwnI.len {B : Nat} {W : World} {v : Value} {A : List Nat} (h : OwnI B W v A) : slLen v = A.length := by
  rcases h.2 with ⟨rfl, h0⟩ | ⟨g, cap, cur, rfl, -⟩
  · exact h0.symm
  · rfl
end Go.Proofs.YthnjpmgfikhemaaGreatDoor.Sla

namespace Go.Proofs.YthnjpmgfikhemaaGreatDoor.Sla
open Go.RowKit Num
open Mem (Mm MemC MRet Hm rd blkM)
open Lis (Cf LM LR Tb at_ Nx Pv Rep Hx valsN)
open Cls (szC blC pdC)
open Arn (wrL is64)
set_option linter.unusedVariables false

section
variable {W W' : World} {u u' : Value} {A A' : List Nat} {x : Nat}
theorem OwnI.shape {m : Nat} (d : OwnI m W u A) : ∃ p c, u = .slice p A.length c ∧ A.length ≤ c ∧ c ≤ 9223372036854775807 := by
  rcases d.2 with ⟨rfl, h0⟩ | ⟨g, cap, cur, rfl, hg, hgg, hc1, hc2, rest⟩
  · rw [h0]; exact ⟨none, 0, rfl, Nat.le_refl _, by omega⟩
  · exact ⟨_, _, rfl, hc1, by unfold maxLen at hc2; omega⟩
theorem OwnI.cells {m : Nat} {p : Option Addr} {k c : Nat} (d : OwnI m W (.slice p k c) A) (hA : A ≠ []) : ∃ g, p = some ⟨g, 0, none⟩ ∧ ∀ i, i < A.length → W.cell? ⟨g, i, none⟩ = some (.int .i64 ((A.getD i 0 : Nat) : Int)) := by
  rcases d.2 with ⟨h1, h0⟩ | ⟨g, cap, cur, h1, hg, hgg, hc1, hc2, hc3, hc4⟩
  · exact absurd (List.length_eq_zero_iff.1 h0) hA
  · injection h1 with h1 _ _
    subst h1
    refine ⟨g, rfl, fun i hi => ?_⟩
    rw [cell_block hgg]
    have e : (valsN A)[i]? = some (.int .i64 ((A.getD i 0 : Nat) : Int)) := by
      unfold valsN List.getD
      rw [List.getElem?_map, List.getElem?_eq_getElem hi]
      rfl
    rw [← hc4, List.getElem?_take_of_lt (by omega)] at e
    rw [← e, Array.getElem?_toList]
theorem OwnI.snoc {n k : Nat} {u : Value} (h : W.ownsRow n 3 1 u (k + 1) (valsN A ++ [.int .i64 (x : Int)])) (hk : k = A.length) : OwnI n W u (A ++ [x]) := by
  subst hk
  unfold OwnI
  rw [Lis.valsN_snoc, List.length_append]
  exact h
end
end Go.Proofs.YthnjpmgfikhemaaGreatDoor.Sla

namespace Go.Proofs.YthnjpmgfikhemaaGreatDoor.Sla
open Go.RowKit Num
open Mem (Mm MemC MRet Hm rd blkM)
open Lis (Cf LM LR Tb at_ Nx Pv Rep Hx valsN)
open Cls (szC blC pdC)
open Arn (wrL is64)
set_option linter.unusedVariables false

/-- All places of live blocks, each once. -/
structure AI (S N : Nat) (T : List Sl) (A : List Nat) : Prop where
  nd : A.Nodup
  mem : ∀ x, x ∈ A ↔ Lv S N T x
theorem AI.start (S N : Nat) : AI S N (List.replicate S Sl.zero) [] := by
  refine ⟨List.nodup_nil, fun x => ⟨fun h => (by cases h), ?_⟩⟩
  rintro ⟨j, k, hj, hk, -⟩
  rw [getD_rep _ _ _ hj, zero_v (s := Sl.zero) rfl] at hk
  cases hk
theorem AI.take {S N : Nat} {T T' : List Sl} {A : List Nat} {c : Int} {j k : Nat} (h : AI S N T A) (hT : Tk S T) (t : Tkn S N T T' c j k) : AI S N T' (A ++ [pl (aT S N j) c k]) := by
  refine ⟨?_, fun x => ?_⟩
  · rw [List.nodup_append]
    refine ⟨h.nd, by simp, fun x hx y hy => ?_⟩
    simp only [List.mem_singleton] at hy
    rintro rfl
    subst hy
    exact t.fresh ((h.mem _).1 hx)
  · rw [t.lv hT, List.mem_append, h.mem, List.mem_singleton]
    exact Or.comm
theorem AI.give {S N : Nat} {T T' : List Sl} {A : List Nat} {j k i : Nat} (h : AI S N T A) (hj : j < S) (hk : k ∈ (T.getD j Sl.zero).v) (hi : i < A.length) (ha : A.getD i 0 = pl (aT S N j) (T.getD j Sl.zero).c k) (t : Gvn S N T T' j k) : AI S N T' (A.take i ++ A.drop (i + 1)) := by
  have hA : A = A.take i ++ A.getD i 0 :: A.drop (i + 1) := by
    rw [List.getD, List.getElem?_eq_getElem hi, Option.getD_some, List.getElem_cons_drop, List.take_append_drop]
  have hnd := h.nd
  rw [hA] at hnd
  have hnd2 := List.nodup_append.1 hnd
  have hcd := List.nodup_cons.1 hnd2.2.1
  refine ⟨?_, fun x => ?_⟩
  · rw [List.nodup_append]
    exact ⟨hnd2.1, hcd.2, fun x hx y hy => hnd2.2.2 x hx y (List.mem_cons_of_mem _ hy)⟩
  · rw [t.lv hj hk, ← h.mem, ← ha]
    constructor
    · intro hx
      refine ⟨?_, by rw [hA]; rcases List.mem_append.1 hx with q | q; exact List.mem_append_left _ q; exact List.mem_append_right _ (List.mem_cons_of_mem _ q)⟩
      rintro rfl
      rcases List.mem_append.1 hx with q | q
      · exact hnd2.2.2 _ q _ (List.mem_cons_self ..) rfl
      · exact hcd.1 q
    · rintro ⟨hne, hx⟩
      rw [hA] at hx
      rcases List.mem_append.1 hx with q | q
      · exact List.mem_append_left _ q
      · rcases List.mem_cons.1 q with q | q
        · exact absurd q hne
        · exact List.mem_append_right _ q
theorem AI.at {S N : Nat} {T : List Sl} {A : List Nat} (h : AI S N T A) {i : Nat} (hi : i < A.length) : Lv S N T (A.getD i 0) := by
  rw [← h.mem, List.getD, List.getElem?_eq_getElem hi, Option.getD_some]
  exact List.getElem_mem hi
theorem AI.bd {w0 W : World} {h : Hm} {n S N : Nat} {l0 l : List Int} {T : List Sl} {A : List Nat} (k : AI S N T A) (d : Wd w0 h n S N l0 l T W) : ∀ x ∈ A, x ≤ 100000 := fun x hx => lv_bd d.st ((k.mem x).1 hx)
/-- A row in a block between two bounds. -/
structure RowM (k : IntKind) (n m : Nat) (W : World) (u : Value) (X : List Int) : Prop where
  r : Row k W u X
  lo : ∀ b, u.ownBlock = some b → n ≤ b
  hi : ∀ b, u.ownBlock = some b → b < m
theorem RowM.low {k : IntKind} {n m : Nat} {W W' : World} {u : Value} {X : List Int} (d : RowM k n m W u X) (hb : Below m W W') : RowM k n m W' u X := ⟨d.r.fr (Fr.of_below (S := fun _ => False) hb) (fun _ b q => ⟨d.hi b q, fun q => q⟩), d.lo, d.hi⟩
theorem RowM.fr {h : Hm} {k : IntKind} {n m : Nat} {W W' : World} {u : Value} {X : List Int} (d : RowM k n m W u X) (hf : Fr W.heap.size (blkM h) W W') (hl : Lo h n) (hm : m ≤ W.heap.size) : RowM k n m W' u X :=
  ⟨d.r.fr hf (fun _ b q => ⟨Nat.lt_of_lt_of_le (d.hi b q) hm, fun z => by have := hl.m b z; have := d.lo b q; omega⟩), d.lo, d.hi⟩
theorem w_in (k : Nat) (h : k < 1000) : wrap64 (k : Int) = (k : Int) := IntWalk.wrap64_in _ (by omega)
theorem w_neg (k : Nat) (h : k < 1000) : wrap64 (-(k : Int)) = -(k : Int) := IntWalk.wrap64_in _ (by omega)
end Go.Proofs.YthnjpmgfikhemaaGreatDoor.Sla
