/- The landed ring: the iterator over its entries; All. The landed ring: its calls, as a list of entries and a broom tells them. Rings within a statement: entries that are made and given back, a new memory. Rings within a statement: a new memory with an empty ring; the example. Rings within a statement: the example. Plain mathematics of RingRound: a ring that is turned as often as it has entries; a broom that goes round; entries of one class. The walk of RingRound. Rings within a statement: acts, as they come in; the one of a row that a number names; no entry lies at 0. The walk of RingLast. -/
import Derived.Test.YtodagfhfganloaaGreatDoorJ19
import Derived.Test.YtodagfhfganloaaGreatDoorJ20
import Derived.Test.YtodagfhfganloaaGreatDoorJ1
import Derived.Test.YtodagfhfganloaaGreatDoorJ15
import Derived.Test.YtodagfhfganloaaGreatDoorJ16
import Derived.Test.YtodagfhfganloaaGreatDoorJ18
import Derived.Test.YtodagfhfganloaaGreatDoorJ17
import Derived.Deep.RegionHeld3
namespace Go.Proofs.YtodagfhfganloaaGreatDoor.Rin
open Go.RowKit Go.Shelf Num
open Mem (Mm MemC MRet Hm rd blkM)
open Lis (cell_lt tab_same valsN valsN_snoc ints infoInt rowN_of_owns owns_base)
open Sla (Sl St Lv pl aT pV Lo)
open Reg (SetM)
set_option linter.unusedVariables false
attribute [local go_sem] Oper.semAt_some

section
variable {X : Fx} {R : Rv} {w w' W W' : World} {n₀ Bm : Nat}
theorem Rs.low (d : Rs X R W) {n : Nat} (hb : Below n W W') (hl : Lo X.h n) (hg : 0 < n) : Rs X R W' := by
  obtain ⟨l, h1, h2⟩ := d
  exact ⟨l, ⟨h1.st.stay hb hl, h1.lv, h1.rb, tab_same (show Tryz.prog.globalNamed "columbarium/ring.cursors" = some 0 by kernel_rfl) (hb.block _ hg) h1.tc⟩, h2⟩
theorem Rs.lo (d : Rs X R W) : Lo X.h W.heap.size ∧ 0 < W.heap.size := by
  obtain ⟨l, h1, h2⟩ := d
  exact ⟨h1.st.lo, cell_lt h1.tc.cell.1⟩
theorem setM_same {b : Nat} {L : List Int} (h : SetM W b L) (hb : W'.heap[b]? = W.heap[b]?) : SetM W' b L := by
  obtain ⟨n, D, h1, ⟨es, clock, q1, q2⟩, h3⟩ := h.ex
  exact ⟨h.nd, h.bd, n, D, h1, ⟨es, clock, hb.trans q1, q2⟩, h3⟩
theorem setM_block {b : Nat} {L : List Int} (h : SetM W b L) : ∃ (e : Array MapEntry) (c : Nat), W.heap[b]? = some (Obj.map e c) := by
  obtain ⟨n, D, h1, ⟨es, clock, q1, q2⟩, h3⟩ := h.ex
  exact ⟨es, clock, q1⟩
/-- How many numbers a map holds. -/
def mapZ (w : World) : Value → Nat
  | .map (some b) => match w.heap[b]? with
    | some (.map es _) => es.size
    | _ => 0
  | _ => 0
theorem mapZ_of {b : Nat} {L : List Int} (h : SetM W b L) : mapZ W (.map (some b)) = L.length := by
  obtain ⟨n, D, h1, ⟨es, clock, q1, q2, q3, q4⟩, h3, h4⟩ := h.ex
  have hsz : Maps.size D = es.size := by rw [q4]; simp [Maps.size, length_sorted]
  unfold mapZ
  simp only [q1]
  omega
/-- What the iterator does between two rounds. -/
def StR (X : Fx) (R : Rv) (n₀ : Nat) (A B : World) : Prop :=
  (B.os = A.os ∧ B.tape = A.tape ∧ B.output = A.output ∧ A.heap.size ≤ B.heap.size) ∧ (∀ k o, A.heap[k]? = some o → ¬ blkM X.h k → (k < n₀ ∨ notMap o) → B.heap[k]? = some o) ∧ Rs X R B
/-- What a round keeps. -/
def Kv (n₀ Bm : Nat) (W W' : World) : Prop := Fr W.heap.size (fun k => ¬ (k < n₀ ∨ k = Bm)) W W' ∧ ∀ (k : Nat) (e : Array MapEntry) (c : Nat), W.heap[k]? = some (Obj.map e c) → W'.heap[k]? = some (Obj.map e c)
theorem Kv.trans {A B C : World} (h : Kv n₀ Bm A B) (k : Kv n₀ Bm B C) : Kv n₀ Bm A C := ⟨h.1.trans (Fr.mono k.1 h.1.size (fun _ _ q => q)), fun i e c hi => k.2 i e c (h.2 i e c hi)⟩
theorem StR.fr {A B : World} (h : StR X R n₀ A B) (hn : n₀ ≤ A.heap.size) : Fr n₀ (blkM X.h) A B :=
  ⟨h.1.1, h.1.2.1, h.1.2.2.1, h.1.2.2.2, fun k hk hs => by
    obtain ⟨o, ho⟩ : ∃ o, A.heap[k]? = some o := ⟨_, Array.getElem?_eq_getElem (by omega)⟩
    rw [ho]
    exact h.2.1 k o ho hs (.inl hk)⟩
theorem StR.of_fr (hf : Fr W.heap.size (blkM X.h) W W') (hm : Rs X R W') : StR X R n₀ W W' :=
  ⟨⟨hf.os, hf.tape, hf.output, hf.size⟩, fun k o ho hk _ => (hf.block k (Array.getElem?_eq_some_iff.1 ho).1 hk).trans ho, hm⟩
theorem walk_any (g : Nat) (w : World) : Calls Tryz.prog 148 #[.agg #[.pointer (some ⟨g, 0, none⟩)]] w fun e w' => e = .returned (.func (.func 225) #[] #[.pointer (some ⟨w.heap.size, 0, none⟩)]) ∧ w' = w.alloc (.cells #[.pointer (some ⟨g, 0, none⟩)] 158) := by
  go_enter Tryz.func148, Tryz.ntmps148
  go_wp2
  go_ret
  exact ⟨rfl, rfl⟩
/-- The first ones of a list, as numbers. -/
theorem ints_mem {L : List Nat} {x : Nat} : (x : Int) ∈ ints L ↔ x ∈ L := by
  unfold ints
  rw [List.mem_map]
  constructor
  · rintro ⟨a, h1, h2⟩
    obtain rfl : a = x := by omega
    exact h1
  · intro h
    exact ⟨x, h, rfl⟩
theorem take_not {L : List Nat} (h : L.Nodup) {k : Nat} (hk : k < L.length) : L.getD k 0 ∉ L.take k := by
  intro q
  obtain ⟨i, hi, e⟩ := at_of q
  have hik : i < k := by rw [List.length_take] at hi; omega
  have : (L.take k).getD i 0 = L.getD i 0 := by simp [List.getD, hik]
  rw [this] at e
  have := get_inj h (by omega) hk e
  omega
theorem take_snoc {L : List Nat} {k : Nat} (hk : k < L.length) : L.take (k + 1) = L.take k ++ [L.getD k 0] := by
  rw [List.take_add_one, List.getD, List.getElem?_eq_getElem hk]
  rfl
/-- Where the iterator is behind k entries. -/
def atR (L : List Nat) (k : Nat) : Nat := if k < L.length then L.getD k 0 else L.getD 0 0

set_option maxRecDepth 100000 in
set_option maxHeartbeats 4000000 in
theorem walk1_in (n : Nat) (hn : 1 ≤ n) (lp : Nat) (L : List Nat) (hnd : L.Nodup) (hE : ∀ x ∈ L, x ∈ X.E) (hlen : L.length ≤ 10000) (hh : R.hand = L.getD 0 0) (hnx : ∀ i, i < L.length → R.nx (L.getD i 0) = L.getD (sc L.length i) 0) (J Jx : List Nat → World → Prop)
    (hJ : ∀ s A B, J s A → StR X R n₀ A B → J s B)
    (hY : ∀ pre (x : Nat) W, J pre W → pre.length < L.length → YieldAt Fence.wide (n - 1) Tryz.prog lp #[.int .i64 (x : Int)] W fun e W' =>
      (e = .returned (.bool true) ∧ J (pre ++ [x]) W' ∧ Kv n₀ Bm W W') ∨ (e = .returned (.bool false) ∧ Jx (pre ++ [x]) W'))
    (W : World) (hlo : Lo X.h n₀) (hg : 0 < n₀) (hw : n₀ ≤ W.heap.size) (hBm0 : n₀ ≤ Bm) (hBm : W.heap[Bm]? = some (.cells #[pV X.h] 158 (0, 0))) (hm : Rs X R W) (h0 : J [] W) :
    CallsIn Fence.wide n Tryz.prog 225 #[.func (.yield lp) #[] #[], .pointer (some ⟨Bm, 0, none⟩)] W fun e W' => (∃ v, e = .returned v) ∧
      ((∃ ys, ys = L ∧ J ys W') ∨ (∃ pre, (∃ rest, L = pre ++ rest) ∧ Jx pre W')) := by
  have HY := Lib.hid hY
  have HJ := Lib.hid hJ
  have HL := Lib.hid hlo
  have hbm : ¬ blkM X.h Bm := fun q => by have := hlo.m _ q; omega
  have hcE : R.hand ∈ X.E ∨ R.hand = 0 := by
    rw [hh]
    by_cases e : L = []
    · right; rw [e]; rfl
    · left; exact hE _ (get_in (List.length_pos_iff.2 e))
  have hm1 := hm.below (below_made W (.map #[] 0))
  have HCu := Lib.hid (cursor_any hm1 (f := 13) (.inl rfl) hcE)
  rw [show R.cur 13 = R.hand from rfl, hh] at HCu
  have HNx := Lib.hid (fun (k : Nat) (hk : k < L.length) V (hv : Rs X R V) => next_any hv (hE _ (get_in hk)) (by rw [hnx k hk]; exact hE _ (get_in (sc_lt hk))))
  have hBm1 := (Below.block (below_made W (.map #[] 0)) Bm (Array.getElem?_eq_some_iff.1 hBm).1).trans hBm
  have c0 : (W.alloc (.map #[] 0)).cell? ⟨Bm, 0, none⟩ = some (.pointer (some ⟨X.h.g, 0, none⟩)) := (cell_block hBm1 0).trans rfl
  have H1 : Hid (J [] (W.alloc (.map #[] 0)) ∧ Rs X R (W.alloc (.map #[] 0)) ∧ (W.alloc (.map #[] 0)).heap[Bm]? = some (.cells #[pV X.h] 158 (0, 0)) ∧ SetM (W.alloc (.map #[] 0)) W.heap.size []) :=
    ⟨hJ _ _ _ h0 (StR.of_fr (Fr.of_below (below_made _ _)) hm1), hm1, hBm1, SetM.made W⟩
  have hmm := @run_makeMap Tryz.prog
  have hmb : n₀ ≤ W.heap.size := hw
  have hmn : ¬ blkM X.h W.heap.size := fun q => by have := hlo.m _ q; omega
  have hpos : ∀ x ∈ L, 128 ≤ x ∧ x ≤ 100000 := fun x hx => by have := hm.facts (hE x hx); omega
  have HP := Lib.hid hpos
  clear hY hJ hlo hBm hBm1 hm hm1 h0 hpos
  unfold rV pV at *
  refine callsIn_of_wp Tryz.func225 rfl trivial ?_ rfl
  simp only [Tryz.ntmps225, List.size_toArray, List.length_cons, List.length_nil, Nat.reduceAdd, Nat.reduceSub, Array.replicate_succ, Array.replicate_zero, List.push_toArray, List.append_toArray, List.nil_append, List.cons_append]
  gi_wp2_with (refine ⟨trivial, ?_⟩; gi_at_call 128; refine (callsIn_wide.2 HCu.out).mono ?_; rintro e W1 ⟨rfl, hm1, hf1⟩)
  clear hmm
  gi_loopw [4] (fun i wr => ∃ (k : Nat), i = .int .i64 (atR L k : Int) ∧ k ≤ L.length ∧ Hid (J (L.take k) wr) ∧ Hid (Rs X R wr) ∧ Hid (wr.heap[Bm]? = some (.cells #[.pointer (some ⟨X.h.g, 0, none⟩)] 158 (0, 0))) ∧ Hid (SetM wr W.heap.size (ints (L.take k)))) (fun i wr => L.length - mapZ wr (.map (some W.heap.size)))
  case atStart =>
    obtain ⟨q1, q2, q3, q4⟩ := H1.out
    have hb1 := (hf1.block Bm (Array.getElem?_eq_some_iff.1 q3).1 hbm).trans q3
    have hs1 := setM_same q4 (hf1.block _ q4.lt hmn)
    have hj1 := HJ.out _ _ _ q1 (StR.of_fr hf1 hm1)
    refine ⟨0, ?_, Nat.zero_le _, hj1, hm1, hb1, hs1⟩
    unfold atR
    split <;> rfl
  case round =>
    obtain ⟨k, rfl, hk, HJJ, HR, HB, HS⟩ := hrel
    have cb : wr.cell? ⟨Bm, 0, none⟩ = some (.pointer (some ⟨X.h.g, 0, none⟩)) := (cell_block HB.out 0).trans rfl
    by_cases hlt : k < L.length
    · have hx := get_in hlt
      have hat : atR L k = L.getD k 0 := if_pos hlt
      rw [hat]
      have hnot : ((L.getD k 0 : Nat) : Int) ∉ ints (L.take k) := fun q => take_not hnd hlt (ints_mem.1 q)
      have hxb := HP.out _ hx
      have hw64 : Reg.w64 ((L.getD k 0 : Nat) : Int) := WalkArith.wf_i64 (by omega)
      have hlk := HS.out.look hw64
      rw [decide_eq_false hnot] at hlk
      have hz1 : (((L.getD k 0 : Nat) : Int) == 0) = false := by rw [beq_eq_false_iff_ne]; omega
      have hz2 : (((L.getD k 0 : Nat) : Int) != 0) = true := by rw [bne, hz1]; rfl
      have hlen2 : (L.take k).length < L.length := by rw [List.length_take]; omega
      have hN1 := HNx.out k hlt
      rw [hnx k hlt] at hN1
      have HN1 := Lib.hid hN1
      obtain ⟨fn, tmps, assign, body, hyy, hR⟩ := HY.out (L.take k) (L.getD k 0) wr HJJ.out hlen2
      have htk := take_snoc hlt
      rw [← htk] at hR
      have HTk : Hid (ints (L.take k) ++ [((L.getD k 0 : Nat) : Int)] = ints (L.take (k + 1))) := by unfold Hid; rw [htk]; simp [ints]
      have hat2 : ((L.getD (sc L.length k) 0 : Nat) : Int) = (atR L (k + 1) : Int) := by
        unfold atR sc
        by_cases e : k + 1 = L.length
        · rw [if_pos e, if_neg (by omega)]
        · rw [if_neg e, if_pos (by omega)]
      rw [hat2] at HN1
      have HNot := Lib.hid hnot
      have HW64 := Lib.hid hw64
      have hs0 := HS.out.lt
      have hz0 := (mapZ_of HS.out)
      have hln : (ints (L.take k)).length = k := by rw [Lis.ints_length, List.length_take]; omega
      generalize L.getD k 0 = x at HNot HW64 hlk hz1 hz2 HN1 hyy hR HTk ⊢
      clear hx hat hnot hxb hw64 htk hat2 hN1 hlen2
      gi_wp2
      refine hR.mono ?_
      rintro e W3 (⟨rfl, hJ3, hk3⟩ | ⟨rfl, hJx3⟩)
      · have hbl3 : Below n₀ wr W3 := hk3.1.toBelow (by omega) (fun j hj q => q (.inl hj))
        have hm3 := HR.out.low hbl3 HL.out hg
        have hB3 := (Fr.block hk3.1 Bm (Array.getElem?_eq_some_iff.1 HB.out).1 (fun q => q (.inr rfl))).trans HB.out
        have hS3 : SetM W3 W.heap.size (ints (L.take k)) := by
          obtain ⟨e, c, he⟩ := setM_block HS.out
          exact setM_same HS.out ((hk3.2 _ _ _ he).trans he.symm)
        obtain ⟨W4, hput, hS4, hg4⟩ := hS3.put HW64.out HNot.out (by rw [hln]; omega)
        rw [HTk.out] at hS4
        have hbl4 : Below n₀ W3 W4 := (Below.refl n₀ W3).grown hg4 (by have := hbl3.size; omega) (fun r e => by cases e; exact hmb)
        have hm4 := hm3.low hbl4 HL.out hg
        have hst4 : StR X R n₀ W3 W4 := ⟨⟨hg4.os, hg4.tape, hg4.output, hg4.size⟩, fun j o ho hj hq => by
          by_cases e : j = W.heap.size
          · subst e
            obtain ⟨e', c', he'⟩ := setM_block hS3
            rw [he'] at ho
            injection ho with ho
            rcases hq with q | q
            · omega
            · exact absurd ho.symm (q _ _)
          · exact (hg4.block j (Array.getElem?_eq_some_iff.1 ho).1 (fun q => e (by cases q; rfl))).trans ho, hm4⟩
        have hB4 := (hg4.block Bm (Array.getElem?_eq_some_iff.1 hB3).1 (fun q => by
          obtain ⟨e', c', he'⟩ := setM_block hS3
          cases q
          rw [hB3] at he'
          cases he')).trans hB3
        have HJ4 := Lib.hid (HJ.out _ _ _ hJ3 hst4)
        have HM4 := Lib.hid hm4
        have HB4 := Lib.hid hB4
        have HS4 := Lib.hid hS4
        have cb3 : W4.cell? ⟨Bm, 0, none⟩ = some (.pointer (some ⟨X.h.g, 0, none⟩)) := (cell_block hB4 0).trans rfl
        clear hm3 hB3 hS3 hbl3 hbl4 hm4 hst4 hB4 hJ3 hk3 hyy hR hS4 hg4
        gi_wp2_with (refine ⟨trivial, ?_⟩; gi_at_call 139; refine (callsIn_wide.2 (HN1.out _ HM4.out)).mono ?_; rintro e W5 ⟨rfl, hm5, hf5⟩)
        have q1 := (hf5.block Bm (Array.getElem?_eq_some_iff.1 HB4.out).1 hbm).trans HB4.out
        have q2 := setM_same HS4.out (hf5.block _ HS4.out.lt hmn)
        have HJ5 := Lib.hid (HJ.out _ _ _ HJ4.out (StR.of_fr hf5 hm5))
        have hz5 := mapZ_of q2
        go_roundw
        case rel => exact ⟨k + 1, rfl, by omega, HJ5.out, hm5, q1, q2⟩
        case measure =>
          rw [hz0, hz5, hln, Lis.ints_length, List.length_take]
          omega
      · clear hR hyy
        gi_wp2
        go_end0
        exact ⟨⟨_, rfl⟩, .inr ⟨_, ⟨L.drop (k + 1), (List.take_append_drop _ _).symm⟩, hJx3⟩⟩
    · obtain rfl : k = L.length := by omega
      have hat : atR L L.length = L.getD 0 0 := if_neg (Nat.lt_irrefl _)
      rw [hat]
      rw [List.take_length] at HJJ HS
      by_cases h0 : L = []
      · have e0 : ((L.getD 0 0 : Nat) : Int) = 0 := by rw [h0]; rfl
        rw [e0]
        gi_wp2
        refine ⟨fun f e => (by cases e), ?_⟩
        gi_wp2
        go_end0
        exact ⟨⟨_, rfl⟩, .inl ⟨_, rfl, HJJ.out⟩⟩
      · have hx := get_in (List.length_pos_iff.2 h0)
        have hxb := HP.out _ hx
        have hlk := HS.out.look (x := ((L.getD 0 0 : Nat) : Int)) (WalkArith.wf_i64 (by omega))
        rw [decide_eq_true (ints_mem.2 hx)] at hlk
        have hz1 : (((L.getD 0 0 : Nat) : Int) == 0) = false := by rw [beq_eq_false_iff_ne]; omega
        have hz2 : (((L.getD 0 0 : Nat) : Int) != 0) = true := by rw [bne, hz1]; rfl
        generalize L.getD 0 0 = x at hlk hz1 hz2 ⊢
        clear hx hxb hat
        gi_wp2
        refine ⟨fun f e => (by cases e), ?_⟩
        gi_wp2
        go_end0
        exact ⟨⟨_, rfl⟩, .inl ⟨_, rfl, HJJ.out⟩⟩
theorem walk_seq (n : Nat) (hn : 1 ≤ n) (L : List Nat) (hnd : L.Nodup) (hE : ∀ x ∈ L, x ∈ X.E) (hlen : L.length ≤ 10000) (hh : R.hand = L.getD 0 0) (hnx : ∀ i, i < L.length → R.nx (L.getD i 0) = L.getD (sc L.length i) 0)
    (w0 : World) (hlo : Lo X.h n₀) (hg : 0 < n₀) (hw : n₀ ≤ w0.heap.size) (hBm0 : n₀ ≤ Bm) (hBm : w0.heap[Bm]? = some (.cells #[pV X.h] 158 (0, 0))) (hm : Rs X R w0) :
    SeqM Fence.wide n Tryz.prog 225 #[.pointer (some ⟨Bm, 0, none⟩)] (fun x : Nat => #[.int .i64 (x : Int)]) (Kv n₀ Bm) (StR X R n₀) (fun ys => ys = L) (fun pre => ∃ rest, L = pre ++ rest) L.length w0 :=
  fun lp J Jx W hW hJ _ hY h0 => walk1_in n hn lp L hnd hE hlen hh hnx J Jx hJ hY W hlo hg (Nat.le_trans hw hW.size) hBm0 ((hW.block _ (Array.getElem?_eq_some_iff.1 hBm).1).trans hBm) (hm.below hW) h0

set_option maxRecDepth 100000 in
set_option maxHeartbeats 4000000 in
theorem all_any (d : Rs X R w) (L : List Nat) (hnd : L.Nodup) (hE : ∀ x ∈ L, x ∈ X.E) (hlen : L.length ≤ 10000) (hh : R.hand = L.getD 0 0) (hnx : ∀ i, i < L.length → R.nx (L.getD i 0) = L.getD (sc L.length i) 0) :
    Calls Tryz.prog 60 #[pV X.h] w fun e w' => ∃ u, RsR X R u w e w' ∧ w'.ownsRow w.heap.size 3 1 u L.length (valsN L) := by
  obtain ⟨i0, hi, hz0, hz1, hz2⟩ := info_parts infoInt
  have HW := Lib.hid (fun V => walk_any X.h.g V)
  obtain ⟨hlo, hg⟩ := d.lo
  refine (callsIn_wide (n := 6)).1 ?_
  refine callsIn_of_wp_marks Tryz.func60 rfl trivial ?_ rfl
  simp only [Tryz.ntmps60, List.size_toArray, List.length_cons, List.length_nil, Nat.reduceAdd, Nat.reduceSub, Array.replicate_succ, Array.replicate_zero, List.push_toArray, List.append_toArray, List.nil_append, List.cons_append]
  unfold pV
  gi_wp2_with (refine ⟨trivial, ?_⟩; gi_at_call 148; refine (callsIn_wide.2 (HW.out _)).mono ?_; rintro e w' ⟨rfl, rfl⟩)
  have b0 := (Boxed.new w 32 (.slice none 0 0)).alloc (.cells #[.pointer (some ⟨X.h.g, 0, none⟩)] 158)
  have b1 := heap_alloc_new (w.alloc (.cells #[.slice none 0 0] 32)) (.cells #[.pointer (some ⟨X.h.g, 0, none⟩)] 158)
  have hbw : Below w.heap.size w ((w.alloc (.cells #[.slice none 0 0] 32)).alloc (.cells #[.pointer (some ⟨X.h.g, 0, none⟩)] 158)) := ((Below.refl _ w).alloc (Nat.le_refl _) _).alloc (by simp) _
  have hz : ((w.alloc (.cells #[.slice none 0 0] 32)).alloc (.cells #[.pointer (some ⟨X.h.g, 0, none⟩)] 158)).heap.size = w.heap.size + 2 := by simp
  have hzz : (w.alloc (.cells #[.slice none 0 0] 32)).heap.size = w.heap.size + 1 := by simp
  rw [hzz] at b1
  generalize hW0 : (w.alloc (.cells #[.slice none 0 0] 32)).alloc (.cells #[.pointer (some ⟨X.h.g, 0, none⟩)] 158) = W0 at b0 b1 hbw hz ⊢
  clear hzz hW0
  have low : ∀ {V U : World}, Rs X R V → Below w.heap.size V U → Rs X R U := fun hv hb => hv.low hb hlo hg
  have hnb : ∀ k, w.heap.size ≤ k → ¬ blkM X.h k := fun k hk q => by have := hlo.m k q; omega
  refine wpIn_range_memM rfl (by omega) (gf := 225) (lb := #[.pointer (some ⟨w.heap.size + 1, 0, none⟩)]) rfl trivial (enters_of Tryz.func225 (by kernel_rfl) rfl)
    (walk_seq 5 (by omega) L hnd hE hlen hh hnx W0 hlo hg (by omega) (by omega) b1 (d.below hbw))
    (fun A B k o st hk hno ho => st.2.1 k o ho (hnb k (by omega)) (.inr hno))
    (fun h k => Kv.trans h k)
    (fun V l r r' hl hr => ⟨⟨rfl, rfl, rfl, by simp, fun k _ hs => World.putObj_heap_other (fun e => hs (by rintro (q | q) <;> omega))⟩, fun k e c hk => (World.putObj_heap_other (by rintro rfl; rw [hr] at hk; cases hk)).trans hk⟩)
    (Below.refl _ _) (fun _ => rfl)
    (fun pre W => (∃ u, Boxed W w.heap.size 32 u ∧ W.ownsRow w.heap.size 3 1 u pre.length (valsN pre) ∧ True) ∧ Rs X R W ∧ Fr w.heap.size (blkM X.h) w W ∧ Boxed W (w.heap.size + 1) 158 (.pointer (some ⟨X.h.g, 0, none⟩)))
    (fun _ _ _ => False)
    (OwnFrom.and (Own.from (holdsRow_own w.heap.size w.heap.size 32 3 1 (fun pre => pre.length) (fun pre => valsN pre) (fun _ _ => True)) _)
      (fun pre A B row hi hg hr => ⟨low hi.1 ((Below.refl _ A).grown hg hi.2.1.size (fun r e => by have := (hr r e).1; omega)), hi.2.1.trans (Fr.of_grown hg hi.2.1.size (fun k e => .inl (by have := (hr k e).1; omega))), hi.2.2.kept hg (fun e => by obtain ⟨o, h1, h2⟩ := (hr _ e.symm).2; rw [hi.2.2] at h1; cases h1; cases h2)⟩))
    (fun _ _ _ _ _ hs _ _ => hs)
    (fun pre A B hi st => by
      obtain ⟨⟨u, q1, q2, -⟩, q3, q4, q5⟩ := hi
      refine ⟨⟨u, st.2.1 _ _ q1 (hnb _ (Nat.le_refl _)) (.inr (fun _ _ q => by cases q)), ⟨q2.1, ?_⟩, trivial⟩, st.2.2, q4.trans (st.fr q4.size), st.2.1 _ _ q5 (hnb _ (by omega)) (.inr (fun _ _ q => by cases q))⟩
      rcases q2.2 with hn | ⟨g, cap, cur, rfl, hb, hgg, rest⟩
      · exact .inl hn
      · exact .inr ⟨g, cap, cur, rfl, hb, st.2.1 _ _ hgg (hnb _ hb) (.inr (fun _ _ q => by cases q)), rest⟩)
    (fun _ _ _ _ hi _ => hi)
    ⟨⟨_, b0, World.ownsRow_nil _ _ _ _, trivial⟩, d.below hbw, Fr.of_below hbw, b1⟩
    (fun x => { tmps := #[.pointer (some ⟨X.h.g, 0, none⟩), undef, .slice none 0 0, .pointer (some ⟨w.heap.size, 0, none⟩), .int .i64 (x : Int), .pointer (some ⟨X.h.g, 0, none⟩), .agg #[.pointer (some ⟨X.h.g, 0, none⟩)], .func (.func 225) #[] #[.pointer (some ⟨w.heap.size + 1, 0, none⟩)], .int .i64 (x : Int), undef, undef, undef, undef, undef], defers := [] })
    ?assign ?body ?done ?stop
  case assign =>
    intro lp x W K hK
    gi_wp2
    exact hK
  case body =>
    rintro lp pre x W ⟨⟨u, bS1, hown, -⟩, hm1, hf1, bR1⟩ hlt
    have cS := bS1.cell
    have hs1 := hf1.size
    have hsz := hf1.size
    gi_wp2_with (gi_at_builtin; refine wpListIn_append_own _ rfl (.tmp 9) (.tmp 11) 32 rfl w.heap.size 3 i0 (.int .i64 0) 1 8 Tryz.underlying32 hi hz0 hz1 hz2 rfl (by decide) _ _ _ rfl (hown.alloc _) ⟨W.heap.size, 0, none⟩ 1 1 [.int .i64 (x : Int)] rfl rfl (news_one _ _ _ _) (oneCell_one _ _) (by unfold maxLen; omega) (by omega) (by simp; omega) ?_; intro v' w1 hown' hgrow _; obtain ⟨g', cap', rfl⟩ := ownsRow_succ hown'; obtain ⟨hv1, hv2, hr2, hk2, hb2⟩ := bS1.appended (by decide) hown hsz (Nat.le_refl _) hown' hgrow; have hc1 := hv1.cell; have hf1' := hv1.frozen; have bR0 := (bR1.alloc _).kept hgrow (bR1.not_row (by decide) hown))
    have bR2 := fun v => bR0.other (show w.heap.size + 1 ≠ w.heap.size by omega) v
    refine ⟨hk2.from _, ⟨⟨hb2.os, hb2.tape, hb2.output, hb2.size, fun k _ q => by
      rcases Decidable.not_not.1 q with q | q
      · exact hb2.block k q
      · rw [q]; exact (bR2 _).trans bR1.symm⟩, fun k e c hk => hk2.same k _ hk rfl⟩, ⟨_, hv2, by rw [List.length_append, valsN_snoc]; exact hr2, trivial⟩, low hm1 hb2, hf1.trans (Fr.of_below hb2), bR2 _⟩
  case done =>
    rintro D ys W hD rfl ⟨⟨u, bS1, hown, -⟩, hm1, hf1, bR1⟩ hK
    have cS := bS1.cell
    have hD2 : w.heap.size ≤ D := by omega
    gi_wp2
    refine ⟨by simp, .inl ⟨_, _, rfl, run_takeDeferred hK, ?_⟩⟩
    have hgr := grownBy_putObj' W D (.deferred none)
    exact ⟨_, results_tmp rfl _ _ _, u, ⟨rfl, low hm1 ((Below.refl _ W).grown hgr hf1.size (fun r e => by cases e; exact hD2)), hf1.trans (Fr.of_grown hgr hf1.size (fun k e => by cases e; exact .inl hD2))⟩, ownsRow_putObj hown _ hK rfl⟩
  case stop =>
    rintro D c pre W _ _ h _
    exact h.elim
end
end Go.Proofs.YtodagfhfganloaaGreatDoor.Rin

namespace Go.Proofs.YtodagfhfganloaaGreatDoor.Rin
open Go.RowKit Num
open Mem (Mm MemC MRet Hm rd blkM)
open Lis (valsN)
open Sla (Sl St Lv pl aT pV Lo)
open Arn (wrL is64)
set_option linter.unusedVariables false

/-- The links and words say a ring: its entries from the hand on, and the broom's. -/
structure Rp (R : Rv) (E L : List Nat) (br : Nat) : Prop where
  sub : ∀ x ∈ L, x ∈ E
  cy : Cy R.nx R.pv L
  hand : R.hand = L.getD 0 0
  broom : R.broom = br
  brm : br ∈ L ∨ (L = [] ∧ br = 0)
  cnt : R.cnt = L.length
  out : ∀ x ∈ E, x ∉ L → R.nx x = 0 ∧ R.pv x = 0
  pos : ∀ x ∈ E, x ≠ 0
  len : L.length ≤ 10000
section
variable {X : Fx} {R R' : Rv} {E F L : List Nat} {br : Nat} {w W : World}
theorem Rp.hand_in (h : Rp R E L br) : R.hand ∈ L ∨ (L = [] ∧ R.hand = 0) := by
  rw [h.hand]
  by_cases e : L = []
  · right; rw [e]; exact ⟨rfl, rfl⟩
  · left; exact get_in (List.length_pos_iff.2 e)
theorem Rp.same (h : Rp R E L br) (h' : Rp R' E L br) : R'.hand = R.hand ∧ R'.broom = R.broom ∧ R'.cnt = R.cnt ∧ ∀ x ∈ E, R'.nx x = R.nx x ∧ R'.pv x = R.pv x := by
  refine ⟨h'.hand.trans h.hand.symm, h'.broom.trans h.broom.symm, h'.cnt.trans h.cnt.symm, fun x hx => ?_⟩
  by_cases hL : x ∈ L
  · obtain ⟨i, hi, rfl⟩ := at_of hL
    exact ⟨(h'.cy.n i hi).trans (h.cy.n i hi).symm, (h'.cy.p i hi).trans (h.cy.p i hi).symm⟩
  · obtain ⟨a, b⟩ := h.out x hx hL
    obtain ⟨c, d⟩ := h'.out x hx hL
    exact ⟨c.trans a.symm, d.trans b.symm⟩
theorem Rp.start (E : List Nat) (hE : ∀ x ∈ E, x ≠ 0) (R : Rv) (h1 : R.hand = 0) (h2 : R.broom = 0) (h3 : R.cnt = 0) (ho : ∀ x ∈ E, R.nx x = 0 ∧ R.pv x = 0) : Rp R E [] 0 :=
  ⟨fun x hx => (by cases hx), Cy.nil _ _, h1, h2, .inr ⟨rfl, rfl⟩, h3, fun x hx _ => ho x hx, hE, by simp⟩
theorem Rp.more (h : Rp R E L br) {a : Nat} (ha : a ≠ 0) (hn : R.nx a = 0 ∧ R.pv a = 0) : Rp R (a :: E) L br :=
  ⟨fun x hx => .tail _ (h.sub x hx), h.cy, h.hand, h.broom, h.brm, h.cnt, fun x hx hL => by
    rcases List.mem_cons.1 hx with rfl | hx
    · exact hn
    · exact h.out x hx hL, fun x hx => by
    rcases List.mem_cons.1 hx with rfl | hx
    · exact ha
    · exact h.pos x hx, h.len⟩
theorem Rp.congr (h : Rp R E L br) (e1 : R'.hand = R.hand) (e2 : R'.broom = R.broom) (e3 : R'.cnt = R.cnt) (e4 : ∀ x ∈ E, R'.nx x = R.nx x ∧ R'.pv x = R.pv x) : Rp R' E L br :=
  ⟨h.sub, ⟨h.cy.nd, fun i hi => (e4 _ (h.sub _ (get_in hi))).1.trans (h.cy.n i hi), fun i hi => (e4 _ (h.sub _ (get_in hi))).2.trans (h.cy.p i hi)⟩, e1.trans h.hand, e2.trans h.broom, h.brm, e3.trans h.cnt,
    fun x hx q => by obtain ⟨a, b⟩ := e4 x hx; rw [a, b]; exact h.out x hx q, h.pos, h.len⟩

/-- What a ring holds. -/
structure Rg (X : Fx) (L : List Nat) (br : Nat) (W : World) : Prop where
  ex : ∃ R, Rs X R W ∧ Rp R X.E L br
def RgR (X : Fx) (L : List Nat) (br : Nat) (r : Value) (w : World) (e : Ending) (w' : World) : Prop := e = .returned r ∧ Rg X L br w' ∧ Fr w.heap.size (blkM X.h) w w'
theorem Rg.below {W' : World} (d : Rg X L br W) (hb : Below W.heap.size W W') : Rg X L br W' := by
  obtain ⟨R, h1, h2⟩ := d
  exact ⟨R, h1.below hb, h2⟩
theorem Rg.nodup (d : Rg X L br W) : L.Nodup := by
  obtain ⟨R, h1, h2⟩ := d
  exact h2.cy.nd
theorem Rg.sub (d : Rg X L br W) : ∀ x ∈ L, x ∈ X.E := by
  obtain ⟨R, h1, h2⟩ := d
  exact h2.sub
theorem Rg.brm (d : Rg X L br W) : br ∈ L ∨ (L = [] ∧ br = 0) := by
  obtain ⟨R, h1, h2⟩ := d
  exact h2.brm
theorem Rg.facts (d : Rg X L br W) {x : Nat} (hx : x ∈ X.E) : 128 ≤ x ∧ x % 16 = 0 ∧ x + 32 ≤ 100000 := by
  obtain ⟨R, h1, h2⟩ := d
  exact h1.facts hx
theorem Rg.len (d : Rg X L br W) : L.length ≤ 10000 := by
  obtain ⟨R, h1, h2⟩ := d
  exact h2.len
theorem Rg.insert (d : Rg X L br w) {a : Nat} (ha : a ∈ X.E) (hL : a ∉ L) (hl : L.length < 10000) :
    Calls Tryz.prog 56 #[pV X.h, .int .i64 (a : Int)] w (RgR X (L ++ [a]) (if L = [] then a else br) (.int .i64 0) w) := by
  obtain ⟨R, h1, h2⟩ := d
  obtain ⟨z1, z2⟩ := h2.out a ha hL
  have hcnt : R.cnt < 4294967295 := by rw [h2.cnt]; omega
  by_cases he : L = []
  · subst he
    rw [if_pos rfl]
    refine (insert_first h1 ha z1 h2.hand hcnt).mono ?_
    rintro e w' ⟨rfl, hs, hf⟩
    refine ⟨rfl, ⟨_, hs, ⟨?_, ?_, rfl, rfl, .inl (.head _), ?_, ?_, h2.pos, by simp⟩⟩, hf⟩
    · intro x hx
      simp at hx
      rw [hx]; exact ha
    · have e : ∀ f : Nat → Nat, up (up f a a) a a = up f a a := fun f => by funext y; unfold up; split <;> rfl
      simp only [e]
      exact Cy.one _ _ _
    · show R.cnt + 1 = 1
      rw [h2.cnt]; rfl
    · intro x hx hn
      have hxa : x ≠ a := by rintro rfl; exact hn (by simp)
      obtain ⟨y1, y2⟩ := h2.out x hx (by simp)
      exact ⟨by show up (up R.nx a a) a a x = 0; rw [up_other _ hxa, up_other _ hxa, y1], by show up (up R.pv a a) a a x = 0; rw [up_other _ hxa, up_other _ hxa, y2]⟩
  · rw [if_neg he]
    have hp := List.length_pos_iff.2 he
    have hc : L.getD 0 0 ∈ L := get_in hp
    have hpv := h2.cy.pv_in hc
    have hac : a ≠ L.getD 0 0 := fun q => hL (q ▸ hc)
    refine (insert_more h1 ha z1 h2.hand (h2.sub _ hc) rfl (h2.sub _ hpv) hac hcnt).mono ?_
    rintro e w' ⟨rfl, hs, hf⟩
    refine ⟨rfl, ⟨_, hs, ⟨?_, h2.cy.insert hL he rfl rfl, ?_, h2.broom, ?_, ?_, ?_, h2.pos, ?_⟩⟩, hf⟩
    · intro x hx
      rcases List.mem_append.1 hx with q | q
      · exact h2.sub x q
      · simp at q; rw [q]; exact ha
    · show R.hand = _
      rw [h2.hand, snoc_get, if_pos hp]
    · rcases h2.brm with q | ⟨q, -⟩
      · exact .inl (List.mem_append_left _ q)
      · exact absurd q he
    · show R.cnt + 1 = _
      rw [h2.cnt]; simp
    · intro x hx hn
      have hxa : x ≠ a := by rintro rfl; exact hn (by simp)
      have hxL : x ∉ L := fun q => hn (List.mem_append_left _ q)
      have hxc : x ≠ L.getD 0 0 := fun q => hxL (q ▸ hc)
      have hxp : x ≠ R.pv (L.getD 0 0) := fun q => hxL (q ▸ hpv)
      obtain ⟨y1, y2⟩ := h2.out x hx hxL
      exact ⟨by show up (up R.nx a _) _ a x = 0; rw [up_other _ hxp, up_other _ hxa, y1], by show up (up R.pv a _) _ a x = 0; rw [up_other _ hxc, up_other _ hxa, y2]⟩
    · simp; omega
theorem Rg.insert_again (d : Rg X L br w) {a : Nat} (hL : a ∈ L) :
    Calls Tryz.prog 56 #[pV X.h, .int .i64 (a : Int)] w (RgR X L br (.int .i64 8) w) := by
  obtain ⟨R, h1, h2⟩ := d
  refine (insert_linked h1 (h2.sub a hL) (h2.pos _ (h2.sub _ (h2.cy.nx_in hL)))).mono ?_
  rintro e w' ⟨rfl, hs, hf⟩
  exact ⟨rfl, ⟨R, hs, h2⟩, hf⟩
/-- Where the broom is when the entry at a place is taken out. -/
def brD (L : List Nat) (br k : Nat) : Nat := if br = L.getD k 0 then (if L.length < 2 then 0 else L.getD (sc L.length k) 0) else br
theorem Rg.remove (d : Rg X L br w) {k : Nat} (hk : k < L.length) :
    Calls Tryz.prog 48 #[pV X.h, .int .i64 ((L.getD k 0 : Nat) : Int)] w (RgR X (L.eraseIdx k) (brD L br k) (.int .i64 0) w) := by
  obtain ⟨R, h1, h2⟩ := d
  have ha := get_in hk
  have hnE := h2.cy.nx_in ha
  have hpE := h2.cy.pv_in ha
  have hh : R.hand ∈ X.E ∨ R.hand = 0 := h2.hand_in.imp (h2.sub _) (fun q => q.2)
  have hb : R.broom ∈ X.E ∨ R.broom = 0 := by rw [h2.broom]; exact h2.brm.imp (h2.sub _) (fun q => q.2)
  have hlen := h2.len
  refine (remove_any h1 (h2.sub _ ha) rfl (h2.sub _ hnE) rfl (h2.sub _ hpE) hh hb (by rw [h2.cnt]; omega) (by rw [h2.cnt]; omega)).mono ?_
  rintro e w' ⟨rfl, hs, hf⟩
  have hcy := h2.cy.remove hk rfl rfl rfl
  have hnx := h2.cy.n k hk
  have inj := fun {i j : Nat} (hi : i < L.length) (hj : j < L.length) (e : L.getD i 0 = L.getD j 0) => get_inj h2.cy.nd hi hj e
  have hself : R.nx (L.getD k 0) = L.getD k 0 ↔ L.length < 2 := by
    rw [hnx]
    constructor
    · intro q
      have := inj (sc_lt hk) hk q
      unfold sc at this
      split at this <;> omega
    · intro q
      congr 1
      unfold sc
      split <;> omega
  have hs2 : (if R.nx (L.getD k 0) = L.getD k 0 then 0 else R.nx (L.getD k 0)) = if L.length < 2 then 0 else L.getD (sc L.length k) 0 := by
    by_cases q : L.length < 2
    · rw [if_pos (hself.2 q), if_pos q]
    · rw [if_neg (fun e => q (hself.1 e)), if_neg q, hnx]
  refine ⟨rfl, ⟨_, hs, ⟨?_, hcy, ?_, ?_, ?_, ?_, ?_, h2.pos, ?_⟩⟩, hf⟩
  · intro x hx
    exact h2.sub x ((del_in h2.cy.nd hk x).1 hx).1
  · show (if R.hand = _ then _ else R.hand) = _
    rw [hs2, h2.hand, del_get]
    by_cases h0 : k = 0
    · subst h0
      rw [if_pos rfl]
      by_cases q : L.length < 2
      · rw [if_pos q]
        have e : ix 0 0 = 1 := rfl
        rw [e, List.getD, List.getElem?_eq_none (by omega)]
        rfl
      · rw [if_neg q]
        congr 1
        unfold sc ix
        rw [if_neg (by omega), if_neg (by omega)]
    · have h1 : ¬ L.getD 0 0 = L.getD k 0 := fun q => h0 (inj (by omega) hk q).symm
      rw [if_neg h1]
      congr 1
      unfold ix
      rw [if_pos (by omega)]
  · show (if R.broom = _ then _ else R.broom) = _
    rw [hs2, h2.broom]
    rfl
  · unfold brD
    rcases h2.brm with q | ⟨q, -⟩
    · by_cases e : br = L.getD k 0
      · rw [if_pos e]
        by_cases h : L.length < 2
        · rw [if_pos h]
          exact .inr ⟨List.length_eq_zero_iff.1 (by rw [del_len hk]; omega), rfl⟩
        · rw [if_neg h]
          refine .inl ((del_in h2.cy.nd hk _).2 ⟨get_in (sc_lt hk), fun q => ?_⟩)
          have := inj (sc_lt hk) hk q
          unfold sc at this
          split at this <;> omega
      · rw [if_neg e]
        exact .inl ((del_in h2.cy.nd hk _).2 ⟨q, e⟩)
    · rw [q] at hk
      simp at hk
  · show R.cnt - 1 = _
    rw [h2.cnt, del_len hk]
  · intro x hx hn
    show up (up R.nx _ _) (L.getD k 0) 0 x = 0 ∧ up (up R.pv _ _) (L.getD k 0) 0 x = 0
    by_cases e : x = L.getD k 0
    · subst e
      exact ⟨up_same _ _ _, up_same _ _ _⟩
    · have hxL : x ∉ L := fun q => hn ((del_in h2.cy.nd hk x).2 ⟨q, e⟩)
      obtain ⟨y1, y2⟩ := h2.out x hx hxL
      have n1 : x ≠ R.pv (L.getD k 0) := fun q => hxL (q ▸ hpE)
      have n2 : x ≠ R.nx (L.getD k 0) := fun q => hxL (q ▸ hnE)
      exact ⟨by rw [up_other _ e, up_other _ n1, y1], by rw [up_other _ e, up_other _ n2, y2]⟩
  · rw [del_len hk]
    omega
theorem Rg.hand (d : Rg X L br w) : Calls Tryz.prog 61 #[pV X.h] w (RgR X L br (.int .i64 ((L.getD 0 0 : Nat) : Int)) w) := by
  obtain ⟨R, h1, h2⟩ := d
  have := hand_any h1 (h2.hand_in.imp (h2.sub _) (fun q => q.2))
  rw [h2.hand] at this
  refine this.mono ?_
  rintro e w' ⟨rfl, hs, hf⟩
  exact ⟨rfl, ⟨R, hs, h2⟩, hf⟩
theorem Rg.broom (d : Rg X L br w) : Calls Tryz.prog 63 #[pV X.h] w (RgR X L br (.int .i64 (br : Int)) w) := by
  obtain ⟨R, h1, h2⟩ := d
  have := broom_any h1 (by rw [h2.broom]; exact h2.brm.imp (h2.sub _) (fun q => q.2))
  rw [h2.broom] at this
  refine this.mono ?_
  rintro e w' ⟨rfl, hs, hf⟩
  exact ⟨rfl, ⟨R, hs, h2⟩, hf⟩
theorem Rg.length (d : Rg X L br w) : Calls Tryz.prog 64 #[pV X.h] w (RgR X L br (.int .i64 (L.length : Int)) w) := by
  obtain ⟨R, h1, h2⟩ := d
  have hlen := h2.len
  have := len_any h1 (by rw [h2.cnt]; omega)
  rw [h2.cnt] at this
  refine this.mono ?_
  rintro e w' ⟨rfl, hs, hf⟩
  exact ⟨rfl, ⟨R, hs, h2⟩, hf⟩
theorem rot_head {L : List Nat} (h : L ≠ []) : (rot L).getD 0 0 = L.getD (sc L.length 0) 0 := rot_get (List.length_pos_iff.2 h)
theorem Rg.turn (d : Rg X L br w) : Calls Tryz.prog 50 #[pV X.h] w (RgR X (rot L) br (.int .i64 ((L.getD 0 0 : Nat) : Int)) w) := by
  obtain ⟨R, h1, h2⟩ := d
  have hin := h2.hand_in
  have := turn_any h1 (hin.imp (fun q => ⟨h2.sub _ q, h2.sub _ (h2.cy.nx_in q)⟩) (fun q => q.2))
  refine this.mono ?_
  rintro e w' ⟨rfl, hs, hf⟩
  rw [h2.hand] at hs ⊢
  refine ⟨rfl, ?_, hf⟩
  rcases hin with q | ⟨q, -⟩
  · rw [h2.hand] at q
    have hne : L ≠ [] := List.ne_nil_of_mem q
    rw [if_neg (h2.pos _ (h2.sub _ q))] at hs
    refine ⟨_, hs, fun x hx => h2.sub x ((rot_mem L x).1 hx), h2.cy.rot, ?_, h2.broom, h2.brm.imp (fun q => (rot_mem L _).2 q) (fun q => absurd q.1 hne), ?_, fun x hx hn => h2.out x hx (fun q => hn ((rot_mem L x).2 q)), h2.pos, by rw [rot_len]; exact h2.len⟩
    · show R.nx (L.getD 0 0) = _
      rw [rot_head hne, h2.cy.n 0 (List.length_pos_iff.2 hne)]
    · show R.cnt = _
      rw [h2.cnt, rot_len]
  · subst q
    rw [if_pos (show ([] : List Nat).getD 0 0 = 0 from rfl)] at hs
    exact ⟨R, hs, h2⟩
/-- Where the broom is behind a stroke. -/
def brN (L : List Nat) (br : Nat) : Nat := if L.length < 2 then br else L.getD (sc L.length (L.idxOf br)) 0
theorem idx_at {L : List Nat} (h : L.Nodup) {i : Nat} (hi : i < L.length) : L.idxOf (L.getD i 0) = i := by
  have e : L.getD i 0 = L[i] := by rw [List.getD, List.getElem?_eq_getElem hi]; rfl
  rw [e]
  have h1 : L.idxOf L[i] < L.length := List.idxOf_lt_length_of_mem (List.getElem_mem hi)
  exact nd_inj h h1 hi (List.getElem_idxOf h1)
theorem Rg.brush (d : Rg X L br w) : Calls Tryz.prog 52 #[pV X.h] w (RgR X L (brN L br) (.int .i64 (br : Int)) w) := by
  obtain ⟨R, h1, h2⟩ := d
  have := brush_any h1 (by rw [h2.broom]; exact h2.brm.imp (fun q => ⟨h2.sub _ q, h2.sub _ (h2.cy.nx_in q)⟩) (fun q => q.2))
  refine this.mono ?_
  rintro e w' ⟨rfl, hs, hf⟩
  rw [h2.broom] at hs ⊢
  refine ⟨rfl, ?_, hf⟩
  rcases h2.brm with q | ⟨q, rfl⟩
  · rw [if_neg (h2.pos _ (h2.sub _ q))] at hs
    obtain ⟨i, hi, hbi⟩ := at_of q
    have hnx : R.nx br = brN L br := by
      rw [← hbi, h2.cy.n i hi]
      unfold brN
      rw [idx_at h2.cy.nd hi]
      by_cases h : L.length < 2
      · rw [if_pos h]
        congr 1
        unfold sc
        split <;> omega
      · rw [if_neg h]
    refine ⟨_, hs, h2.sub, h2.cy, h2.hand, hnx, .inl ?_, h2.cnt, h2.out, h2.pos, h2.len⟩
    rw [← hnx]
    exact h2.cy.nx_in q
  · subst q
    rw [if_pos rfl] at hs
    have e : brN [] 0 = 0 := rfl
    rw [e]
    exact ⟨R, hs, h2⟩
theorem Rg.all (d : Rg X L br w) : Calls Tryz.prog 60 #[pV X.h] w fun e w' => ∃ u, RgR X L br u w e w' ∧ w'.ownsRow w.heap.size 3 1 u L.length (valsN L) := by
  obtain ⟨R, h1, h2⟩ := d
  refine (all_any h1 L h2.cy.nd h2.sub h2.len h2.hand h2.cy.n).mono ?_
  rintro e w' ⟨u, ⟨rfl, hs, hf⟩, ho⟩
  exact ⟨u, ⟨rfl, ⟨R, hs, h2⟩, hf⟩, ho⟩
end
end Go.Proofs.YtodagfhfganloaaGreatDoor.Rin

namespace Go.Proofs.YtodagfhfganloaaGreatDoor.Rin
open Go.RowKit Num
open Mem (Mm MemC MRet Hm rd blkM)
open Lis (Cf LM LR Tb at_ Nx Pv Rep Hx valsN cell_lt tab_same)
open Sla (Sl St Sx SM SR Lv pl aT pV Lo Tk Tkn Gvn Kp tkF Ts mem_lt bl_in zero_v)
open Cls (szC blC pdC)
open Arn (wrL is64)
set_option linter.unusedVariables false

/-! ### Entries -/
def eB (c : Int) : Hea.Blk := { Hea.Blk.zero with tag := 1, cls := c }
theorem eB_ok {c : Int} (h1 : 1 ≤ c) (h9 : c ≤ 9) : EOk (eB c) := by
  refine ⟨?_, .inr (.inl ⟨rfl, h1, h9, rfl, show (0 : Int) ≤ 0 by decide, show (0 : Int) ≤ 480 by decide, rfl⟩), rfl⟩
  constructor <;> simp [eB, Hea.Blk.zero, Hea.i64, Hea.u32, Hea.u64, Hea.u16] <;> omega
section
variable {h : Hm} {S N : Nat} {l0 l l' : List Int} {T T' : List Sl} {w0 w w' W W' : World} {n : Nat} {E L : List Nat} {br : Nat} {B : Nat → Hea.Blk} {R : Rv}
/-- A head is put. -/
theorem st_put (d : St h S N l l T W) {x : Nat} (hx : Lv S N T x) {b : Hea.Blk} (hb : EOk b) :
    Calls Tryz.prog 140 #[pV h, .int .i64 (x : Int), b.agg] W fun e W' => e = .returned (.int .i64 0) ∧ St h S N (wrL l x (Hea.encL b)) (wrL l x (Hea.encL b)) T W' ∧ Fr W.heap.size (blkM h) W W' := by
  obtain ⟨h1, h2, h3'⟩ := st_len d
  have hat := lv_at d hx
  have e32 := enc32 hb.tag
  obtain ⟨H, L, ⟨C, rfl, rfl, h3, h4, h5⟩, d2⟩ := d
  obtain ⟨j, k, hj, hk, rfl⟩ := hx
  refine (h4.put b hb.ok hb.right (fun lk => by rw [hb.tag]; exact room_live h5 hj hk l lk)).mono ?_
  intro e w' hr
  have hin := bl_in (mem_lt hk).1
  have hx := Sx.inside (l' := wrL l (pl (aT C.s C.n j) (T.getD j Sl.zero).c k) (Hea.encL b)) h5 hj hk (Arn.wrL_length _ _ _ (by rw [e32]; omega)) (fun t q => by
    rw [Mem.wr_get _ _ _ _ (by rw [e32]; omega), if_neg (by rw [e32]; omega)])
  exact ⟨hr.1, st_self ⟨H, L, ⟨C, rfl, rfl, h3, hr.2.1, hx⟩, d2⟩, hr.2.2⟩
theorem kp_at (hk : Kp S N T T' l l') {x : Nat} (hx : Lv S N T x) (hs : ∀ j k, j < S → k ∈ (T.getD j Sl.zero).v → x = pl (aT S N j) (T.getD j Sl.zero).c k → k ∈ (T'.getD j Sl.zero).v ∧ (T'.getD j Sl.zero).c = (T.getD j Sl.zero).c) : ∀ t, x ≤ t → t < x + 32 → l'.getD t 0 = l.getD t 0 := by
  obtain ⟨j, k, hj, hk', rfl⟩ := hx
  intro t h1 h2
  obtain ⟨g1, g2⟩ := hs j k hj hk' rfl
  have hin := bl_in (mem_lt hk').1
  have := hk j k hj hk' g1 g2 (t - pl (aT S N j) (T.getD j Sl.zero).c k) (by omega)
  rw [show pl (aT S N j) (T.getD j Sl.zero).c k + (t - pl (aT S N j) (T.getD j Sl.zero).c k) = t by omega] at this
  exact this
theorem tkn_at {c : Int} {j k : Nat} (t : Tkn S N T T' c j k) : ∀ j' k', j' < S → k' ∈ (T.getD j' Sl.zero).v → k' ∈ (T'.getD j' Sl.zero).v ∧ (T'.getD j' Sl.zero).c = (T.getD j' Sl.zero).c := by
  intro j' k' hj' hk'
  by_cases hjj : j' = j
  · subst hjj
    refine ⟨(t.mem k').2 (.inr hk'), ?_⟩
    rcases t.old with q | q
    · have := t.cls; omega
    · rw [zero_v q] at hk'; cases hk'
  · rw [t.oth j' hjj]
    exact ⟨hk', rfl⟩

/-! ### The memory within a statement -/
abbrev fx (h : Hm) (T : List Sl) (E : List Nat) (B : Nat → Hea.Blk) (lb : List Int) : Fx := ⟨h, 7, 224, T, E, B, lb⟩
structure Wr (w0 : World) (h : Hm) (n : Nat) (T : List Sl) (E L : List Nat) (br : Nat) (W : World) : Prop where
  ex : ∃ B lb, Rg (fx h T E B lb) L br W
  b : Below w0.heap.size w0 W
  kk : ∀ k, blkM h k → w0.heap.size ≤ k
  lo : Lo h n
  lc : 0 < n
  nn : n ≤ W.heap.size
  n0 : w0.heap.size ≤ n
theorem Wr.fr {L' E' : List Nat} {br' : Nat} (d : Wr w0 h n T E L br W) (hr : ∃ B lb, Rg (fx h T' E' B lb) L' br' W') (hf : Fr W.heap.size (blkM h) W W') : Wr w0 h n T' E' L' br' W' :=
  ⟨hr, d.b.trans (hf.toBelow d.b.size (fun k hk q => by have := d.kk k q; omega)), d.kk, d.lo, d.lc, Nat.le_trans d.nn hf.size, d.n0⟩
theorem Wr.below (d : Wr w0 h n T E L br W) (hb : Below W.heap.size W W') : Wr w0 h n T E L br W' := by
  obtain ⟨B, lb, hr⟩ := d.ex
  exact ⟨⟨B, lb, hr.below hb⟩, d.b.trans (hb.mono d.b.size), d.kk, d.lo, d.lc, Nat.le_trans d.nn hb.size, d.n0⟩
theorem Wr.drew (d : Wr w0 h n T E L br W) : Wr w0 h n T E L br W.drew := d.below (Below.refl _ _).drew
theorem Wr.low (d : Wr w0 h n T E L br W) (hb : Below n W W') : Wr w0 h n T E L br W' := by
  obtain ⟨B, lb, R, h1, h2⟩ := d.ex
  exact ⟨⟨B, lb, R, h1.low hb d.lo d.lc, h2⟩, d.b.trans (hb.mono d.n0), d.kk, d.lo, d.lc, Nat.le_trans d.nn hb.size, d.n0⟩
theorem Wr.ts (d : Wr w0 h n T E L br W) : Ts W ∧ TabC W := by
  obtain ⟨B, lb, R, ⟨l, h1, h2⟩, h3⟩ := d.ex
  exact ⟨h1.st.ts, h1.tc⟩
theorem Wr.nodup (d : Wr w0 h n T E L br W) : L.Nodup := by
  obtain ⟨B, lb, hr⟩ := d.ex
  exact hr.nodup
theorem Wr.sub (d : Wr w0 h n T E L br W) : ∀ x ∈ L, x ∈ E := by
  obtain ⟨B, lb, hr⟩ := d.ex
  exact hr.sub
theorem Wr.brm (d : Wr w0 h n T E L br W) : br ∈ L ∨ (L = [] ∧ br = 0) := by
  obtain ⟨B, lb, hr⟩ := d.ex
  exact hr.brm
theorem Wr.facts (d : Wr w0 h n T E L br W) {x : Nat} (hx : x ∈ E) : 128 ≤ x ∧ x % 16 = 0 ∧ x + 32 ≤ 100000 := by
  obtain ⟨B, lb, hr⟩ := d.ex
  exact hr.facts hx
theorem Wr.tk (d : Wr w0 h n T E L br W) : Tk 7 T := by
  obtain ⟨B, lb, R, ⟨l, h1, h2⟩, h3⟩ := d.ex
  exact h1.st.tk
theorem Wr.insert (d : Wr w0 h n T E L br W) {a : Nat} (ha : a ∈ E) (hL : a ∉ L) (hl : L.length < 10000) : Calls Tryz.prog 56 #[pV h, .int .i64 (a : Int)] W fun e W' => e = .returned (.int .i64 0) ∧ Wr w0 h n T E (L ++ [a]) (if L = [] then a else br) W' ∧ Fr W.heap.size (blkM h) W W' := by
  obtain ⟨B, lb, hr⟩ := d.ex
  refine (hr.insert ha hL hl).mono ?_
  rintro e w' ⟨rfl, h1, hf⟩
  exact ⟨rfl, d.fr ⟨B, lb, h1⟩ hf, hf⟩
theorem Wr.insert_again (d : Wr w0 h n T E L br W) {a : Nat} (hL : a ∈ L) : Calls Tryz.prog 56 #[pV h, .int .i64 (a : Int)] W fun e W' => e = .returned (.int .i64 8) ∧ Wr w0 h n T E L br W' ∧ Fr W.heap.size (blkM h) W W' := by
  obtain ⟨B, lb, hr⟩ := d.ex
  refine (hr.insert_again hL).mono ?_
  rintro e w' ⟨rfl, h1, hf⟩
  exact ⟨rfl, d.fr ⟨B, lb, h1⟩ hf, hf⟩
theorem Wr.remove (d : Wr w0 h n T E L br W) {k : Nat} (hk : k < L.length) : Calls Tryz.prog 48 #[pV h, .int .i64 ((L.getD k 0 : Nat) : Int)] W fun e W' => e = .returned (.int .i64 0) ∧ Wr w0 h n T E (L.eraseIdx k) (brD L br k) W' ∧ Fr W.heap.size (blkM h) W W' := by
  obtain ⟨B, lb, hr⟩ := d.ex
  refine (hr.remove hk).mono ?_
  rintro e w' ⟨rfl, h1, hf⟩
  exact ⟨rfl, d.fr ⟨B, lb, h1⟩ hf, hf⟩
theorem Wr.hand (d : Wr w0 h n T E L br W) : Calls Tryz.prog 61 #[pV h] W fun e W' => e = .returned (.int .i64 ((L.getD 0 0 : Nat) : Int)) ∧ Wr w0 h n T E L br W' ∧ Fr W.heap.size (blkM h) W W' := by
  obtain ⟨B, lb, hr⟩ := d.ex
  refine hr.hand.mono ?_
  rintro e w' ⟨rfl, h1, hf⟩
  exact ⟨rfl, d.fr ⟨B, lb, h1⟩ hf, hf⟩
theorem Wr.broom (d : Wr w0 h n T E L br W) : Calls Tryz.prog 63 #[pV h] W fun e W' => e = .returned (.int .i64 (br : Int)) ∧ Wr w0 h n T E L br W' ∧ Fr W.heap.size (blkM h) W W' := by
  obtain ⟨B, lb, hr⟩ := d.ex
  refine hr.broom.mono ?_
  rintro e w' ⟨rfl, h1, hf⟩
  exact ⟨rfl, d.fr ⟨B, lb, h1⟩ hf, hf⟩
theorem Wr.length (d : Wr w0 h n T E L br W) : Calls Tryz.prog 64 #[pV h] W fun e W' => e = .returned (.int .i64 (L.length : Int)) ∧ Wr w0 h n T E L br W' ∧ Fr W.heap.size (blkM h) W W' := by
  obtain ⟨B, lb, hr⟩ := d.ex
  refine hr.length.mono ?_
  rintro e w' ⟨rfl, h1, hf⟩
  exact ⟨rfl, d.fr ⟨B, lb, h1⟩ hf, hf⟩
theorem Wr.turn (d : Wr w0 h n T E L br W) : Calls Tryz.prog 50 #[pV h] W fun e W' => e = .returned (.int .i64 ((L.getD 0 0 : Nat) : Int)) ∧ Wr w0 h n T E (rot L) br W' ∧ Fr W.heap.size (blkM h) W W' := by
  obtain ⟨B, lb, hr⟩ := d.ex
  refine hr.turn.mono ?_
  rintro e w' ⟨rfl, h1, hf⟩
  exact ⟨rfl, d.fr ⟨B, lb, h1⟩ hf, hf⟩
theorem Wr.brush (d : Wr w0 h n T E L br W) : Calls Tryz.prog 52 #[pV h] W fun e W' => e = .returned (.int .i64 (br : Int)) ∧ Wr w0 h n T E L (brN L br) W' ∧ Fr W.heap.size (blkM h) W W' := by
  obtain ⟨B, lb, hr⟩ := d.ex
  refine hr.brush.mono ?_
  rintro e w' ⟨rfl, h1, hf⟩
  exact ⟨rfl, d.fr ⟨B, lb, h1⟩ hf, hf⟩
theorem Wr.all (d : Wr w0 h n T E L br W) : Calls Tryz.prog 60 #[pV h] W fun e W' => ∃ u, e = .returned u ∧ Wr w0 h n T E L br W' ∧ Fr W.heap.size (blkM h) W W' ∧ W'.ownsRow W.heap.size 3 1 u L.length (valsN L) := by
  obtain ⟨B, lb, hr⟩ := d.ex
  refine hr.all.mono ?_
  rintro e w' ⟨u, ⟨rfl, h1, hf⟩, ho⟩
  exact ⟨u, rfl, d.fr ⟨B, lb, h1⟩ hf, hf, ho⟩
theorem Wr.faults (d : Wr w0 h n T E L br W) (hz : h.z = false) : Calls Tryz.prog 21 #[pV h] W fun e W' => e = .returned (.int .i64 0) ∧ Below W.heap.size W W' := by
  obtain ⟨B, lb, R, ⟨l, h1, h2⟩, h3⟩ := d.ex
  exact h1.st.faults hz

/-! ### A block is taken, and an entry put -/
theorem Wr.take (d : Wr w0 h n T E L br W) (c : Int) : Calls Tryz.prog 14 #[pV h, .int .i64 c] W fun e W' =>
    (∃ x er, er ≠ 0 ∧ (tkF 7 224 T c).1.2 = er ∧ e = .returned (.tuple #[.int .i64 x, .int .i64 er]) ∧ Wr w0 h n T E L br W' ∧ Fr W.heap.size (blkM h) W W') ∨
    (∃ a : Nat, (tkF 7 224 T c).1 = ((a : Int), 0) ∧ e = .returned (.tuple #[.int .i64 (a : Int), .int .i64 0]) ∧ a ∉ E ∧ Lv 7 224 (tkF 7 224 T c).2 a ∧ 1 ≤ c ∧ c ≤ 9 ∧ Wr w0 h n (tkF 7 224 T c).2 E L br W' ∧ Fr W.heap.size (blkM h) W W') := by
  obtain ⟨B, lb, R, ⟨l, h1, h2⟩, h3⟩ := d.ex
  refine (h1.st.take c).mono ?_
  rintro e W' ⟨l', he, hs, hf, hk, hz⟩
  have hlow := fun t (q1 : 60 ≤ t) (q2 : t < 72) => st_low hs q1 (by omega)
  have hlen : l'.length = l.length := (st_len hs).1.trans (st_len h1.st).1.symm
  have htc := tabC_fr h1.tc h1.st hf
  rcases Sla.tk_spec (N := 224) h1.st.tk c with ⟨q1, q2⟩ | ⟨q1, j, k, q2, q3⟩
  · rw [q2] at hs hk
    have hrb := h1.rb.same hlen hlow (fun x hx => kp_at hk (h1.lv x hx) (fun j k _ hk' _ => ⟨hk', rfl⟩))
    exact .inl ⟨_, _, q1, rfl, he, d.fr ⟨B, l', R, ⟨l', ⟨st_self hs, h1.lv, hrb, htc⟩, Nr.refl _ _⟩, h3⟩ hf, hf⟩
  · have hrb := h1.rb.same hlen hlow (fun x hx => kp_at hk (h1.lv x hx) (fun j' k' hj' hk' _ => tkn_at q3 j' k' hj' hk'))
    have hlv := fun x hx => (q3.lv h1.st.tk x).2 (.inr (h1.lv x hx))
    refine .inr ⟨_, ?_, ?_, fun q => q3.fresh (h1.lv _ q), (q3.lv h1.st.tk _).2 (.inl rfl), q3.c1, q3.c9, d.fr ⟨B, l', R, ⟨l', ⟨st_self hs, hlv, hrb, htc⟩, Nr.refl _ _⟩, h3⟩ hf, hf⟩
    · rw [← q2, ← q1]
    · rw [he, q1, q2]
theorem wr_part32 {l X : List Int} {a : Nat} (hX : X.length = 32) (ha : a + 32 ≤ l.length) : ((wrL l a X).drop a).take 32 = X := by
  have := Mem.wr_part l X a (by rw [hX]; exact ha)
  rw [hX] at this
  exact this
/-- An entry's head is put into a new block. -/
theorem Wr.put (d : Wr w0 h n T E L br W) {a : Nat} (ha : a ∉ E) (hlv : Lv 7 224 T a) {b : Hea.Blk} (hb : EOk b) (n0 : b.next = 0) (p0 : b.prev = 0) :
    Calls Tryz.prog 140 #[pV h, .int .i64 (a : Int), b.agg] W fun e W' => e = .returned (.int .i64 0) ∧ Wr w0 h n T (a :: E) L br W' ∧ Fr W.heap.size (blkM h) W W' := by
  obtain ⟨B, lb, R, ⟨l, h1, h2⟩, h3⟩ := d.ex
  have hlen := st_len h1.st
  have hat := lv_at h1.st hlv
  have e32 := enc32 hb.tag
  refine (st_put h1.st hlv hb).mono ?_
  rintro e W' ⟨rfl, hs, hf⟩
  have hget := fun t => Mem.wr_get l (Hea.encL b) a t (by rw [e32]; omega)
  have hrb := h1.rb.same (l' := wrL l a (Hea.encL b)) (Arn.wrL_length _ _ _ (by rw [e32]; omega)) (fun t q1 q2 => by rw [hget, if_neg (by rw [e32]; omega)]) (fun x hx t q1 q2 => by
    have := lv_apart (h1.lv x hx) hlv (by rintro rfl; exact ha hx)
    rw [hget, if_neg (by rw [e32]; omega)])
  have hne : ∀ x ∈ E, x ≠ a := by rintro x hx rfl; exact ha hx
  have hB : ∀ x ∈ E, bl (fun y => if y = a then b else B y) { R with nx := up R.nx a 0, pv := up R.pv a 0 } x = bl B R x := fun x hx => by
    unfold bl
    simp only [if_neg (hne x hx), up_other _ (hne x hx)]
  have hBa : bl (fun y => if y = a then b else B y) { R with nx := up R.nx a 0, pv := up R.pv a 0 } a = b := by
    unfold bl
    simp only [if_pos trivial, up_same]
    obtain ⟨q1, q2, q3, q4, q5, q6, q7, q8, q9, q10, q11, q12⟩ := b
    simp only at n0 p0
    subst n0 p0
    rfl
  refine ⟨rfl, d.fr ⟨(fun y => if y = a then b else B y), wrL l a (Hea.encL b), { R with nx := up R.nx a 0, pv := up R.pv a 0 }, ⟨_, ⟨hs, fun x hx => ?_, ⟨fun x hx => ?_, fun x hx => ?_, hrb.hand, hrb.broom, hrb.cnt⟩, tabC_fr h1.tc h1.st hf⟩, Nr.refl _ _⟩, ?_⟩ hf, hf⟩
  · rcases List.mem_cons.1 hx with rfl | hx
    · exact hlv
    · exact h1.lv x hx
  · rcases List.mem_cons.1 hx with rfl | hx
    · rw [hBa]
      exact wr_part32 e32 (by omega)
    · rw [hB x hx]
      exact hrb.ent x hx
  · rcases List.mem_cons.1 hx with rfl | hx
    · refine ⟨by simp only [if_pos trivial]; exact hb, ?_, ?_⟩
      · show up R.nx x 0 x < _
        rw [up_same]; omega
      · show up R.pv x 0 x < _
        rw [up_same]; omega
    · obtain ⟨g1, g2, g3⟩ := hrb.ok x hx
      refine ⟨by simp only [if_neg (hne x hx)]; exact g1, ?_, ?_⟩
      · show up R.nx a 0 x < _
        rw [up_other _ (hne x hx)]; exact g2
      · show up R.pv a 0 x < _
        rw [up_other _ (hne x hx)]; exact g3
  · exact Rp.more (R := { R with nx := up R.nx a 0, pv := up R.pv a 0 }) (h3.congr rfl rfl rfl (fun x hx => ⟨up_other _ (hne x hx), up_other _ (hne x hx)⟩)) (by have := hat.1; omega) ⟨up_same _ _ _, up_same _ _ _⟩
set_option maxRecDepth 100000 in
theorem Wr.entry (d : Wr w0 h n T E L br W) (c : Int) : Calls Tryz.prog 59 #[pV h, .int .i64 c] W fun e W' =>
    ((tkF 7 224 T c).1.2 ≠ 0 ∧ e = .returned (.int .i64 0) ∧ Wr w0 h n T E L br W' ∧ Fr W.heap.size (blkM h) W W') ∨
    (∃ a : Nat, (tkF 7 224 T c).1 = ((a : Int), 0) ∧ e = .returned (.int .i64 (a : Int)) ∧ a ∉ E ∧ Wr w0 h n (tkF 7 224 T c).2 (a :: E) L br W' ∧ Fr W.heap.size (blkM h) W W') := by
  have HT := Lib.hid (d.take c)
  have HP := Lib.hid (fun (a : Nat) W' (hW : Wr w0 h n (tkF 7 224 T c).2 E L br W') (ha : a ∉ E) (hlv : Lv 7 224 (tkF 7 224 T c).2 a) (h1 : 1 ≤ c) (h9 : c ≤ 9) => hW.put ha hlv (eB_ok h1 h9) rfl rfl)
  generalize tkF 7 224 T c = q at HT HP ⊢
  clear d
  unfold eB Hea.Blk.zero Hea.Blk.agg at HP
  simp only at HP
  unfold pV at *
  go_enter Tryz.func59, Tryz.ntmps59
  go_wp2_with fail
  refine HT.out.mono ?_
  rintro e w1 (⟨x, er, hne, her, rfl, hd, hf⟩ | ⟨a, hq, rfl, haE, hlv, h1, h9, hd, hf⟩)
  · have hne1 : (er == 0) = false := by simpa using hne
    have hne2 : (er != 0) = true := by rw [bne, hne1]; rfl
    have HE : Hid (q.1.2 ≠ 0 ∧ Wr w0 h n T E L br w1 ∧ Fr W.heap.size (blkM h) W w1) := ⟨by rw [her]; exact hne, hd, hf⟩
    clear hne her hd hf HT HP
    go_wp2
    go_ret
    exact .inl ⟨HE.out.1, rfl, HE.out.2⟩
  · have HP1 := Lib.hid (HP.out a w1 hd haE hlv h1 h9)
    have HF := Lib.hid hf
    have HQ : Hid (q.1 = ((a : Int), 0) ∧ a ∉ E) := ⟨hq, haE⟩
    clear hd hf HT HP hq haE hlv h1 h9
    go_wp2_with fail
    refine HP1.out.mono ?_
    rintro e w2 ⟨rfl, hd2, hf2⟩
    have HE : Hid (Wr w0 h n q.2 (a :: E) L br w2 ∧ Fr W.heap.size (blkM h) W w2) := ⟨hd2, HF.out.trans (hf2.mono HF.out.size (fun _ _ q => q))⟩
    clear hd2 hf2 HP1
    go_wp2
    go_ret
    exact .inr ⟨a, HQ.out.1, rfl, HQ.out.2, HE.out⟩
end
end Go.Proofs.YtodagfhfganloaaGreatDoor.Rin

namespace Go.Proofs.YtodagfhfganloaaGreatDoor.Rin
open Go.RowKit Num
open Mem (Mm MemC MRet Hm rd blkM)
open Lis (Cf LM LR Tb at_ Nx Pv Rep Hx valsN cell_lt tab_same ints)
open Sla (Sl St Sx SM SR Lv pl aT pV Lo Tk Tkn Gvn Kp tkF Ts mem_lt bl_in zero_v OwnI X0 X1 X2)
open Cls (szC blC pdC)
open Arn (wrL is64)
set_option linter.unusedVariables false

def bk (R : Rv) (k : Nat) : Rv := { R with hand := if 1 ≤ k then 0 else R.hand, broom := if 2 ≤ k then 0 else R.broom }
theorem bk_step (R : Rv) {k : Nat} (hk : k < 2) : (bk R k).setW (13 + (k : Int)) 0 = bk R (k + 1) := by
  rcases (show k = 0 ∨ k = 1 by omega) with rfl | rfl <;> simp [bk, Rv.setW]
section
variable {h : Hm} {S N : Nat} {l0 l l' : List Int} {T T' : List Sl} {w0 w w' W W' : World} {n : Nat} {E L : List Nat} {br : Nat} {B : Nat → Hea.Blk} {R : Rv}
theorem rd4_nat {l : List Int} (hl : Arn.IsBytes l) (a : Nat) : ∃ v : Nat, rd l a 4 = (v : Int) := by
  have := (Mem.rd_bd hl a 4).1
  exact ⟨(rd l a 4).toNat, by omega⟩
set_option maxRecDepth 100000 in
theorem begin_any (d : St h S N l l T w) (tc : TabC w) (B : Nat → Hea.Blk) : Calls Tryz.prog 126 #[pV h] w fun e w' => e = .returned (.int .i64 0) ∧ (∃ lb, Rg ⟨h, S, N, T, [], B, lb⟩ [] 0 w') ∧ Fr w.heap.size (blkM h) w w' := by
  obtain ⟨v1, hv1⟩ := rd4_nat (st_bytes d) 60
  obtain ⟨v2, hv2⟩ := rd4_nat (st_bytes d) 64
  obtain ⟨v3, hv3⟩ := rd4_nat (st_bytes d) 68
  obtain ⟨R, hR⟩ : ∃ R : Rv, R = ⟨v1, v2, v3, fun _ => 0, fun _ => 0⟩ := ⟨_, rfl⟩
  have hd : Rs ⟨h, S, N, T, [], B, l⟩ R w := ⟨l, ⟨d, fun x hx => (by cases hx), ⟨fun x hx => (by cases hx), fun x hx => (by cases hx), by rw [hR]; exact hv1, by rw [hR]; exact hv2, by rw [hR]; exact hv3⟩, tc⟩, Nr.refl _ _⟩
  obtain ⟨X, hX⟩ : ∃ X : Fx, X = ⟨h, S, N, T, [], B, l⟩ := ⟨_, rfl⟩
  rw [← hX] at hd
  have eh : h = X.h := by rw [hX]
  have HM := Lib.hid (made_any hd)
  have HSr := Lib.hid (fun (k : Nat) (hk : k < 2) W (hW : Rs X (bk R k) W) => hW.setRoot (f := 13 + (k : Int)) (by omega) (v := 0) (by omega))
  have HSl := Lib.hid (fun W (hW : Rs X (bk R 2) W) => hW.setRoot (f := 15) (.inr (.inr rfl)) (v := 0) (by omega))
  have HSt := Lib.hid (fun (k : Nat) (hk : k < 2) => bk_step R hk)
  have HD : Hid (Rs X (bk R 0) w) := hd
  have HEnd : Hid (∀ W', RsR X ((bk R 2).setW 15 0) (.int .i64 0) w (.returned (.int .i64 0)) W' → (∃ lb, Rg ⟨h, S, N, T, [], B, lb⟩ [] 0 W') ∧ Fr w.heap.size (blkM h) w W') := fun W' hq => by
    obtain ⟨-, hs, hf⟩ := hq
    rw [hX] at hs hf
    exact ⟨⟨l, _, hs, Rp.start [] (fun x hx => (by cases hx)) _ rfl rfl rfl (fun x hx => (by cases hx))⟩, hf⟩
  rw [show ((0 : Nat) : Int) = 0 from rfl] at HSr HSl
  obtain ⟨t0, t1⟩ := tc.cell
  have Ht := Lib.hid tc
  rw [eh]
  rw [eh] at HEnd
  clear hv1 hv2 hv3 hR hd eh hX d tc
  generalize (bk R 2).setW 15 0 = R9 at HSl HEnd
  unfold pV at *
  go_enter Tryz.func126, Tryz.ntmps126
  go_wp2_with fail
  refine HM.out.mono ?_
  rintro e w1 ⟨rfl, hb1⟩
  obtain ⟨t0, t1⟩ := (Ht.out.keep hb1).cell
  have HD1 : Hid (Rs X (bk R 0) w1 ∧ Fr w.heap.size (blkM X.h) w w1) := ⟨HD.out.below hb1, Fr.of_below hb1⟩
  clear hb1 HM HD
  go_wp2
  clear t0 t1
  go_loopw [9] (fun i wr => ∃ k : Nat, k ≤ 2 ∧ i = .int .i64 k ∧ Hid (Rs X (bk R k) wr ∧ Fr w.heap.size (blkM X.h) w wr)) (fun i _ => 2 - (intOf i).toNat)
  case atStart => exact ⟨0, Nat.zero_le _, rfl, HD1.out⟩
  case round =>
    obtain ⟨k, hk, rfl, HR⟩ := hrel
    by_cases hlt : k < 2
    · have hlt1 : (k : Int) < 2 := by omega
      have hlt0 : (0 : Int) ≤ (k : Int) := by omega
      have hix := fun u => index_cur hlt u
      have HS1 := Lib.hid (HSr.out k hlt _ HR.out.1)
      rw [HSt.out k hlt] at HS1
      generalize (13 + (k : Int)) = c at HS1 hix
      go_wp2_with fail
      refine HS1.out.mono ?_
      rintro e w3 hq
      obtain rfl := hq.1
      have HR2 : Hid (Rs X (bk R (k + 1)) w3 ∧ Fr w.heap.size (blkM X.h) w w3) := ⟨hq.2.1, HR.out.2.trans (hq.2.2.mono HR.out.2.size (fun _ _ q => q))⟩
      clear hq HS1 HR
      go_wp2
      go_roundw
      case rel => exact ⟨k + 1, by omega, by go_num, HR2.out⟩
      case measure => simp [intOf]; omega
    · obtain rfl : k = 2 := by omega
      go_wp2_with fail
      refine (HSl.out _ HR.out.1).mono ?_
      rintro e w3 hq
      obtain rfl := hq.1
      have HE := Lib.hid (HEnd.out w3 ⟨rfl, hq.2.1, HR.out.2.trans (hq.2.2.mono HR.out.2.size (fun _ _ q => q))⟩)
      clear hq HSl HR HSr HSt
      go_wp2
      go_ret
      exact ⟨rfl, HE.out⟩
set_option maxRecDepth 100000 in
theorem fresh_any (z : Bool) (w : World) (ht : Ts w) (tc : TabC w) : Calls Tryz.prog 46 #[] w fun e w' => ∃ h, e = .returned (pV h) ∧ h.z = z ∧ Wr w h w'.heap.size X0 [] [] 0 w' ∧ Below w.heap.size w w' := by
  have hr : Lay.rightC ((7 : Nat) : Int) ((224 : Nat) : Int) = true := by decide
  have HN := Lib.hid (Sla.new_z z 7 224 w hr ht.t ht.h)
  have HB := Lib.hid (fun h W (d : SM h (Lis.newCf 7 224) (Sla.newL 7 224) W) => Sla.begin_any (fun t ht => Sla.newL_far 7 224 ht) hr d)
  have HR := Lib.hid (fun (h : Hm) (l : List Int) (T : List Sl) W (d : St h 7 224 l l T W) (t : TabC W) => begin_any d t (fun _ => Hea.Blk.zero))
  have HT := Lib.hid tc
  rw [show ((7 : Nat) : Int) = 7 from rfl, show ((224 : Nat) : Int) = 224 from rfl] at HN
  change Hid (∀ h W, _ → Calls _ _ _ _ fun e w' => ∃ l', _ ∧ St h 7 224 l' l' X0 w' ∧ _) at HB
  generalize X0 = Y0 at *
  clear ht tc hr
  unfold pV at *
  go_enter Tryz.func46, Tryz.ntmps46
  go_wp2_with fail
  refine HN.out.mono ?_
  rintro e w1 ⟨h, rfl, hd1, hb1, hk, hz⟩
  have HZ := Lib.hid hz
  have HK := Lib.hid hk
  have HB1 := Lib.hid hb1
  clear hz hk hb1 HN
  go_wp2_with fail
  refine (HB.out _ _ hd1).mono ?_
  rintro e w2 ⟨l2, rfl, hd2, hf2⟩
  have HB2 := Lib.hid (HB1.out.trans (hf2.toBelow HB1.out.size (fun k hlt q => by have := HK.out k q; omega)))
  have HT2 := Lib.hid (HT.out.keep HB2.out)
  clear hf2 HB hd1 HB1
  go_wp2_with fail
  refine (HR.out _ _ _ _ hd2 HT2.out).mono ?_
  rintro e w3 ⟨rfl, ⟨lb, hg3⟩, hf3⟩
  have HB3 := Lib.hid (HB2.out.trans (hf3.toBelow HB2.out.size (fun k hlt q => by have := HK.out k q; omega)))
  have HE : Hid (Wr w h w3.heap.size Y0 [] [] 0 w3) := by
    obtain ⟨R, h1, h2⟩ := id hg3
    exact ⟨⟨_, lb, hg3⟩, HB3.out, HK.out, h1.lo.1, h1.lo.2, Nat.le_refl _, HB3.out.size⟩
  clear hf3 hg3 hd2 HR HB2 HT2 HT
  go_wp2
  go_ret
  exact ⟨h, rfl, HZ.out, HE.out, HB3.out⟩
end
end Go.Proofs.YtodagfhfganloaaGreatDoor.Rin

namespace Go.Proofs.YtodagfhfganloaaGreatDoor.Rin
open Go.RowKit Num
open Mem (Mm MemC MRet Hm rd blkM)
open Lis (valsN ints)
open Sla (Sl St Lv pl aT pV Lo Tk tkF Ts OwnI X0 X1 X2)
open Arn (wrL is64)
set_option linter.unusedVariables false

def Z3 : List Sl := (tkF 7 224 X2 2).2
def Z4 : List Sl := (tkF 7 224 Z3 1).2
set_option maxRecDepth 100000 in
theorem exz3 : (tkF 7 224 X2 2).1 = (((2160 : Nat) : Int), 0) := by kernel_rfl
set_option maxRecDepth 100000 in
theorem exz4 : (tkF 7 224 Z3 1).1 = (((1200 : Nat) : Int), 0) := by kernel_rfl
section
variable {h : Hm} {T : List Sl} {w0 w w' W W' : World} {n : Nat} {E L : List Nat} {br : Nat}
theorem Wr.entry_yes (d : Wr w0 h n T E L br W) {c : Int} {a : Nat} (he : (tkF 7 224 T c).1 = ((a : Int), 0)) : Calls Tryz.prog 59 #[pV h, .int .i64 c] W fun e W' =>
    e = .returned (.int .i64 (a : Int)) ∧ a ∉ E ∧ Wr w0 h n (tkF 7 224 T c).2 (a :: E) L br W' ∧ Fr W.heap.size (blkM h) W W' := by
  refine (d.entry c).mono ?_
  rintro e W' (⟨q, -⟩ | ⟨a', q, rfl, h1, h2, h3⟩)
  · rw [he] at q
    exact absurd rfl q
  · rw [he] at q
    have : a' = a := by
      have := congrArg Prod.fst q
      simp only at this
      omega
    subst this
    exact ⟨rfl, h1, h2, h3⟩
theorem own_row {u : Value} {A : List Nat} (r : OwnI n W u A) (hA : ∀ x ∈ A, x ≤ 100000) : Row .i64 W u (ints A) := (r.row hA).1
set_option maxRecDepth 100000 in
set_option maxHeartbeats 4000000 in
theorem turns_any (w : World) (ht : Ts w) (tc : TabC w) : Calls Tryz.prog 45 #[] w fun e w' => e = .returned (.bool true) ∧ Below w.heap.size w w' := by
  have HF := Lib.hid (fresh_any false w ht tc)
  have e1 := fun h n W (d : Wr w h n X0 [] [] 0 W) => d.entry_yes (c := 1) (a := 1136) Sla.ex1
  have e2 := fun h n W (d : Wr w h n X1 [1136] [] 0 W) => d.entry_yes (c := 1) (a := 1168) Sla.ex2
  have e3 := fun h n W (d : Wr w h n X2 [1168, 1136] [] 0 W) => d.entry_yes (c := 2) (a := 2160) exz3
  have e4 := fun h n W (d : Wr w h n Z3 [2160, 1168, 1136] [] 0 W) => d.entry_yes (c := 1) (a := 1200) exz4
  change ∀ h n W, _ → Calls _ _ _ _ fun e w' => _ ∧ _ ∧ Wr w h n X1 _ _ _ w' ∧ _ at e1
  change ∀ h n W, _ → Calls _ _ _ _ fun e w' => _ ∧ _ ∧ Wr w h n X2 _ _ _ w' ∧ _ at e2
  change ∀ h n W, _ → Calls _ _ _ _ fun e w' => _ ∧ _ ∧ Wr w h n Z3 _ _ _ w' ∧ _ at e3
  change ∀ h n W, _ → Calls _ _ _ _ fun e w' => _ ∧ _ ∧ Wr w h n Z4 _ _ _ w' ∧ _ at e4
  obtain ⟨E4, hE4⟩ : ∃ E4 : List Nat, E4 = [1200, 2160, 1168, 1136] := ⟨_, rfl⟩
  rw [← hE4] at e4
  have i1 := fun h n W (d : Wr w h n Z4 E4 [] 0 W) => d.insert (a := 1136) (by rw [hE4]; decide) (by decide) (by decide)
  have i2 := fun h n W (d : Wr w h n Z4 E4 [1136] 1136 W) => d.insert (a := 1168) (by rw [hE4]; decide) (by decide) (by decide)
  have i3 := fun h n W (d : Wr w h n Z4 E4 [1136, 1168] 1136 W) => d.insert (a := 2160) (by rw [hE4]; decide) (by decide) (by decide)
  have al := fun h n W (d : Wr w h n Z4 E4 [1136, 1168, 2160] 1136 W) => d.all
  have tu := fun h n W (d : Wr w h n Z4 E4 [1136, 1168, 2160] 1136 W) => d.turn
  have i4 := fun h n W (d : Wr w h n Z4 E4 [1168, 2160, 1136] 1136 W) => d.insert (a := 1200) (by rw [hE4]; decide) (by decide) (by decide)
  have al2 := fun h n W (d : Wr w h n Z4 E4 [1168, 2160, 1136, 1200] 1136 W) => d.all
  have bro := fun h n W (d : Wr w h n Z4 E4 [1168, 2160, 1136, 1200] 1136 W) => d.broom
  have lne := fun h n W (d : Wr w h n Z4 E4 [1168, 2160, 1136, 1200] 1136 W) => d.length
  have ia := fun h n W (d : Wr w h n Z4 E4 [1168, 2160, 1136, 1200] 1136 W) => d.insert_again (a := 1136) (by decide)
  have fa := fun h n W (d : Wr w h n Z4 E4 [1168, 2160, 1136, 1200] 1136 W) (hz : h.z = false) => d.faults hz
  have s1 := fun W u v (h1 : Row .i64 W u (ints [1136, 1168, 2160])) (h2 : Row .i64 W v (ints [1136, 1168, 2160])) => Lis.refSame_any u v _ W h1 h2
  have s2 := fun W u v (h1 : Row .i64 W u (ints [1168, 2160, 1136, 1200])) (h2 : Row .i64 W v (ints [1168, 2160, 1136, 1200])) => Lis.refSame_any u v _ W h1 h2
  clear hE4
  change ∀ h n W, _ → Calls _ _ _ _ fun e w' => _ ∧ Wr w h n Z4 E4 [1136] 1136 w' ∧ _ at i1
  change ∀ h n W, _ → Calls _ _ _ _ fun e w' => _ ∧ Wr w h n Z4 E4 [1136, 1168] 1136 w' ∧ _ at i2
  change ∀ h n W, _ → Calls _ _ _ _ fun e w' => _ ∧ Wr w h n Z4 E4 [1136, 1168, 2160] 1136 w' ∧ _ at i3
  change ∀ h n W, _ → Calls _ _ _ _ fun e w' => e = .returned (.int .i64 ((1136 : Nat) : Int)) ∧ Wr w h n Z4 E4 [1168, 2160, 1136] 1136 w' ∧ _ at tu
  change ∀ h n W, _ → Calls _ _ _ _ fun e w' => _ ∧ Wr w h n Z4 E4 [1168, 2160, 1136, 1200] 1136 w' ∧ _ at i4
  change ∀ h n W, _ → Calls _ _ _ _ fun e w' => e = .returned (.int .i64 ((4 : Nat) : Int)) ∧ _ at lne
  have c1 : ((1136 : Nat) : Int) = 1136 := rfl
  have c2 : ((1168 : Nat) : Int) = 1168 := rfl
  have c3 : ((2160 : Nat) : Int) = 2160 := rfl
  have c4 : ((1200 : Nat) : Int) = 1200 := rfl
  have c5 : ((4 : Nat) : Int) = 4 := rfl
  rw [c1] at e1 i1 tu ia
  rw [c2] at e2 i2
  rw [c3] at e3 i3
  rw [c4] at e4 i4
  rw [c5] at lne
  have bro' : ∀ h n W, Wr w h n Z4 E4 [1168, 2160, 1136, 1200] 1136 W → Calls Tryz.prog 63 #[pV h] W fun e W' => e = .returned (.int .i64 1136) ∧ Wr w h n Z4 E4 [1168, 2160, 1136, 1200] 1136 W' ∧ Fr W.heap.size (blkM h) W W' := bro
  have HE1 := Lib.hid e1
  have HE2 := Lib.hid e2
  have HE3 := Lib.hid e3
  have HE4 := Lib.hid e4
  have HI1 := Lib.hid i1
  have HI2 := Lib.hid i2
  have HI3 := Lib.hid i3
  have HI4 := Lib.hid i4
  have HAl := Lib.hid al
  have HTu := Lib.hid tu
  have HAl2 := Lib.hid al2
  have HBr := Lib.hid bro'
  have HLe := Lib.hid lne
  have HIa := Lib.hid ia
  have HFa := Lib.hid fa
  have HS1 := Lib.hid s1
  have HS2 := Lib.hid s2
  clear e1 e2 e3 e4 i1 i2 i3 i4 al tu al2 bro bro' lne ia fa s1 s2 c1 c2 c3 c4 c5 ht tc
  generalize X0 = Y0 at *
  generalize X1 = Y1 at *
  generalize X2 = Y2 at *
  generalize Z3 = Y3 at *
  generalize Z4 = Y4 at *
  have b3 : ∀ x ∈ [1136, 1168, 2160], x ≤ 100000 := by decide
  have b4 : ∀ x ∈ [1168, 2160, 1136, 1200], x ≤ 100000 := by decide
  have lit3 : ∀ W : World, Row .i64 (W.alloc (.cells #[.int .i64 1136, .int .i64 1168, .int .i64 2160] 3)) (.slice (some ⟨W.heap.size, 0, none⟩) 3 3) (ints [1136, 1168, 2160]) := fun W => by
    exact Row.made W (ints [1136, 1168, 2160]) _ _ rfl (by decide) (by decide)
  have lit4 : ∀ W : World, Row .i64 (W.alloc (.cells #[.int .i64 1168, .int .i64 2160, .int .i64 1136, .int .i64 1200] 3)) (.slice (some ⟨W.heap.size, 0, none⟩) 4 4) (ints [1168, 2160, 1136, 1200]) := fun W => by
    exact Row.made W (ints [1168, 2160, 1136, 1200]) _ _ rfl (by decide) (by decide)
  have Hl3 := Lib.hid lit3
  have Hl4 := Lib.hid lit4
  have HB3 := Lib.hid b3
  have HB4 := Lib.hid b4
  clear lit3 lit4 b3 b4
  unfold pV at *
  go_enter Tryz.func45, Tryz.ntmps45
  go_wp2_with fail
  refine HF.out.mono ?_
  rintro e w1 ⟨h, rfl, hz, hd1, hb1⟩
  have HZ := Lib.hid hz
  obtain ⟨n, hn⟩ : ∃ n, n = w1.heap.size := ⟨_, rfl⟩
  rw [← hn] at hd1
  have HN1 : Hid (n ≤ w1.heap.size) := by unfold Hid; omega
  clear hz hb1 HF hn
  go_wp2_with fail
  refine (HE1.out _ _ _ hd1).mono ?_
  rintro e w2 ⟨rfl, -, hd2, hf2⟩
  clear HE1 hd1 hf2
  go_wp2_with fail
  refine (HE2.out _ _ _ hd2).mono ?_
  rintro e w3 ⟨rfl, -, hd3, hf3⟩
  clear HE2 hd2 hf3
  go_wp2_with fail
  refine (HE3.out _ _ _ hd3).mono ?_
  rintro e w4 ⟨rfl, -, hd4, hf4⟩
  clear HE3 hd3 hf4
  go_wp2_with fail
  refine (HE4.out _ _ _ hd4).mono ?_
  rintro e w5 ⟨rfl, -, hd5, hf5⟩
  clear HE4 hd4 hf5
  go_wp2_with fail
  refine (HI1.out _ _ _ hd5).mono ?_
  rintro e w6 ⟨rfl, hd6, hf6⟩
  clear HI1 hd5 hf6
  go_wp2_with fail
  refine (HI2.out _ _ _ hd6).mono ?_
  rintro e w7 ⟨rfl, hd7, hf7⟩
  clear HI2 hd6 hf7
  go_wp2_with fail
  refine (HI3.out _ _ _ hd7).mono ?_
  rintro e w8 ⟨rfl, hd8, hf8⟩
  clear HI3 hd7 hf8
  go_wp2_with fail
  refine (HAl.out _ _ _ hd8).mono ?_
  rintro e w9 ⟨u, rfl, hd9, hf9, ho9⟩
  have ho : OwnI w8.heap.size w9 u [1136, 1168, 2160] := ho9
  have hlo8 := hd8.lo.wide hd8.nn
  clear HAl hd8 hf9 ho9
  go_wp2_with fail
  refine (HTu.out _ _ _ hd9).mono ?_
  rintro e w10 ⟨rfl, hd10, hf10⟩
  replace ho := ho.fr hf10 hlo8
  clear HTu hd9 hf10
  go_wp2_with fail
  refine (HI4.out _ _ _ hd10).mono ?_
  rintro e w11 ⟨rfl, hd11, hf11⟩
  replace ho := ho.fr hf11 hlo8
  clear HI4 hd10 hf11
  have HD11 := Lib.hid hd11
  have HO := Lib.hid ho
  have HLo := Lib.hid hlo8
  clear hd11 ho hlo8
  go_wp2_with fail
  refine (HS1.out _ _ _ (own_row (HO.out.below (below_made _ _)) HB3.out) (Hl3.out _)).mono ?_
  rintro e w12 ⟨rfl, hb12⟩
  have hbb := (below_made w11 (.cells #[.int .i64 1136, .int .i64 1168, .int .i64 2160] 3)).trans (hb12.mono (below_made w11 _).size)
  have HD12 := Lib.hid (HD11.out.below hbb)
  clear hb12 hbb HS1 HO Hl3 HB3 HD11
  go_wp2_with fail
  refine (HAl2.out _ _ _ HD12.out).mono ?_
  rintro e w13 ⟨u2, rfl, hd13, hf13, ho13⟩
  have HO2 : Hid (OwnI w12.heap.size w13 u2 [1168, 2160, 1136, 1200]) := ho13
  have HD13 := Lib.hid hd13
  clear hd13 hf13 ho13 HAl2 HD12
  go_wp2_with fail
  refine (HS2.out _ _ _ (own_row (HO2.out.below (below_made _ _)) HB4.out) (Hl4.out _)).mono ?_
  rintro e w14 ⟨rfl, hb14⟩
  have hbb := (below_made w13 (.cells #[.int .i64 1168, .int .i64 2160, .int .i64 1136, .int .i64 1200] 3)).trans (hb14.mono (below_made w13 _).size)
  have hd14 := HD13.out.below hbb
  clear hb14 hbb HS2 HO2 Hl4 HB4 HD13
  go_wp2_with fail
  refine (HBr.out _ _ _ hd14).mono ?_
  rintro e w15 ⟨rfl, hd15, hf15⟩
  clear HBr hd14 hf15
  go_wp2_with fail
  refine (HLe.out _ _ _ hd15).mono ?_
  rintro e w16 ⟨rfl, hd16, hf16⟩
  clear HLe hd15 hf16
  go_wp2_with fail
  refine (HIa.out _ _ _ hd16).mono ?_
  rintro e w17 ⟨rfl, hd17, hf17⟩
  clear HIa hd16 hf17
  go_wp2_with fail
  refine (HFa.out _ _ _ hd17 HZ.out).mono ?_
  rintro e w18 ⟨rfl, hb18⟩
  have HE := Lib.hid (hd17.below hb18).b
  clear hb18 HFa hd17
  go_wp2
  go_ret
  exact ⟨rfl, HE.out⟩
end
end Go.Proofs.YtodagfhfganloaaGreatDoor.Rin

namespace Go.Proofs.YtodagfhfganloaaGreatDoor.Rin
open Go.RowKit Num
open Sla (Sl tkF X0)
set_option linter.unusedVariables false

def rotI (L : List Nat) : Nat → List Nat
  | 0 => L
  | i + 1 => rot (rotI L i)
theorem rotI_len (L : List Nat) : ∀ i, (rotI L i).length = L.length
  | 0 => rfl
  | i + 1 => by rw [rotI, rot_len, rotI_len L i]
theorem rotI_get (L : List Nat) : ∀ (i j : Nat), j < L.length → (rotI L i).getD j 0 = L.getD ((i + j) % L.length) 0
  | 0, j, h => by rw [rotI, Nat.zero_add, Nat.mod_eq_of_lt h]
  | i + 1, j, h => by
    have h1 : j < (rotI L i).length := by rw [rotI_len]; exact h
    rw [rotI, rot_get h1, rotI_len, rotI_get L i _ (sc_lt h)]
    congr 1
    unfold sc
    by_cases e : j + 1 = L.length
    · rw [if_pos e, show i + 1 + j = i + 0 + L.length by omega, Nat.add_mod_right]
    · rw [if_neg e, show i + 1 + j = i + (j + 1) by omega]
theorem rotI_full (L : List Nat) : rotI L L.length = L := by
  refine list_ext (rotI_len _ _) (fun j hj => ?_)
  rw [rotI_len] at hj
  rw [rotI_get L _ j hj, Nat.add_mod_left, Nat.mod_eq_of_lt hj]
theorem rotI_mem (L : List Nat) (x : Nat) : ∀ i, x ∈ rotI L i ↔ x ∈ L
  | 0 => Iff.rfl
  | i + 1 => by rw [rotI, rot_mem, rotI_mem L x i]
/-- The links of a list. -/
def nxL (L : List Nat) (x : Nat) : Nat := L.getD (sc L.length (L.idxOf x)) 0
def pvL (L : List Nat) (x : Nat) : Nat := L.getD (pd L.length (L.idxOf x)) 0
theorem cy_of {L : List Nat} (h : L.Nodup) : Cy (nxL L) (pvL L) L := ⟨h, fun i hi => by unfold nxL; rw [idx_at h hi], fun i hi => by unfold pvL; rw [idx_at h hi]⟩
theorem cy_rotI {nx pv : Nat → Nat} {L : List Nat} (h : Cy nx pv L) : ∀ i, Cy nx pv (rotI L i)
  | 0 => h
  | i + 1 => (cy_rotI h i).rot
theorem brN_cy {nx pv : Nat → Nat} {L : List Nat} (h : Cy nx pv L) {b : Nat} (hb : b ∈ L) : brN L b = nx b := by
  obtain ⟨i, hi, rfl⟩ := at_of hb
  unfold brN
  rw [idx_at h.nd hi, h.n i hi]
  by_cases e : L.length < 2
  · rw [if_pos e]
    congr 1
    unfold sc
    split <;> omega
  · rw [if_neg e]
/-- Where the broom is behind j strokes, from the place p on. -/
def brI (L : List Nat) (p j : Nat) : Nat := L.getD ((p + j) % L.length) 0
theorem succ_mod {n : Nat} (hn : 0 < n) (m : Nat) : (m + 1) % n = sc n (m % n) := by
  have h1 : (m + 1) % n = (n * (m / n) + (m % n + 1)) % n := by rw [← Nat.add_assoc, Nat.div_add_mod]
  have h2 := Nat.mod_lt m hn
  rw [h1, Nat.mul_add_mod]
  unfold sc
  by_cases e : m % n + 1 = n
  · rw [if_pos e, e, Nat.mod_self]
  · rw [if_neg e, Nat.mod_eq_of_lt (by omega)]
theorem brI_step {L : List Nat} (h : L.Nodup) (hL : 0 < L.length) (p i j : Nat) : brN (rotI L i) (brI L p j) = brI L p (j + 1) := by
  have hcy := cy_rotI (cy_of h) i
  have hlt := Nat.mod_lt (p + j) hL
  have hin : brI L p j ∈ rotI L i := (rotI_mem L _ i).2 (get_in hlt)
  rw [brN_cy hcy hin]
  unfold brI
  rw [(cy_of h).n _ hlt]
  rw [← Nat.add_assoc, succ_mod hL]
/-- The stroke at which the broom is at a place. -/
def atB (n p i : Nat) : Nat := if p ≤ i then i - p else i + n - p
theorem atB_lt {n p i : Nat} (hp : p < n) (hi : i < n) : atB n p i < n := by unfold atB; split <;> omega
theorem brI_is {L : List Nat} (h : L.Nodup) {p i j : Nat} (hp : p < L.length) (hi : i < L.length) (hj : j < L.length) : brI L p j = L.getD i 0 ↔ j = atB L.length p i := by
  have hm : (p + j) % L.length = if p + j < L.length then p + j else p + j - L.length := by
    by_cases e : p + j < L.length
    · rw [if_pos e, Nat.mod_eq_of_lt e]
    · rw [if_neg e, Nat.mod_eq_sub_mod (by omega), Nat.mod_eq_of_lt (by omega)]
  unfold brI atB
  constructor
  · intro q
    have := get_inj h (Nat.mod_lt _ (by omega)) hi q
    rw [hm] at this
    split at this <;> split <;> omega
  · intro q
    congr 1
    rw [hm]
    split at q <;> split <;> omega

/-! ### A hundred entries of class 1 -/
def Ti : Nat → List Sl
  | 0 => X0
  | i + 1 => (tkF 7 224 (Ti i) 1).2
def okT : Nat → List Sl → Bool
  | 0, _ => true
  | i + 1, T => decide ((tkF 7 224 T 1).1.2 = 0) && okT i (tkF 7 224 T 1).2
set_option maxRecDepth 1000000 in
theorem ok_hundred : okT 100 X0 = true := by decide +kernel
theorem okT_step : ∀ (m i : Nat), okT (m + i) X0 = true → okT m (Ti i) = true
  | m, 0, h => h
  | m, i + 1, h => by
    have := okT_step (m + 1) i (by rw [show m + 1 + i = m + (i + 1) by omega]; exact h)
    unfold okT at this
    rw [Bool.and_eq_true] at this
    exact this.2
theorem ti_ok {i : Nat} (h : i < 100) : (tkF 7 224 (Ti i) 1).1.2 = 0 := by
  have := okT_step (99 - i + 1) i (by rw [show 99 - i + 1 + i = 100 by omega]; exact ok_hundred)
  unfold okT at this
  rw [Bool.and_eq_true, decide_eq_true_eq] at this
  exact this.1
end Go.Proofs.YtodagfhfganloaaGreatDoor.Rin

namespace Go.Proofs.YtodagfhfganloaaGreatDoor.Rin
open Go.RowKit Num
open Mem (Mm MemC MRet Hm rd blkM)
open Lis (valsN ints)
open Sla (Sl Lv Lo tkF Ts OwnI X0 Ow3 grown_alloc at1_of pV)
open Arn (wrL is64)
set_option linter.unusedVariables false

section
variable {h : Hm} {T : List Sl} {w0 w w' W W' : World} {n : Nat} {E L : List Nat} {br : Nat}
theorem Wr.grown {r : Option Nat} (d : Wr w0 h n T E L br W) (hg : W.grownBy W' r) (hr : ∀ b, r = some b → n ≤ b) : Wr w0 h n T E L br W' := d.low (Sla.below_grown hg d.nn hr)
theorem Wr.bd (d : Wr w0 h n T E L br W) : ∀ x ∈ L, x ≤ 100000 := fun x hx => by have := d.facts (d.sub x hx); omega
theorem brI_zero {L : List Nat} {br : Nat} (h : br ∈ L ∨ (L = [] ∧ br = 0)) : brI L (L.idxOf br) 0 = br := by
  rcases h with hb | ⟨rfl, rfl⟩
  · obtain ⟨i, hi, e⟩ := at_of hb
    have hlt : L.idxOf br < L.length := List.idxOf_lt_length_of_mem hb
    unfold brI
    rw [Nat.add_zero, Nat.mod_eq_of_lt hlt, List.getD, List.getElem?_eq_getElem hlt, List.getElem_idxOf]
    rfl
  · rfl
theorem brs_get {L : List Nat} {p j q : Nat} (h : q < j) : ((List.range j).map (brI L p)).getD q 0 = brI L p q := by simp [List.getD, h]
set_option maxRecDepth 100000 in
set_option maxHeartbeats 8000000 in
theorem ringRound_walk (a b : Int) (w : World) (ht : Ts w) (tc : TabC w) :
    Calls Tryz.prog 8 #[.int .i64 a, .int .i64 b] w fun e w' => e = .returned (.bool true) ∧ Below w.heap.size w w' := by
  obtain ⟨i0, hi0, hz0, hz1, hz2⟩ := info_parts Lis.infoInt
  have HW := Lib.hid (fun V (hv : Ts V) (ht : TabC V) => turns_any V hv ht)
  have HTs : Hid (Ts w ∧ TabC w) := ⟨ht, tc⟩
  have HN := Lib.hid (fresh_any false w ht tc)
  clear ht tc
  by_cases g1 : a < 0
  · go_enter Tryz.func8, Tryz.ntmps8
    go_wp2_with fail
    refine (HW.out _ HTs.out.1 HTs.out.2).mono ?_
    rintro e w1 ⟨rfl, hb⟩
    go_wp2
    go_ret
    exact ⟨rfl, hb⟩
  by_cases g2 : 100 < a
  · go_enter Tryz.func8, Tryz.ntmps8
    go_wp2_with fail
    refine (HW.out _ HTs.out.1 HTs.out.2).mono ?_
    rintro e w1 ⟨rfl, hb⟩
    go_wp2
    go_ret
    exact ⟨rfl, hb⟩
  by_cases g3 : b < 0
  · go_enter Tryz.func8, Tryz.ntmps8
    go_wp2_with fail
    refine (HW.out _ HTs.out.1 HTs.out.2).mono ?_
    rintro e w1 ⟨rfl, hb⟩
    go_wp2
    go_ret
    exact ⟨rfl, hb⟩
  by_cases g4 : 300 < b
  · go_enter Tryz.func8, Tryz.ntmps8
    go_wp2_with fail
    refine (HW.out _ HTs.out.1 HTs.out.2).mono ?_
    rintro e w1 ⟨rfl, hb⟩
    go_wp2
    go_ret
    exact ⟨rfl, hb⟩
  obtain ⟨N, rfl⟩ : ∃ N : Nat, a = N := ⟨a.toNat, by omega⟩
  obtain ⟨K, rfl⟩ : ∃ K : Nat, b = K := ⟨b.toNat, by omega⟩
  have hN : N ≤ 100 := by omega
  have hK : K ≤ 300 := by omega
  unfold pV at HN
  go_enter Tryz.func8, Tryz.ntmps8
  go_wp2_with fail
  refine HN.out.mono ?_
  rintro e w1 ⟨h, rfl, hz, hd1, hb1⟩
  have HZ := Lib.hid hz
  obtain ⟨n, hn⟩ : ∃ n, n = w1.heap.size := ⟨_, rfl⟩
  rw [← hn] at hd1
  have HD1 := Lib.hid hd1
  clear hz hb1 HN hn hd1 g1 g2 g3 g4
  go_wp2
  go_loopw [6] (fun i wr => ∃ (j : Nat) (E L : List Nat) (br : Nat), j ≤ N ∧ i = .int .i64 j ∧ Hid (L.length = j ∧ Wr w h n (Ti j) E L br wr)) (fun i _ => N - (intOf i).toNat)
  case atStart => exact ⟨0, [], [], 0, Nat.zero_le _, rfl, rfl, HD1.out⟩
  case round =>
    obtain ⟨j, E, L, br, hj, rfl, HD⟩ := hrel
    by_cases hlt : j < N
    · have hlt1 : (j : Int) < (N : Int) := by omega
      have hjw : IntKind.i64.wrap ((j : Int) + 1) = ((j + 1 : Nat) : Int) := (Arn.wrap_id (by omega) (by omega)).trans (by omega)
      have HE := Lib.hid (HD.out.2.entry 1)
      have HOk := Lib.hid (ti_ok (show j < 100 by omega))
      have HL := Lib.hid HD.out.1
      have HSub := Lib.hid HD.out.2.sub
      unfold pV at HE
      clear HD
      go_wp2_with fail
      refine HE.out.mono ?_
      rintro e w2 (⟨q, -⟩ | ⟨a, q, rfl, haE, hd2, hf2⟩)
      · exact absurd HOk.out q
      · have hpos : (0 : Int) < (a : Int) := by have := hd2.facts (.head _); omega
        have haL : a ∉ L := fun q => haE (HSub.out a q)
        have HI := Lib.hid (hd2.insert (.head _) haL (by rw [HL.out]; omega))
        unfold pV at HI
        clear hd2 hf2 q haE haL HE HOk
        go_wp2_with fail
        refine HI.out.mono ?_
        rintro e w3 ⟨rfl, hd3, hf3⟩
        have HD3 : Hid ((L ++ [a]).length = j + 1 ∧ Wr w h n (Ti (j + 1)) (a :: E) (L ++ [a]) (if L = [] then a else br) w3) := ⟨by rw [List.length_append, HL.out]; rfl, hd3⟩
        clear hd3 hf3 HI HL HSub hpos
        go_wp2
        go_roundw
        case rel => exact ⟨j + 1, _, _, _, by omega, by go_num, HD3.out⟩
        case measure => simp [intOf]; omega
    · obtain rfl : j = N := by omega
      have HD2 : Hid (∃ T, L.length = j ∧ Wr w h n T E L br wr) := ⟨_, HD.out⟩
      clear HD
      go_wp2
      go_loopw [8] (fun i wr => ∃ (k : Nat) (L : List Nat) (br : Nat), k ≤ K ∧ i = .int .i64 k ∧ Hid (∃ T, L.length = j ∧ Wr w h n T E L br wr)) (fun i _ => K - (intOf i).toNat)
      case atStart => exact ⟨0, L, br, Nat.zero_le _, rfl, HD2.out⟩
      case round =>
        clear HD2
        obtain ⟨k, L, br, hk, rfl, HD⟩ := hrel
        obtain ⟨T, hL, hD⟩ := HD.out
        have HLn := Lib.hid hL
        by_cases hlt : k < K
        · have hlt1 : (k : Int) < (K : Int) := by omega
          have hjw : IntKind.i64.wrap ((k : Int) + 1) = ((k + 1 : Nat) : Int) := (Arn.wrap_id (by omega) (by omega)).trans (by omega)
          have HT := Lib.hid hD.turn
          unfold pV at HT
          clear hD hL HD
          go_wp2_with fail
          refine HT.out.mono ?_
          rintro e w3 ⟨rfl, hd3, hf3⟩
          have HD3 : Hid (∃ T, (rot L).length = j ∧ Wr w h n T E (rot L) br w3) := ⟨T, by rw [rot_len]; exact HLn.out, hd3⟩
          clear hd3 hf3 HT HLn
          go_wp2
          go_roundw
          case rel => exact ⟨k + 1, _, _, by omega, by go_num, HD3.out⟩
          case measure => simp [intOf]; omega
        · have HA := Lib.hid hD.all
          unfold pV at HA
          have hnn := hD.nn
          clear hL HD
          go_wp2_with fail
          refine HA.out.mono ?_
          rintro e w3 ⟨u, rfl, hd3, hf3, ho3⟩
          have ho : OwnI n w3 u L := Sla.OwnI.lower ho3 hnn
          have HO3 : Hid (Ow3 n w3 (.slice none 0 0) (.slice none 0 0) u [] [] L) := ⟨OwnI.nil _ _, OwnI.nil _ _, ho, Sla.Dj.nil _, Sla.Dj.nil _, Sla.Dj.nil _⟩
          have HD3 := Lib.hid hd3
          have HNd := Lib.hid hd3.nodup
          have HBd := Lib.hid hd3.bd
          obtain ⟨p, hp⟩ : ∃ p, p = L.idxOf br := ⟨_, rfl⟩
          have HP : Hid (brI L p 0 = br ∧ (0 < L.length → p < L.length)) := by
            refine ⟨by rw [hp]; exact brI_zero hd3.brm, fun q => ?_⟩
            rw [hp]
            rcases hd3.brm with e | ⟨e, -⟩
            · exact List.idxOf_lt_length_of_mem e
            · rw [e] at q; simp at q
          obtain ⟨pu, cu, rfl, -, hcu⟩ := ho.shape
          clear hd3 hf3 ho3 ho HA hD hnn hp
          have hLj := HLn.out
          rw [hLj] at HO3 ⊢
          go_wp2
          go_loopw [10, 11, 12] (fun hv bv i wr => ∃ (k : Nat), k ≤ j ∧ i = .int .i64 k ∧ Hid (Wr w h n T E (rotI L k) (brI L p k) wr) ∧ Hid (Ow3 n wr hv bv (.slice pu j cu) (L.take k) ((List.range k).map (brI L p)) L)) (fun _ _ i _ => j - (intOf i).toNat)
          case atStart => exact ⟨0, Nat.zero_le _, rfl, by rw [HP.out.1]; exact HD3.out, by rw [List.take_zero]; exact HO3.out⟩
          case round =>
            clear HD3 HO3
            obtain ⟨k, hk, rfl, HD, HO⟩ := hrel
            by_cases hlt : k < j
            · have hlt1 : (k : Int) < (j : Int) := by omega
              have hjw : IntKind.i64.wrap ((k : Int) + 1) = ((k + 1 : Nat) : Int) := (Arn.wrap_id (by omega) (by omega)).trans (by omega)
              have HT := Lib.hid HD.out.turn
              have hlo := Lib.hid HD.out.lo
              have hh0 : (rotI L k).getD 0 0 = L.getD k 0 := by rw [rotI_get L k 0 (by omega), Nat.add_zero, Nat.mod_eq_of_lt (by omega)]
              rw [hh0] at HT
              have HTk := Lib.hid (take_snoc (L := L) (k := k) (by omega))
              have HBs := Lib.hid (brI_step HNd.out (by omega) p (k + 1) k)
              generalize L.getD k 0 = x at HT HTk
              unfold pV at HT
              clear hh0
              go_wp2_with fail
              refine HT.out.mono ?_
              rintro e w4 ⟨rfl, hd4, hf4⟩
              have HO4 := Lib.hid (HO.out.fr hf4 hlo.out)
              have HD4 := Lib.hid hd4
              have hA4 := HO4.out.ra
              have hn4 := hd4.nn
              have hlk : (L.take k).length ≤ 100 := by rw [List.length_take]; omega
              clear hd4 hf4 HD HO HT
              go_wp2_with (at_builtin; refine wpList_append_own_at _ rfl (.tmp 59) (.tmp 62) 32 rfl n 3 i0 (.int .i64 0) 1 8 Tryz.underlying32 hi0 hz0 hz1 hz2 rfl (by decide) _ _ _ rfl (World.ownsRow.alloc hA4 _) ⟨w4.heap.size, 0, none⟩ 1 1 [.int .i64 (x : Int)] rfl rfl (news_one _ _ _ _) (oneCell_one _ _) (by unfold maxLen; omega) (by omega) (by simp; omega) ?_)
              intro v5 w5 hown5 hgrow5 _ hat5
              have HO5 := Lib.hid (HO4.out.setA (grown_alloc hgrow5) (Sla.OwnI.snoc hown5 (by rw [List.length_take, HLn.out]; omega)) (at1_of hat5))
              have HD5 := Lib.hid (HD4.out.grown (grown_alloc hgrow5) HO4.out.ra.base)
              have HBr := Lib.hid HD5.out.brush
              unfold pV at HBr
              clear hown5 hgrow5 hat5 hA4 HO4 HD4 hn4 hlk
              go_wp2_with fail
              refine HBr.out.mono ?_
              rintro e w6 ⟨rfl, hd6, hf6⟩
              have HO6 := Lib.hid (HO5.out.fr hf6 hlo.out)
              have HD6 := Lib.hid hd6
              have hZ4 := HO6.out.rz
              have hn6 := hd6.nn
              have hlk : ((List.range k).map (brI L p)).length ≤ 100 := by simp; omega
              have HSn : Hid ((List.range k).map (brI L p) ++ [brI L p k] = (List.range (k + 1)).map (brI L p)) := by unfold Hid; rw [List.range_succ]; simp
              clear hd6 hf6 HD5 HO5 HBr
              generalize hy : brI L p k = y at HSn HBs HD6 ⊢
              clear hy
              go_wp2_with (at_builtin; refine wpList_append_own_at _ rfl (.tmp 64) (.tmp 67) 32 rfl n 3 i0 (.int .i64 0) 1 8 Tryz.underlying32 hi0 hz0 hz1 hz2 rfl (by decide) _ _ _ rfl (World.ownsRow.alloc hZ4 _) ⟨w6.heap.size, 0, none⟩ 1 1 [.int .i64 (y : Int)] rfl rfl (news_one _ _ _ _) (oneCell_one _ _) (by unfold maxLen; omega) (by omega) (by simp; omega) ?_)
              intro v7 w7 hown7 hgrow7 _ hat7
              have hO7 := HO6.out.setZ (grown_alloc hgrow7) (Sla.OwnI.snoc hown7 (by simp)) (at1_of hat7)
              have hD7 := HD6.out.grown (grown_alloc hgrow7) HO6.out.rz.base
              rw [HSn.out, ← HTk.out] at hO7
              rw [show rot (rotI L k) = rotI L (k + 1) from rfl, HBs.out] at hD7
              have HO7 := Lib.hid hO7
              have HD7 := Lib.hid hD7
              clear hown7 hgrow7 hat7 hZ4 HO6 HD6 hn6 hlk hO7 hD7 HTk HSn HBs
              go_wp2
              go_roundw
              case rel => exact ⟨k + 1, by omega, by go_num, HD7.out, HO7.out⟩
              case measure => simp [intOf]; omega
            · obtain rfl : k = j := by omega
              have hrow := fun {W : World} {v : Value} (r : OwnI n W v L) => own_row r HBd.out
              have HSm := Lib.hid (fun W u v (h1 : OwnI n W u L) (h2 : OwnI n W v L) => Lis.refSame_any u v _ W (hrow h1) (hrow h2))
              have hfull : L.take k = L := by rw [← HLn.out, List.take_length]
              have hrot : rotI L k = L := by
                have := rotI_full L
                rw [HLn.out] at this
                exact this
              have ho := HO.out
              rw [hfull] at ho
              have hd := HD.out
              rw [hrot] at hd
              have HO1 := Lib.hid ho
              have HA := Lib.hid (fun W (hW : Wr w h n T E L (brI L p k) W) => hW.all)
              have HD1 := Lib.hid hd
              obtain ⟨p1, c1, rfl, -, hc1⟩ := ho.ra.shape
              obtain ⟨p2, c2, rfl, -, hc2⟩ := ho.rz.shape
              have hl2 : ((List.range k).map (brI L p)).length = k := by simp
              have hL1 := HLn.out
              have hlo := Lib.hid hd.lo
              unfold pV at HA
              clear hfull hrot ho hd HO HD hrow
              rw [hl2] at HO1
              rw [hL1] at HO1
              go_wp2_with fail
              refine (HSm.out _ _ _ HO1.out.ra HO1.out.rm).mono ?_
              rintro e w8 ⟨rfl, hb8⟩
              have HD8 := Lib.hid (HD1.out.below hb8)
              have HO8 := Lib.hid (HO1.out.below hb8)
              clear hb8 HD1 HO1
              go_wp2_with fail
              refine (HA.out _ HD8.out).mono ?_
              rintro e w9 ⟨u2, rfl, hd9, hf9, ho9⟩
              have HO9 := Lib.hid (HO8.out.fr hf9 hlo.out)
              have HU9 : Hid (OwnI n w9 u2 L) := Sla.OwnI.lower ho9 HD8.out.nn
              have HD9 := Lib.hid hd9
              clear hd9 hf9 ho9 HD8 HO8 HA
              go_wp2_with fail
              refine (HSm.out _ _ _ HU9.out HO9.out.rm).mono ?_
              rintro e w10 ⟨rfl, hb10⟩
              have HD10 := Lib.hid (HD9.out.below hb10)
              have HO10 := Lib.hid (HO9.out.below hb10)
              clear hb10 HD9 HO9 HU9 HSm
              go_wp2
              go_loopw [13] (fun i wr => ∃ (q : Nat), q ≤ k ∧ i = .int .i64 q ∧ Hid (Wr w h n T E L (brI L p k) wr) ∧ Hid (Ow3 n wr (.slice p1 k c1) (.slice p2 k c2) (.slice pu k cu) L ((List.range k).map (brI L p)) L)) (fun i _ => k - (intOf i).toNat)
              case atStart => exact ⟨0, Nat.zero_le _, rfl, HD10.out, HO10.out⟩
              case round =>
                clear HD10 HO10
                obtain ⟨q, hq, rfl, HD, HO⟩ := hrel
                by_cases hlq : q < k
                · have hlq1 : (q : Int) < (k : Int) := by omega
                  have hlq0 : (0 : Int) ≤ (q : Int) := by omega
                  have hjw : IntKind.i64.wrap ((q : Int) + 1) = ((q + 1 : Nat) : Int) := (Arn.wrap_id (by omega) (by omega)).trans (by omega)
                  have hpk : p < k := by have := HP.out.2 (by omega); omega
                  have hat := atB_lt hpk hlq
                  have hiff := fun (m : Nat) (hm : m < k) => (brI_is HNd.out (p := p) (i := q) (j := m) (by omega) (by omega) (by omega))
                  rw [HLn.out] at hiff
                  have HIff := Lib.hid hiff
                  obtain ⟨gz, ez, -⟩ := HO.out.rz.cells (by intro e; have := congrArg List.length e; simp at this; omega)
                  obtain ⟨gw, ew, -⟩ := HO.out.rm.cells (by intro e; rw [e] at hL1; simp at hL1; omega)
                  subst ez ew
                  have HAt := Lib.hid hat
                  clear hat hiff hpk
                  go_wp2
                  go_loopw [14, 15] (fun s kk wr => ∃ (m : Nat), m ≤ k ∧ kk = .int .i64 m ∧ s = .int .i64 ((if atB k p q < m then 1 else 0 : Nat) : Int) ∧ Hid (Wr w h n T E L (brI L p k) wr) ∧ Hid (Ow3 n wr (.slice p1 k c1) (.slice (some ⟨gz, 0, none⟩) k c2) (.slice (some ⟨gw, 0, none⟩) k cu) L ((List.range k).map (brI L p)) L)) (fun _ kk _ => k - (intOf kk).toNat)
                  case atStart => exact ⟨0, Nat.zero_le _, rfl, by rw [if_neg (Nat.not_lt_zero _)]; rfl, HD.out, HO.out⟩
                  case round =>
                    clear HD HO
                    obtain ⟨m, hm, rfl, rfl, HD, HO⟩ := hrel
                    by_cases hlm : m < k
                    · have hlm1 : (m : Int) < (k : Int) := by omega
                      have hlm0 : (0 : Int) ≤ (m : Int) := by omega
                      have hmw : IntKind.i64.wrap ((m : Int) + 1) = ((m + 1 : Nat) : Int) := (Arn.wrap_id (by omega) (by omega)).trans (by omega)
                      have d1 := HO.out.rz.cell_at (i := m) (by simp; omega)
                      have d2 := HO.out.rm.cell_at (i := q) (by omega)
                      rw [brs_get hlm] at d1
                      have hI := HIff.out m hlm
                      by_cases hmq : m = atB k p q
                      · rw [hI.2 hmq] at d1
                        have hs0 : (if atB k p q < m then 1 else 0) = 0 := if_neg (by omega)
                        have HS1 : Hid ((if atB k p q < m + 1 then 1 else 0) = 1) := if_pos (by omega)
                        rw [hs0]
                        rw [show ((0 : Nat) : Int) = 0 from rfl]
                        generalize L.getD q 0 = y at d1 d2
                        clear hI hs0 hmq
                        go_wp2
                        go_quiet (fail)
                        go_wp2
                        go_roundw
                        case rel => exact ⟨m + 1, by omega, by go_num, by rw [HS1.out]; go_num, HD.out.below (below_drewN (Below.refl _ _) nq), HO.out.below (below_drewN (Below.refl _ _) nq)⟩
                        case measure => simp [intOf]; omega
                      · have hne : ((brI L p m : Int) == ((L.getD q 0 : Nat) : Int)) = false := by
                          rw [beq_eq_false_iff_ne]
                          intro e
                          exact hmq (hI.1 (by omega))
                        have HS1 : Hid ((if atB k p q < m + 1 then 1 else 0) = (if atB k p q < m then 1 else 0)) := by
                          unfold Hid
                          by_cases e : atB k p q < m
                          · rw [if_pos e, if_pos (by omega)]
                          · rw [if_neg e, if_neg (by omega)]
                        generalize (if atB k p q < m then 1 else 0) = sv at HS1 ⊢
                        generalize L.getD q 0 = y at d2 hne
                        generalize brI L p m = z at d1 hne
                        clear hI hmq
                        go_wp2
                        go_quiet (fail)
                        go_wp2
                        go_roundw
                        case rel => exact ⟨m + 1, by omega, by go_num, by rw [HS1.out], HD.out.below (below_drewN (Below.refl _ _) nq), HO.out.below (below_drewN (Below.refl _ _) nq)⟩
                        case measure => simp [intOf]; omega
                    · obtain rfl : m = k := by omega
                      rw [if_pos HAt.out]
                      rw [show ((1 : Nat) : Int) = 1 from rfl]
                      go_wp2
                      go_roundw
                      case rel => exact ⟨q + 1, by omega, by go_num, HD.out, HO.out⟩
                      case measure => simp [intOf]; omega
                · have HFa := Lib.hid (HD.out.faults HZ.out)
                  have HTt := Lib.hid (fun W' (hb : Below wr.heap.size wr W') => HW.out W' (HD.out.below hb).ts.1 (HD.out.below hb).ts.2)
                  have HB := Lib.hid HD.out.b
                  unfold pV at HFa
                  clear HD HO
                  go_wp2_with fail
                  refine HFa.out.mono ?_
                  rintro e w12 ⟨rfl, hb12⟩
                  have HT2 := Lib.hid (HTt.out _ hb12)
                  have HB2 := Lib.hid (HB.out.trans (hb12.mono HB.out.size))
                  clear hb12 HTt HFa HB
                  go_wp2_with fail
                  refine HT2.out.mono ?_
                  rintro e w13 ⟨rfl, hb13⟩
                  have HB3 := Lib.hid (HB2.out.trans (hb13.mono HB2.out.size))
                  clear hb13 HT2
                  go_wp2
                  go_ret
                  exact ⟨rfl, HB3.out⟩
end
end Go.Proofs.YtodagfhfganloaaGreatDoor.Rin

namespace Go.Proofs.YtodagfhfganloaaGreatDoor.Rin
open Go.RowKit Num
open Mem (Mm MemC MRet Hm rd blkM)
open Lis (valsN ints)
open Sla (Sl Lv Lo tkF Ts OwnI X0 Ow3 grown_alloc at1_of pV wf64)
open Arn (wrL is64)
set_option linter.unusedVariables false

/-! ### Acts -/
structure Act where
  k : Int
  n : Int
  c : Int
def Act.zero : Act := ⟨0, 0, 0⟩
def Act.cells (x : Act) : List Value := [.int .i64 x.k, .int .i64 x.n, .int .i64 x.c]
def ActR (w : World) (cs : List Value) (x : Act) : Prop := cs = x.cells ∧ is64 x.k ∧ is64 x.n ∧ is64 x.c
abbrev ActRow := GRow 3 ActR Act.zero
set_option maxRecDepth 100000 in
theorem act_cells {H : Type} {enc : TypeId × Value → H} {w : World} {base : Nat} {spare : Nat → Bool} {held : Bool} {n : Nat} {cs : List Value} {y : DataW H × List MemPlace}
    (h : DataW.trod enc Tryz.prog w base spare held n 97 cs = some y) : ∃ x, ActR w cs x := by
  obtain ⟨xs, n', -, -, hlen, hxs, hf⟩ := DataW.trod_struct Tryz.underlying97 h
  have h2 : cs.length = 3 := hlen.trans (by kernel_rfl)
  have x2 : xs.length = 3 := hxs
  match cs, h2, xs, x2 with
  | [c0, c1, c2], _, [y0, y1, y2], _ =>
    have f0 : DataW.trod enc Tryz.prog w base spare held n' 3 (([c0, c1, c2].drop 0).take (Tryz.prog.cellsOf 3)) = [y0, y1, y2][0]? := hf 0 _ rfl
    have f1 : DataW.trod enc Tryz.prog w base spare held n' 3 (([c0, c1, c2].drop 1).take (Tryz.prog.cellsOf 3)) = [y0, y1, y2][1]? := hf 1 _ rfl
    have f2 : DataW.trod enc Tryz.prog w base spare held n' 3 (([c0, c1, c2].drop 2).take (Tryz.prog.cellsOf 3)) = [y0, y1, y2][2]? := hf 2 _ rfl
    have q1 : Tryz.prog.cellsOf 3 = 1 := by kernel_rfl
    rw [q1] at f0 f1 f2
    simp only [List.drop, List.take, List.getElem?_cons_zero, List.getElem?_cons_succ] at f0 f1 f2
    obtain ⟨k0, e0, -, w0⟩ := DataW.trod_int Tryz.underlying3 f0
    obtain ⟨k1, e1, -, w1⟩ := DataW.trod_int Tryz.underlying3 f1
    obtain ⟨k2, e2, -, w2⟩ := DataW.trod_int Tryz.underlying3 f2
    simp at e0 e1 e2
    subst e0 e1 e2
    exact ⟨⟨k0, k1, k2⟩, rfl, wf64 w0, wf64 w1, wf64 w2⟩
set_option maxRecDepth 100000 in
theorem open_acts {H : Type} {enc : TypeId × Value → H} {w : World} {base : Nat} {spare : Nat → Bool} {held : Bool} {r : Reach} {b0 : Nat} {v : Value} {d : DataW H} {p : List MemPlace}
    (hval : Value.okWide Tryz.prog w r b0 91 v) (h : DataW.Trod enc Tryz.prog w base spare held 91 v d p) : ∃ x : Value × List Act, v = x.1 ∧ ActRow w x.1 x.2 := by
  obtain ⟨a, len, cap, rfl⟩ := WideShapes.okWide_slice Tryz.underlying91 hval
  obtain ⟨fuel, hf⟩ := h
  obtain ⟨L, -, hrow⟩ := open_grow Act.zero Tryz.underlying91 (show Tryz.prog.cellsOf 97 = 3 by kernel_rfl) (by omega) (fun n cs y hy => act_cells hy) hf
  exact ⟨(_, L), rfl, hrow⟩

/-! ### The one of a row that a number names -/
def pkP (L : List Nat) (m : Int) : Nat := (m.tmod (L.length : Int)).natAbs
def pkI (L : List Nat) (m : Int) : Nat := if L = [] then 0 else L.getD (pkP L m) 0
theorem pkP_lt {L : List Nat} (m : Int) (h : L ≠ []) : pkP L m < L.length := by
  have hp : (0 : Int) < (L.length : Int) := by have := List.length_pos_iff.2 h; omega
  have h1 := Int.lt_tmod_of_pos m hp
  have h2 := Int.tmod_lt_of_pos m hp
  unfold pkP
  omega
theorem pkI_at {L : List Nat} (m : Int) : (L = [] ∧ pkI L m = 0) ∨ (∃ k, k < L.length ∧ pkI L m = L.getD k 0 ∧ k = pkP L m) := by
  by_cases h : L = []
  · exact .inl ⟨h, if_pos h⟩
  · exact .inr ⟨pkP L m, pkP_lt m h, if_neg h, rfl⟩
theorem pick_any (u : Value) (L : List Nat) (m : Int) (w : World) (hu : Row .i64 w u (ints L)) (hl : L.length ≤ 500) :
    Calls Tryz.prog 47 #[u, .int .i64 m] w fun e w' => e = .returned (.int .i64 (pkI L m : Int)) ∧ w = w' := by
  obtain ⟨a, cap, rfl, r2, r3, r4, r5⟩ := hu
  rw [Lis.ints_length] at *
  by_cases hne : L = []
  · subst hne
    have e : pkI [] m = 0 := if_pos rfl
    rw [e, show ((0 : Nat) : Int) = 0 from rfl]
    rw [show (([] : List Nat).length) = 0 from rfl] at *
    clear r2 r3 r4 r5 hl e
    go_enter Tryz.func47, Tryz.ntmps47
    go_wp2
    go_ret
    exact ⟨rfl, rfl⟩
  · have hpos : (0 : Int) < (L.length : Int) := by
      have := List.length_pos_iff.2 hne
      omega
    obtain ⟨rm, hrm⟩ : ∃ rm, rm = m.tmod (L.length : Int) := ⟨_, rfl⟩
    have hb1 : -(L.length : Int) < rm ∧ rm < L.length := by
      rw [hrm]
      exact ⟨Int.lt_tmod_of_pos m hpos, Int.tmod_lt_of_pos m hpos⟩
    have hnz : ((L.length : Int) == 0) = false := by simp; omega
    obtain ⟨ab, aoff, rfl, hlt2, hcell2⟩ := r5 (by intro q; exact hne (List.map_eq_nil_iff.1 q))
    have hkk := pkP_lt m hne
    have hck := hcell2 (pkP L m) hkk
    rw [Lis.ints_get] at hck
    have e : pkI L m = L.getD (pkP L m) 0 := if_neg hne
    rw [e]
    have hcase : (rm = (pkP L m : Int)) ∨ (rm = -(pkP L m : Int) ∧ rm < 0) := by
      unfold pkP
      rw [← hrm]
      omega
    generalize pkP L m = kk at hkk hck hcase ⊢
    generalize L.getD kk 0 = y at hck ⊢
    have hk0 : (0 : Int) ≤ (kk : Int) := by omega
    have hk1 : (kk : Int) < (L.length : Int) := by omega
    have hk1000 : kk < 1000 := by omega
    generalize L.length = len at *
    clear hcell2 r2 r3 r4 r5 hne e
    rcases hcase with rfl | ⟨rfl, hng⟩
    · have hq : m.tmod (len : Int) = (kk : Int) := hrm.symm
      have hw2 := Sla.w_neg kk hk1000
      have hle := Sla.not_lt_neg kk
      clear hrm hb1
      go_enter Tryz.func47, Tryz.ntmps47
      go_wp2
      go_ret
      exact ⟨rfl, rfl⟩
    · have hq : m.tmod (len : Int) = -(kk : Int) := hrm.symm
      have hw2 := Sla.w_in kk hk1000
      have hle := Sla.neg_lt_self' kk hng
      have hnn : - -(kk : Int) = (kk : Int) := Int.neg_neg _
      clear hrm hb1 hng
      go_enter Tryz.func47, Tryz.ntmps47
      go_wp2
      go_ret
      exact ⟨rfl, rfl⟩

/-! ### No entry lies at 0 -/
section
variable {X : Fx} {R : Rv} {w : World} {h : Hm} {T : List Sl} {w0 W : World} {n : Nat} {E L : List Nat} {br : Nat}
theorem check_zero (d : Rs X R w) : Calls Tryz.prog 142 #[rV X.h, .int .i64 0] w (RsR X R (.int .i64 30) w) := by
  have d1 := RB.made d
  have c := d1.cell
  have HM := Lib.hid (made_any d1.m)
  have HH := Lib.hid (fun W (hW : Rs X R W) => has_zero hW)
  have HD := Lib.hid d1
  clear d d1
  unfold rV pV at *
  go_enter Tryz.func142, Tryz.ntmps142
  go_wp2_with fail
  refine HM.out.mono ?_
  rintro e w1 ⟨rfl, hb1⟩
  have HD1 := Lib.hid (HD.out.below hb1)
  replace c := HD1.out.cell
  clear hb1 HD HM
  go_wp2_with fail
  refine (HH.out _ HD1.out.m).mono ?_
  rintro e w2 hq
  obtain rfl := hq.1
  have HE := Lib.hid ((HD1.out.step hq).done (.int .i64 30))
  clear hq HD1 HH
  go_wp2
  go_ret
  exact HE.out
theorem checkLinked_zero (d : Rs X R w) : Calls Tryz.prog 127 #[rV X.h, .int .i64 0] w (RsR X R (.int .i64 30) w) := by
  have d1 := RB.made d
  have c := d1.cell
  have HC := Lib.hid (check_zero d1.m)
  have HD := Lib.hid d1
  clear d d1
  unfold rV pV at *
  go_enter Tryz.func127, Tryz.ntmps127
  go_wp2_with fail
  refine HC.out.mono ?_
  rintro e w1 hq
  obtain rfl := hq.1
  have HE := Lib.hid ((HD.out.step hq).done (.int .i64 30))
  clear hq HD HC
  go_wp2
  go_ret
  exact HE.out
theorem remove_zero (d : Rs X R w) : Calls Tryz.prog 48 #[pV X.h, .int .i64 0] w (RsR X R (.int .i64 30) w) := by
  have d1 := RC.made d 0
  obtain ⟨c0, c1⟩ := d1.cells
  have HC := Lib.hid (checkLinked_zero d1.m)
  have HD := Lib.hid d1
  rw [show ((0 : Nat) : Int) = 0 from rfl] at *
  clear d d1
  unfold rV pV at *
  go_enter Tryz.func48, Tryz.ntmps48
  go_wp2_with fail
  refine HC.out.mono ?_
  rintro e w1 hq
  obtain rfl := hq.1
  have HE := Lib.hid ((HD.out.step hq).done (.int .i64 30))
  clear hq HD HC
  go_wp2
  go_ret
  exact HE.out
/-- The one that a number names is taken out, if there is one. -/
theorem Wr.remove_pick (d : Wr w0 h n T E L br W) (m : Int) : Calls Tryz.prog 48 #[pV h, .int .i64 (pkI L m : Int)] W fun e W' => (∃ r : Int, e = .returned (.int .i64 r)) ∧ (∃ L' br', L'.length ≤ L.length ∧ Wr w0 h n T E L' br' W') ∧ Fr W.heap.size (blkM h) W W' := by
  rcases pkI_at (L := L) m with ⟨q1, q2⟩ | ⟨k, q1, q2, -⟩
  · rw [q2]
    obtain ⟨B, lb, R, h1, h2⟩ := d.ex
    refine (remove_zero h1).mono ?_
    rintro e w' ⟨rfl, hs, hf⟩
    exact ⟨⟨_, rfl⟩, ⟨L, br, Nat.le_refl _, d.fr ⟨B, lb, R, hs, h2⟩ hf⟩, hf⟩
  · rw [q2]
    refine (d.remove q1).mono ?_
    rintro e w' ⟨rfl, hd, hf⟩
    exact ⟨⟨_, rfl⟩, ⟨_, _, by rw [del_len q1]; omega, hd⟩, hf⟩
end
end Go.Proofs.YtodagfhfganloaaGreatDoor.Rin

namespace Go.Proofs.YtodagfhfganloaaGreatDoor.Rin
open Go.RowKit Num
open Mem (Mm MemC MRet Hm rd blkM)
open Lis (valsN ints)
open Sla (Sl Lv Lo tkF Ts OwnI X0 Ow3 grown_alloc at1_of pV RowG)
open Arn (wrL is64)
set_option linter.unusedVariables false

section
variable {h : Hm} {T : List Sl} {w0 w w' W W' : World} {n : Nat} {E L : List Nat} {br : Nat} {B : Nat → Hea.Blk} {l : List Int}
/-- The memory within a statement, compared with bytes at some time. -/
structure Wl (w0 : World) (h : Hm) (n : Nat) (T : List Sl) (E : List Nat) (B : Nat → Hea.Blk) (l : List Int) (L : List Nat) (br : Nat) (W : World) : Prop where
  rg : Rg (fx h T E B l) L br W
  wr : Wr w0 h n T E L br W
structure Bs (E : List Nat) (B : Nat → Hea.Blk) (l : List Int) (L : List Nat) (br : Nat) : Prop where
  ex : ∃ R, Rb E B l R ∧ Rp R E L br
  by_ : Arn.IsBytes l
  ap : Ap E l.length
  len : 128 ≤ l.length
theorem Wr.base (d : Wr w0 h n T E L br W) : ∃ B l, Wl w0 h n T E B l L br W ∧ Bs E B l L br := by
  obtain ⟨B, lb, R, ⟨l, h1, h2⟩, h3⟩ := id d.ex
  have := st_len h1.st
  exact ⟨B, l, ⟨⟨R, ⟨l, ⟨h1.st, h1.lv, h1.rb, h1.tc⟩, Nr.refl _ _⟩, h3⟩, d⟩, ⟨R, h1.rb, h3⟩, st_bytes h1.st, h1.ap, by omega⟩
theorem Wl.below (d : Wl w0 h n T E B l L br W) (hb : Below W.heap.size W W') : Wl w0 h n T E B l L br W' := ⟨d.rg.below hb, d.wr.below hb⟩
theorem Wl.image (d : Wl w0 h n T E B l L br W) (b : Bs E B l L br) : Calls Tryz.prog 39 #[pV h] W fun e W' => ∃ u, e = .returned u ∧ Wl w0 h n T E B l L br W' ∧ Below W.heap.size W W' ∧ Arn.NewRow W.heap.size W' u l := by
  obtain ⟨R, ⟨l', h1, h2⟩, h3⟩ := id d.rg
  obtain ⟨R0, g1, g2⟩ := b.ex
  obtain ⟨e1, e2, e3, e4⟩ := g2.same h3
  have e : l' = l := g1.back h1.rb b.by_ (st_bytes h1.st) b.ap b.len h2 e1 e2 e3 e4
  have := h1.st.image
  rw [e] at this
  refine this.mono ?_
  rintro e w' ⟨u, rfl, hb, hr⟩
  exact ⟨u, rfl, d.below hb, hb, hr⟩
theorem Wl.insert (d : Wl w0 h n T E B l L br W) {a : Nat} (ha : a ∈ E) (hL : a ∉ L) (hl : L.length < 10000) : Calls Tryz.prog 56 #[pV h, .int .i64 (a : Int)] W fun e W' => e = .returned (.int .i64 0) ∧ Wl w0 h n T E B l (L ++ [a]) (if L = [] then a else br) W' ∧ Fr W.heap.size (blkM h) W W' := by
  refine (d.rg.insert ha hL hl).mono ?_
  rintro e w' ⟨rfl, h1, hf⟩
  exact ⟨rfl, ⟨h1, d.wr.fr ⟨B, l, h1⟩ hf⟩, hf⟩
theorem Wl.remove (d : Wl w0 h n T E B l L br W) {k : Nat} (hk : k < L.length) : Calls Tryz.prog 48 #[pV h, .int .i64 ((L.getD k 0 : Nat) : Int)] W fun e W' => e = .returned (.int .i64 0) ∧ Wl w0 h n T E B l (L.eraseIdx k) (brD L br k) W' ∧ Fr W.heap.size (blkM h) W W' := by
  refine (d.rg.remove hk).mono ?_
  rintro e w' ⟨rfl, h1, hf⟩
  exact ⟨rfl, ⟨h1, d.wr.fr ⟨B, l, h1⟩ hf⟩, hf⟩
theorem Wl.all (d : Wl w0 h n T E B l L br W) : Calls Tryz.prog 60 #[pV h] W fun e W' => ∃ u, e = .returned u ∧ Wl w0 h n T E B l L br W' ∧ Fr W.heap.size (blkM h) W W' ∧ OwnI W.heap.size W' u L := by
  refine d.rg.all.mono ?_
  rintro e w' ⟨u, ⟨rfl, h1, hf⟩, ho⟩
  exact ⟨u, rfl, ⟨h1, d.wr.fr ⟨B, l, h1⟩ hf⟩, hf, ho⟩
theorem snoc_del (L : List Nat) (a : Nat) : (L ++ [a]).eraseIdx L.length = L := by
  refine list_ext (by rw [del_len (by simp)]; simp) (fun i hi => ?_)
  rw [del_len (by simp)] at hi
  simp at hi
  rw [del_get, show ix L.length i = i from if_pos hi, snoc_get, if_pos hi]
theorem snoc_last (L : List Nat) (a : Nat) : (L ++ [a]).getD L.length 0 = a := by rw [snoc_get, if_neg (Nat.lt_irrefl _), if_pos rfl]
/-- One is inserted and taken out again: the ring as it was. -/
theorem Wl.again {a : Nat} (d : Wl w0 h n T E B l (L ++ [a]) (if L = [] then a else br) W) (hbr : br ∈ L ∨ (L = [] ∧ br = 0)) (ha : a ∉ L) : Calls Tryz.prog 48 #[pV h, .int .i64 (a : Int)] W fun e W' => e = .returned (.int .i64 0) ∧ Wl w0 h n T E B l L br W' ∧ Fr W.heap.size (blkM h) W W' := by
  have := d.remove (k := L.length) (by simp)
  rw [snoc_del, snoc_last] at this
  have e : brD (L ++ [a]) (if L = [] then a else br) L.length = br := by
    unfold brD
    rw [snoc_last]
    rcases hbr with q | ⟨rfl, rfl⟩
    · have hne : L ≠ [] := List.ne_nil_of_mem q
      rw [if_neg hne, if_neg (by rintro rfl; exact ha q)]
    · rw [if_pos rfl, if_pos rfl, if_pos (by simp)]
  rw [e] at this
  exact this
set_option maxRecDepth 100000 in
set_option maxHeartbeats 8000000 in
theorem ringLast_walk (v : Value) (Q : List Act) (w : World) (ht : Ts w) (tc : TabC w) (hr : ActRow w v Q) :
    Calls Tryz.prog 9 #[v] w fun e w' => e = .returned (.bool true) ∧ Below w.heap.size w w' := by
  have HW := Lib.hid (fun V (hv : Ts V) (ht : TabC V) => turns_any V hv ht)
  have HTs : Hid (Ts w ∧ TabC w) := ⟨ht, tc⟩
  have HN := Lib.hid (fresh_any false w ht tc)
  obtain ⟨ad, cap, U, rfl, q2, q3, q4, q5⟩ := hr
  have HC := Lib.hid q5
  have HS := Lib.hid q4
  clear ht tc q4 q5
  by_cases hL : 100 < Q.length
  · have hL1 : (100 : Int) < (Q.length : Int) := by omega
    go_enter Tryz.func9, Tryz.ntmps9
    go_wp2_with fail
    refine (HW.out _ HTs.out.1 HTs.out.2).mono ?_
    rintro e w1 ⟨rfl, hb⟩
    go_wp2
    go_ret
    exact ⟨rfl, hb⟩
  have hL0 : ¬ (100 : Int) < (Q.length : Int) := by omega
  have hL0' : decide ((100 : Int) < (Q.length : Int)) = false := by rw [decide_eq_false_iff_not]; omega
  unfold pV at HN
  go_enter Tryz.func9, Tryz.ntmps9
  go_wp2_with fail
  refine HN.out.mono ?_
  rintro e w1 ⟨h, rfl, hz, hd1, hb1⟩
  obtain ⟨n, hn⟩ : ∃ n, n = w1.heap.size := ⟨_, rfl⟩
  rw [← hn] at hd1
  have HD1 := Lib.hid hd1
  clear hz hb1 HN hn hd1
  go_wp2
  go_loopw [4] (fun i wr => ∃ (j : Nat) (T : List Sl) (E L : List Nat) (br : Nat), j ≤ Q.length ∧ L.length ≤ j ∧ i = .int .i64 j ∧ Hid (Wr w h n T E L br wr)) (fun i _ => Q.length - (intOf i).toNat)
  case atStart => exact ⟨0, _, [], [], 0, Nat.zero_le _, Nat.le_refl _, rfl, HD1.out⟩
  case round =>
    clear HD1
    obtain ⟨j, T, E, L, br, hj, hLj, rfl, HD⟩ := hrel
    by_cases hlt : j < Q.length
    · have hlt1 : (j : Int) < (Q.length : Int) := by omega
      have hlt0 : (0 : Int) ≤ (j : Int) := by omega
      have hjw : IntKind.i64.wrap ((j : Int) + 1) = ((j + 1 : Nat) : Int) := (Arn.wrap_id (by omega) (by omega)).trans (by omega)
      obtain ⟨rb, off, rfl, hlb, hc⟩ := HC.out (by rintro rfl; simp at hlt)
      obtain ⟨hs1, hs2, hs3⟩ := HS.out j hlt
      have hcw : ∀ W, Below w.heap.size w W → W.cell? ⟨rb, off + j * 3, none⟩ = some (.int .i64 (Q.getD j Act.zero).k) ∧ W.cell? ⟨rb, off + j * 3 + 1, none⟩ = some (.int .i64 (Q.getD j Act.zero).n) := fun W hb => by
        have g0 := hc j hlt 0 (.int .i64 (Q.getD j Act.zero).k) (by rw [hs2]; rfl)
        have g1 := hc j hlt 1 (.int .i64 (Q.getD j Act.zero).n) (by rw [hs2]; rfl)
        exact ⟨(hb.cell (p := ⟨rb, off + j * 3, none⟩) hlb).trans g0, (hb.cell (p := ⟨rb, off + j * 3 + 1, none⟩) hlb).trans g1⟩
      generalize (Q.getD j Act.zero).k = yk at hcw
      generalize (Q.getD j Act.zero).n = yn at hcw
      have HCw := Lib.hid hcw
      obtain ⟨d0, d1⟩ := hcw _ HD.out.b
      have HA := Lib.hid (fun W (hW : Wr w h n T E L br W) => hW.all)
      have HPk := Lib.hid (fun W u b (hu : OwnI b W u L) => pick_any u L yn W (own_row hu HD.out.bd) (by omega))
      have hd := HD.out
      have HRm := Lib.hid (fun W (hW : Wr w h n T E L br W) => hW.remove_pick yn)
      generalize pkI L yn = pa at HPk HRm
      unfold pV at *
      clear hs1 hs2 hs3 hc hcw HD
      go_wp2
      go_region_held3 (fun w' => w'.cell? ⟨rb, off + j * 3 + 1, none⟩ = some (.int .i64 yn)) (first | exact d1 | go_keep) ((first | (go_at_call 60; refine (HA.out _ (by first | exact hd | exact hd.drew)).mono ?_; rintro e w2 ⟨u, rfl, hd2, hf2, ho2⟩; replace hd := hd2; obtain ⟨d0, d1⟩ := HCw.out _ hd2.b) | (go_at_call 47; refine (HPk.out _ _ _ (by first | exact ho2 | exact OwnI.below ho2 (Below.refl _ _).drew)).mono ?_; rintro e w3 ⟨rfl, rfl⟩)))
      all_goals
        have HDx := Lib.hid hd
        clear hd hf2 ho2 HA HPk d1 HCw
        by_cases k2 : yk = 2
        · subst k2
          go_wp2_with fail
          refine (HRm.out _ HDx.out).mono ?_
          rintro e w4 ⟨⟨r, rfl⟩, ⟨L2, br2, hl2, hd4⟩, hf4⟩
          have HD2 : Hid (L2.length ≤ j + 1 ∧ Wr w h n T E L2 br2 w4) := ⟨by omega, hd4⟩
          clear hd4 hf4 HRm HDx
          go_wp2
          go_roundw
          case rel => exact ⟨j + 1, _, _, _, _, by omega, HD2.out.1, by go_num, HD2.out.2⟩
          case measure => simp [intOf]; omega
        by_cases k3 : yk = 3
        · subst k3
          go_wp2_with fail
          refine (HRm.out _ HDx.out).mono ?_
          rintro e w4 ⟨⟨r, rfl⟩, ⟨L2, br2, hl2, hd4⟩, hf4⟩
          have HD2 : Hid (L2.length ≤ j + 1 ∧ Wr w h n T E L2 br2 w4) := ⟨by omega, hd4⟩
          clear hd4 hf4 HRm HDx
          go_wp2
          go_roundw
          case rel => exact ⟨j + 1, _, _, _, _, by omega, HD2.out.1, by go_num, HD2.out.2⟩
          case measure => simp [intOf]; omega
        by_cases k4 : yk = 4
        · subst k4
          have HT := Lib.hid HDx.out.turn
          unfold pV at HT
          clear HDx HRm
          go_wp2_with fail
          refine HT.out.mono ?_
          rintro e w4 ⟨rfl, hd4, hf4⟩
          have HD2 : Hid ((rot L).length ≤ j + 1 ∧ Wr w h n T E (rot L) br w4) := ⟨by (try rw [rot_len]); omega, hd4⟩
          clear hd4 hf4 HT
          go_wp2
          go_roundw
          case rel => exact ⟨j + 1, _, _, _, _, by omega, HD2.out.1, by go_num, HD2.out.2⟩
          case measure => simp [intOf]; omega
        by_cases k5 : yk = 5
        · subst k5
          have HT := Lib.hid HDx.out.brush
          unfold pV at HT
          clear HDx HRm
          go_wp2_with fail
          refine HT.out.mono ?_
          rintro e w4 ⟨rfl, hd4, hf4⟩
          have HD2 : Hid (L.length ≤ j + 1 ∧ Wr w h n T E L (brN L br) w4) := ⟨by (try rw [rot_len]); omega, hd4⟩
          clear hd4 hf4 HT
          go_wp2
          go_roundw
          case rel => exact ⟨j + 1, _, _, _, _, by omega, HD2.out.1, by go_num, HD2.out.2⟩
          case measure => simp [intOf]; omega
        have k6 : True := trivial
        · have HEn := Lib.hid (HDx.out.entry 1)
          have HSub := Lib.hid HDx.out.sub
          have e2 : (yk == 2) = false := by simpa using k2
          have e3 : (yk == 3) = false := by simpa using k3
          have e4 : (yk == 4) = false := by simpa using k4
          have e5 : (yk == 5) = false := by simpa using k5
          unfold pV at HEn
          clear HDx k2 k3 k4 k5
          go_wp2_with fail
          refine HEn.out.mono ?_
          rintro e w4 (⟨-, rfl, hd4, hf4⟩ | ⟨a, -, rfl, haE, hd4, hf4⟩)
          · have HD2 : Hid (L.length ≤ j + 1 ∧ Wr w h n T E L br w4) := ⟨by omega, hd4⟩
            clear hd4 hf4 HEn HSub
            go_wp2
            go_roundw
            case rel => exact ⟨j + 1, _, _, _, _, by omega, HD2.out.1, by go_num, HD2.out.2⟩
            case measure => simp [intOf]; omega
          · have hpos : (0 : Int) < (a : Int) := by have := hd4.facts (.head _); omega
            have haL : a ∉ L := fun q => haE (HSub.out a q)
            have HI := Lib.hid (hd4.insert (.head _) haL (by omega))
            unfold pV at HI
            clear hd4 hf4 haE haL HEn HSub
            go_wp2_with fail
            refine HI.out.mono ?_
            rintro e w5 ⟨rfl, hd5, hf5⟩
            have HD2 : Hid ((L ++ [a]).length ≤ j + 1 ∧ Wr w h n (tkF 7 224 T 1).2 (a :: E) (L ++ [a]) (if L = [] then a else br) w5) := ⟨by rw [List.length_append, List.length_singleton]; omega, hd5⟩
            clear hd5 hf5 HI hpos
            go_wp2
            go_roundw
            case rel => exact ⟨j + 1, _, _, _, _, by omega, HD2.out.1, by go_num, HD2.out.2⟩
            case measure => simp [intOf]; omega
    · obtain rfl : j = Q.length := by omega
      have hd := HD.out
      have HEn := Lib.hid (HD.out.entry 3)
      have HSub := Lib.hid HD.out.sub
      have HBm := Lib.hid HD.out.brm
      unfold pV at HEn
      clear HD hd
      go_wp2_with fail
      refine HEn.out.mono ?_
      rintro e w2 (⟨-, rfl, hd2, hf2⟩ | ⟨a, -, rfl, haE, hd2, hf2⟩)
      · have HT := Lib.hid (HW.out _ hd2.ts.1 hd2.ts.2)
        have HB := Lib.hid hd2.b
        clear hd2 hf2 HEn HSub HBm
        go_wp2_with fail
        refine HT.out.mono ?_
        rintro e w3 ⟨rfl, hb3⟩
        have HE := Lib.hid (HB.out.trans (hb3.mono HB.out.size))
        clear hb3 HT HB
        go_wp2
        go_ret
        exact ⟨rfl, HE.out⟩
      · have hnz : ((a : Int) == 0) = false := by have := hd2.facts (.head _); rw [beq_eq_false_iff_ne]; omega
        have haL : a ∉ L := fun q => haE (HSub.out a q)
        have HAL := Lib.hid haL
        have haI : a ∈ a :: E := .head _
        obtain ⟨B, l, hl2, hbs⟩ := hd2.base
        generalize a :: E = E1 at hl2 hbs haI
        generalize (tkF 7 224 T 3).2 = T1 at hl2
        have HBs := Lib.hid hbs
        have HIn := Lib.hid haI
        have HD2 := Lib.hid hl2
        have HIm := Lib.hid (fun W br (hW : Wl w h n T1 E1 B l L br W) (hb : Bs E1 B l L br) => hW.image hb)
        have hne : l ≠ [] := by rintro rfl; have := hbs.len; simp at this
        have HNe := Lib.hid hne
        unfold pV at HIm
        clear hd2 hf2 haE haL HEn HSub hl2 hbs haI hne
        go_wp2_with fail
        refine (HIm.out _ _ HD2.out HBs.out).mono ?_
        rintro e w3 ⟨u8, rfl, hd3, hb3, hr3⟩
        have hR8 : RowG .u8 n w3 u8 l := (Sla.newrow_own hr3 HNe.out).wide HD2.out.wr.nn
        have HD3 := Lib.hid hd3
        have HA := Lib.hid hd3.all
        have HLo := Lib.hid hd3.wr.lo
        obtain ⟨p8, c8, rfl, -⟩ := hR8.1
        have HR8 := Lib.hid hR8
        unfold pV at HA
        clear hd3 hb3 hr3 hR8 HD2
        go_wp2_with fail
        refine HA.out.mono ?_
        rintro e w4 ⟨u9, rfl, hd4, hf4, ho4⟩
        have HO4 : Hid (OwnI n w4 u9 L) := Sla.OwnI.lower ho4 HD3.out.wr.nn
        have HR4 := Lib.hid (HR8.out.fr hf4 HLo.out)
        have HI := Lib.hid (hd4.insert HIn.out HAL.out (by omega))
        have HBd := Lib.hid hd4.wr.bd
        obtain ⟨p9, c9, rfl, -, -⟩ := HO4.out.shape
        unfold pV at HI
        clear hd4 hf4 ho4 HA HD3 HR8
        go_wp2_with fail
        refine HI.out.mono ?_
        rintro e w5 ⟨rfl, hd5, hf5⟩
        have HO5 := Lib.hid (HO4.out.fr hf5 HLo.out)
        have HR5 := Lib.hid (HR4.out.fr hf5 HLo.out)
        have HD5 := Lib.hid hd5
        have HA := Lib.hid hd5.all
        unfold pV at HA
        clear hd5 hf5 HI HO4 HR4
        go_wp2_with fail
        refine HA.out.mono ?_
        rintro e w6 ⟨u10, rfl, hd6, hf6, ho6⟩
        have HO6 := Lib.hid (HO5.out.fr hf6 HLo.out)
        have HR6 := Lib.hid (HR5.out.fr hf6 HLo.out)
        have HD6 := Lib.hid hd6
        have hbd6 := hd6.wr.bd
        have ho10 : OwnI n w6 u10 (L ++ [a]) := Sla.OwnI.lower ho6 HD5.out.wr.nn
        obtain ⟨p10, c10, rfl, hc10, hc11⟩ := ho10.shape
        obtain ⟨g10, rfl, -⟩ := ho10.cells (by simp)
        have hrow10 := own_row ho10 hbd6
        have hla : (L ++ [a]).length = L.length + 1 := by simp
        have d10 := ho10.cell_at (i := L.length) (by omega)
        rw [snoc_last] at d10
        have hlw : IntKind.i64.wrap ((L.length : Int) + 1) = ((L.length + 1 : Nat) : Int) := (Arn.wrap_id (by omega) (by omega)).trans (by omega)
        have hi0 : (0 : Int) ≤ (L.length : Int) := by omega
        have hi1 : (L.length : Int) < ((L.length + 1 : Nat) : Int) := by omega
        have hi2 : (L.length : Int) ≤ (c10 : Int) := by omega
        have hTk : Row .i64 w6 (.slice (some ⟨g10, 0, none⟩) L.length c10) (ints L) := by
          have h1 : ints L = (ints (L ++ [a])).take L.length := by simp [ints]
          rw [h1]
          have hrow := hrow10
          rw [show (L ++ [a]).length = (ints (L ++ [a])).length by rw [Lis.ints_length]] at hrow
          exact Row.take hrow (by rw [Lis.ints_length]; omega)
        have HSm := Lib.hid (Lis.refSame_any _ _ _ w6 hTk (own_row HO6.out HBd.out))
        rw [hla]
        have HLL : Hid (L.length ≤ Q.length) := hLj
        obtain ⟨ln, hln⟩ : ∃ ln, ln = L.length := ⟨_, rfl⟩
        rw [← hln] at HSm d10 hlw hi0 hi1 hi2 ⊢
        clear hd6 hf6 ho6 ho10 hrow10 hTk HA HD5 HO5 HR5 hla hLj hc10 hc11 hln
        go_wp2_with fail
        refine HSm.out.mono ?_
        rintro e w7 ⟨rfl, hb7⟩
        have hd := HD6.out.below hb7
        have hu := HR6.out.below hb7
        have HRv := Lib.hid (fun W (hW : Wl w h n T1 E1 B l (L ++ [a]) (if L = [] then a else br) W) => hW.again HBm.out HAL.out)
        have HIm2 := Lib.hid (fun W (hW : Wl w h n T1 E1 B l L br W) => HIm.out W br hW HBs.out)
        have HTt := Lib.hid (fun W (hW : Wl w h n T1 E1 B l L br W) => HW.out W hW.wr.ts.1 hW.wr.ts.2)
        obtain ⟨st, hst⟩ : ∃ st, st = strOfNums l := ⟨_, rfl⟩
        have hss := fun W u (hr : Row .u8 W u l) => (hr.string 57 9 5 (by kernel_rfl) (by kernel_rfl) (by kernel_rfl) : (convert 57 9 u).run Tryz.prog W = .ok (.string (strOfNums l)) W)
        rw [← hst] at hss
        have HSS := Lib.hid hss
        have hlo := HLo.out
        unfold pV at HRv
        clear hb7 HD6 HR6 HSm hss hst HIm d10 hlw hi0 hi1 hi2 HO6 HBm HBs HAL
        go_wp2_with fail
        go_region_with (first | (go_at_call 48; refine (HRv.out _ (by first | exact hd | exact hd.below (Below.refl _ _).drew)).mono ?_; rintro e w8 ⟨rfl, hd8, hf8⟩; have hu8 : RowG .u8 n w8 (.slice p8 l.length c8) l := (by first | exact hu.fr hf8 hlo | exact (hu.below (Below.refl _ _).drew).fr hf8 hlo); have hcv0 := HSS.out _ _ hu8.1) | (go_at_call 39; refine (HIm2.out _ (by first | exact hd8 | exact hd8.below (Below.refl _ _).drew)).mono ?_; rintro e w9 ⟨u9, rfl, hd9, hb9, hr9⟩; have hcv1 := HSS.out _ _ hr9.1; have hcv2 := HSS.out _ _ (hu8.below hb9).1; obtain ⟨a9, c9', rfl, -⟩ := hr9.1) | (go_at_call 45; refine (HTt.out _ (by first | exact hd9 | exact hd9.below (Below.refl _ _).drew)).mono ?_; rintro e w10 ⟨rfl, hb10⟩; have hd10 := hd9.below hb10))
        all_goals
          have HE := Lib.hid hd10.wr.b
          clear hd hd8 hd9 hd10 hu hu8 hr9 hcv0 hcv1 hcv2 hb9 hb10 hf8
          go_wp2
          go_ret
          exact ⟨rfl, HE.out⟩
end
end Go.Proofs.YtodagfhfganloaaGreatDoor.Rin
