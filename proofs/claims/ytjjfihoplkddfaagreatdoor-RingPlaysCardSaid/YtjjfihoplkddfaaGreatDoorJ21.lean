/- The landed ring: the iterator over its entries; All. The landed ring: its calls, as a list of entries and a broom tells them. Rings within a statement: entries that are made and given back, a new memory. Rings within a statement: a new memory with an empty ring; the example. Rings within a statement: the example. Plain mathematics of RingRound: a ring that is turned as often as it has entries; a broom that goes round; entries of one class. The walk of RingRound. Rings within a statement: acts, as they come in; the one of a row that a number names; no entry lies at 0. The landed head at any place: the first field, and what the ring makes of it. The walk of RingLast. The landed ring: a block is given back; an entry is copied and moved. The law's move of an entry. The document's ring. The document's ring: what it becomes. The document's ring: Remove. The document's ring: Insert, Move. The document's ring: Move. -/
import Derived.Test.YtjjfihoplkddfaaGreatDoorJ19
import Derived.Test.YtjjfihoplkddfaaGreatDoorJ20
import Derived.Test.YtjjfihoplkddfaaGreatDoorJ1
import Derived.Test.YtjjfihoplkddfaaGreatDoorJ15
import Derived.Test.YtjjfihoplkddfaaGreatDoorJ16
import Derived.Test.YtjjfihoplkddfaaGreatDoorJ18
import Derived.Deep.RegionHeld3
import Derived.Test.YtjjfihoplkddfaaGreatDoorJ14
import Derived.BigQuiet
import Derived.Deep.DeepCutAuto
namespace Go.Proofs.YtjjfihoplkddfaaGreatDoor.Rin
open Go.RowKit Go.Shelf Num
open Mem (Mm MemC MRet Hm rd blkM)
open Lis (cell_lt tab_same valsN valsN_snoc ints infoInt rowN_of_owns owns_base)
open Sla (Sl St Lv pl aT pV Lo)
open Reg (SetM)
set_option linter.unusedVariables false
attribute [local go_sem] Oper.semAt_some

section
variable {X : Fx} {R : Rv} {w w' W W' : World} {n₀ Bm : Nat}
theorem Rs.low (d : Rs X R W) {n : Nat} (hb : Below n W W') (hl : Lo X.h n) (hg : 0 < n) : Rs X R W' := by
  obtain ⟨l, h1, h2⟩ := d
  exact ⟨l, ⟨h1.st.stay hb hl, h1.lv, h1.rb, tab_same (show Tryz.prog.globalNamed "columbarium/ring.cursors" = some 0 by kernel_rfl) (hb.block _ hg) h1.tc⟩, h2⟩
theorem Rs.lo (d : Rs X R W) : Lo X.h W.heap.size ∧ 0 < W.heap.size := by
  obtain ⟨l, h1, h2⟩ := d
  exact ⟨h1.st.lo, cell_lt h1.tc.cell.1⟩
theorem setM_same {b : Nat} {L : List Int} (h : SetM W b L) (hb : W'.heap[b]? = W.heap[b]?) : SetM W' b L := by
  obtain ⟨n, D, h1, ⟨es, clock, q1, q2⟩, h3⟩ := h.ex
  exact ⟨h.nd, h.bd, n, D, h1, ⟨es, clock, hb.trans q1, q2⟩, h3⟩
theorem setM_block {b : Nat} {L : List Int} (h : SetM W b L) : ∃ (e : Array MapEntry) (c : Nat), W.heap[b]? = some (Obj.map e c) := by
  obtain ⟨n, D, h1, ⟨es, clock, q1, q2⟩, h3⟩ := h.ex
  exact ⟨es, clock, q1⟩
/-- How many numbers a map holds. -/
def mapZ (w : World) : Value → Nat
  | .map (some b) => match w.heap[b]? with
    | some (.map es _) => es.size
    | _ => 0
  | _ => 0
theorem mapZ_of {b : Nat} {L : List Int} (h : SetM W b L) : mapZ W (.map (some b)) = L.length := by
  obtain ⟨n, D, h1, ⟨es, clock, q1, q2, q3, q4⟩, h3, h4⟩ := h.ex
  have hsz : Maps.size D = es.size := by rw [q4]; simp [Maps.size, length_sorted]
  unfold mapZ
  simp only [q1]
  omega
/-- What the iterator does between two rounds. -/
def StR (X : Fx) (R : Rv) (n₀ : Nat) (A B : World) : Prop :=
  (B.os = A.os ∧ B.tape = A.tape ∧ B.output = A.output ∧ A.heap.size ≤ B.heap.size) ∧ (∀ k o, A.heap[k]? = some o → ¬ blkM X.h k → (k < n₀ ∨ notMap o) → B.heap[k]? = some o) ∧ Rs X R B
/-- What a round keeps. -/
def Kv (n₀ Bm : Nat) (W W' : World) : Prop := Fr W.heap.size (fun k => ¬ (k < n₀ ∨ k = Bm)) W W' ∧ ∀ (k : Nat) (e : Array MapEntry) (c : Nat), W.heap[k]? = some (Obj.map e c) → W'.heap[k]? = some (Obj.map e c)
theorem Kv.trans {A B C : World} (h : Kv n₀ Bm A B) (k : Kv n₀ Bm B C) : Kv n₀ Bm A C := ⟨h.1.trans (Fr.mono k.1 h.1.size (fun _ _ q => q)), fun i e c hi => k.2 i e c (h.2 i e c hi)⟩
theorem StR.fr {A B : World} (h : StR X R n₀ A B) (hn : n₀ ≤ A.heap.size) : Fr n₀ (blkM X.h) A B :=
  ⟨h.1.1, h.1.2.1, h.1.2.2.1, h.1.2.2.2, fun k hk hs => by
    obtain ⟨o, ho⟩ : ∃ o, A.heap[k]? = some o := ⟨_, Array.getElem?_eq_getElem (by omega)⟩
    rw [ho]
    exact h.2.1 k o ho hs (.inl hk)⟩
theorem StR.of_fr (hf : Fr W.heap.size (blkM X.h) W W') (hm : Rs X R W') : StR X R n₀ W W' :=
  ⟨⟨hf.os, hf.tape, hf.output, hf.size⟩, fun k o ho hk _ => (hf.block k (Array.getElem?_eq_some_iff.1 ho).1 hk).trans ho, hm⟩
theorem walk_any (g : Nat) (w : World) : Calls Tryz.prog 146 #[.agg #[.pointer (some ⟨g, 0, none⟩)]] w fun e w' => e = .returned (.func (.func 223) #[] #[.pointer (some ⟨w.heap.size, 0, none⟩)]) ∧ w' = w.alloc (.cells #[.pointer (some ⟨g, 0, none⟩)] 157) := by
  go_enter Tryz.func146, Tryz.ntmps146
  go_wp2
  go_ret
  exact ⟨rfl, rfl⟩
/-- The first ones of a list, as numbers. -/
theorem ints_mem {L : List Nat} {x : Nat} : (x : Int) ∈ ints L ↔ x ∈ L := by
  unfold ints
  rw [List.mem_map]
  constructor
  · rintro ⟨a, h1, h2⟩
    obtain rfl : a = x := by omega
    exact h1
  · intro h
    exact ⟨x, h, rfl⟩
theorem take_not {L : List Nat} (h : L.Nodup) {k : Nat} (hk : k < L.length) : L.getD k 0 ∉ L.take k := by
  intro q
  obtain ⟨i, hi, e⟩ := at_of q
  have hik : i < k := by rw [List.length_take] at hi; omega
  have : (L.take k).getD i 0 = L.getD i 0 := by simp [List.getD, hik]
  rw [this] at e
  have := get_inj h (by omega) hk e
  omega
theorem take_snoc {L : List Nat} {k : Nat} (hk : k < L.length) : L.take (k + 1) = L.take k ++ [L.getD k 0] := by
  rw [List.take_add_one, List.getD, List.getElem?_eq_getElem hk]
  rfl
/-- Where the iterator is behind k entries. -/
def atR (L : List Nat) (k : Nat) : Nat := if k < L.length then L.getD k 0 else L.getD 0 0

set_option maxRecDepth 100000 in
set_option maxHeartbeats 4000000 in
theorem walk1_in (n : Nat) (hn : 1 ≤ n) (lp : Nat) (L : List Nat) (hnd : L.Nodup) (hE : ∀ x ∈ L, x ∈ X.E) (hlen : L.length ≤ 10000) (hh : R.hand = L.getD 0 0) (hnx : ∀ i, i < L.length → R.nx (L.getD i 0) = L.getD (sc L.length i) 0) (J Jx : List Nat → World → Prop)
    (hJ : ∀ s A B, J s A → StR X R n₀ A B → J s B)
    (hY : ∀ pre (x : Nat) W, J pre W → pre.length < L.length → YieldAt Fence.wide (n - 1) Tryz.prog lp #[.int .i64 (x : Int)] W fun e W' =>
      (e = .returned (.bool true) ∧ J (pre ++ [x]) W' ∧ Kv n₀ Bm W W') ∨ (e = .returned (.bool false) ∧ Jx (pre ++ [x]) W'))
    (W : World) (hlo : Lo X.h n₀) (hg : 0 < n₀) (hw : n₀ ≤ W.heap.size) (hBm0 : n₀ ≤ Bm) (hBm : W.heap[Bm]? = some (.cells #[pV X.h] 157 (0, 0))) (hm : Rs X R W) (h0 : J [] W) :
    CallsIn Fence.wide n Tryz.prog 223 #[.func (.yield lp) #[] #[], .pointer (some ⟨Bm, 0, none⟩)] W fun e W' => (∃ v, e = .returned v) ∧
      ((∃ ys, ys = L ∧ J ys W') ∨ (∃ pre, (∃ rest, L = pre ++ rest) ∧ Jx pre W')) := by
  have HY := Lib.hid hY
  have HJ := Lib.hid hJ
  have HL := Lib.hid hlo
  have hbm : ¬ blkM X.h Bm := fun q => by have := hlo.m _ q; omega
  have hcE : R.hand ∈ X.E ∨ R.hand = 0 := by
    rw [hh]
    by_cases e : L = []
    · right; rw [e]; rfl
    · left; exact hE _ (get_in (List.length_pos_iff.2 e))
  have hm1 := hm.below (below_made W (.map #[] 0))
  have HCu := Lib.hid (cursor_any hm1 (f := 13) (.inl rfl) hcE)
  rw [show R.cur 13 = R.hand from rfl, hh] at HCu
  have HNx := Lib.hid (fun (k : Nat) (hk : k < L.length) V (hv : Rs X R V) => next_any hv (hE _ (get_in hk)) (by rw [hnx k hk]; exact hE _ (get_in (sc_lt hk))))
  have hBm1 := (Below.block (below_made W (.map #[] 0)) Bm (Array.getElem?_eq_some_iff.1 hBm).1).trans hBm
  have c0 : (W.alloc (.map #[] 0)).cell? ⟨Bm, 0, none⟩ = some (.pointer (some ⟨X.h.g, 0, none⟩)) := (cell_block hBm1 0).trans rfl
  have H1 : Hid (J [] (W.alloc (.map #[] 0)) ∧ Rs X R (W.alloc (.map #[] 0)) ∧ (W.alloc (.map #[] 0)).heap[Bm]? = some (.cells #[pV X.h] 157 (0, 0)) ∧ SetM (W.alloc (.map #[] 0)) W.heap.size []) :=
    ⟨hJ _ _ _ h0 (StR.of_fr (Fr.of_below (below_made _ _)) hm1), hm1, hBm1, SetM.made W⟩
  have hmm := @run_makeMap Tryz.prog
  have hmb : n₀ ≤ W.heap.size := hw
  have hmn : ¬ blkM X.h W.heap.size := fun q => by have := hlo.m _ q; omega
  have hpos : ∀ x ∈ L, 128 ≤ x ∧ x ≤ 100000 := fun x hx => by have := hm.facts (hE x hx); omega
  have HP := Lib.hid hpos
  clear hY hJ hlo hBm hBm1 hm hm1 h0 hpos
  unfold rV pV at *
  refine callsIn_of_wp Tryz.func223 rfl trivial ?_ rfl
  simp only [Tryz.ntmps223, List.size_toArray, List.length_cons, List.length_nil, Nat.reduceAdd, Nat.reduceSub, Array.replicate_succ, Array.replicate_zero, List.push_toArray, List.append_toArray, List.nil_append, List.cons_append]
  gi_wp2_with (refine ⟨trivial, ?_⟩; gi_at_call 126; refine (callsIn_wide.2 HCu.out).mono ?_; rintro e W1 ⟨rfl, hm1, hf1⟩)
  clear hmm
  gi_loopw [4] (fun i wr => ∃ (k : Nat), i = .int .i64 (atR L k : Int) ∧ k ≤ L.length ∧ Hid (J (L.take k) wr) ∧ Hid (Rs X R wr) ∧ Hid (wr.heap[Bm]? = some (.cells #[.pointer (some ⟨X.h.g, 0, none⟩)] 157 (0, 0))) ∧ Hid (SetM wr W.heap.size (ints (L.take k)))) (fun i wr => L.length - mapZ wr (.map (some W.heap.size)))
  case atStart =>
    obtain ⟨q1, q2, q3, q4⟩ := H1.out
    have hb1 := (hf1.block Bm (Array.getElem?_eq_some_iff.1 q3).1 hbm).trans q3
    have hs1 := setM_same q4 (hf1.block _ q4.lt hmn)
    have hj1 := HJ.out _ _ _ q1 (StR.of_fr hf1 hm1)
    refine ⟨0, ?_, Nat.zero_le _, hj1, hm1, hb1, hs1⟩
    unfold atR
    split <;> rfl
  case round =>
    obtain ⟨k, rfl, hk, HJJ, HR, HB, HS⟩ := hrel
    have cb : wr.cell? ⟨Bm, 0, none⟩ = some (.pointer (some ⟨X.h.g, 0, none⟩)) := (cell_block HB.out 0).trans rfl
    by_cases hlt : k < L.length
    · have hx := get_in hlt
      have hat : atR L k = L.getD k 0 := if_pos hlt
      rw [hat]
      have hnot : ((L.getD k 0 : Nat) : Int) ∉ ints (L.take k) := fun q => take_not hnd hlt (ints_mem.1 q)
      have hxb := HP.out _ hx
      have hw64 : Reg.w64 ((L.getD k 0 : Nat) : Int) := WalkArith.wf_i64 (by omega)
      have hlk := HS.out.look hw64
      rw [decide_eq_false hnot] at hlk
      have hz1 : (((L.getD k 0 : Nat) : Int) == 0) = false := by rw [beq_eq_false_iff_ne]; omega
      have hz2 : (((L.getD k 0 : Nat) : Int) != 0) = true := by rw [bne, hz1]; rfl
      have hlen2 : (L.take k).length < L.length := by rw [List.length_take]; omega
      have hN1 := HNx.out k hlt
      rw [hnx k hlt] at hN1
      have HN1 := Lib.hid hN1
      obtain ⟨fn, tmps, assign, body, hyy, hR⟩ := HY.out (L.take k) (L.getD k 0) wr HJJ.out hlen2
      have htk := take_snoc hlt
      rw [← htk] at hR
      have HTk : Hid (ints (L.take k) ++ [((L.getD k 0 : Nat) : Int)] = ints (L.take (k + 1))) := by unfold Hid; rw [htk]; simp [ints]
      have hat2 : ((L.getD (sc L.length k) 0 : Nat) : Int) = (atR L (k + 1) : Int) := by
        unfold atR sc
        by_cases e : k + 1 = L.length
        · rw [if_pos e, if_neg (by omega)]
        · rw [if_neg e, if_pos (by omega)]
      rw [hat2] at HN1
      have HNot := Lib.hid hnot
      have HW64 := Lib.hid hw64
      have hs0 := HS.out.lt
      have hz0 := (mapZ_of HS.out)
      have hln : (ints (L.take k)).length = k := by rw [Lis.ints_length, List.length_take]; omega
      generalize L.getD k 0 = x at HNot HW64 hlk hz1 hz2 HN1 hyy hR HTk ⊢
      clear hx hat hnot hxb hw64 htk hat2 hN1 hlen2
      gi_wp2
      refine hR.mono ?_
      rintro e W3 (⟨rfl, hJ3, hk3⟩ | ⟨rfl, hJx3⟩)
      · have hbl3 : Below n₀ wr W3 := hk3.1.toBelow (by omega) (fun j hj q => q (.inl hj))
        have hm3 := HR.out.low hbl3 HL.out hg
        have hB3 := (Fr.block hk3.1 Bm (Array.getElem?_eq_some_iff.1 HB.out).1 (fun q => q (.inr rfl))).trans HB.out
        have hS3 : SetM W3 W.heap.size (ints (L.take k)) := by
          obtain ⟨e, c, he⟩ := setM_block HS.out
          exact setM_same HS.out ((hk3.2 _ _ _ he).trans he.symm)
        obtain ⟨W4, hput, hS4, hg4⟩ := hS3.put HW64.out HNot.out (by rw [hln]; omega)
        rw [HTk.out] at hS4
        have hbl4 : Below n₀ W3 W4 := (Below.refl n₀ W3).grown hg4 (by have := hbl3.size; omega) (fun r e => by cases e; exact hmb)
        have hm4 := hm3.low hbl4 HL.out hg
        have hst4 : StR X R n₀ W3 W4 := ⟨⟨hg4.os, hg4.tape, hg4.output, hg4.size⟩, fun j o ho hj hq => by
          by_cases e : j = W.heap.size
          · subst e
            obtain ⟨e', c', he'⟩ := setM_block hS3
            rw [he'] at ho
            injection ho with ho
            rcases hq with q | q
            · omega
            · exact absurd ho.symm (q _ _)
          · exact (hg4.block j (Array.getElem?_eq_some_iff.1 ho).1 (fun q => e (by cases q; rfl))).trans ho, hm4⟩
        have hB4 := (hg4.block Bm (Array.getElem?_eq_some_iff.1 hB3).1 (fun q => by
          obtain ⟨e', c', he'⟩ := setM_block hS3
          cases q
          rw [hB3] at he'
          cases he')).trans hB3
        have HJ4 := Lib.hid (HJ.out _ _ _ hJ3 hst4)
        have HM4 := Lib.hid hm4
        have HB4 := Lib.hid hB4
        have HS4 := Lib.hid hS4
        have cb3 : W4.cell? ⟨Bm, 0, none⟩ = some (.pointer (some ⟨X.h.g, 0, none⟩)) := (cell_block hB4 0).trans rfl
        clear hm3 hB3 hS3 hbl3 hbl4 hm4 hst4 hB4 hJ3 hk3 hyy hR hS4 hg4
        gi_wp2_with (refine ⟨trivial, ?_⟩; gi_at_call 137; refine (callsIn_wide.2 (HN1.out _ HM4.out)).mono ?_; rintro e W5 ⟨rfl, hm5, hf5⟩)
        have q1 := (hf5.block Bm (Array.getElem?_eq_some_iff.1 HB4.out).1 hbm).trans HB4.out
        have q2 := setM_same HS4.out (hf5.block _ HS4.out.lt hmn)
        have HJ5 := Lib.hid (HJ.out _ _ _ HJ4.out (StR.of_fr hf5 hm5))
        have hz5 := mapZ_of q2
        go_roundw
        case rel => exact ⟨k + 1, rfl, by omega, HJ5.out, hm5, q1, q2⟩
        case measure =>
          rw [hz0, hz5, hln, Lis.ints_length, List.length_take]
          omega
      · clear hR hyy
        gi_wp2
        go_end0
        exact ⟨⟨_, rfl⟩, .inr ⟨_, ⟨L.drop (k + 1), (List.take_append_drop _ _).symm⟩, hJx3⟩⟩
    · obtain rfl : k = L.length := by omega
      have hat : atR L L.length = L.getD 0 0 := if_neg (Nat.lt_irrefl _)
      rw [hat]
      rw [List.take_length] at HJJ HS
      by_cases h0 : L = []
      · have e0 : ((L.getD 0 0 : Nat) : Int) = 0 := by rw [h0]; rfl
        rw [e0]
        gi_wp2
        refine ⟨fun f e => (by cases e), ?_⟩
        gi_wp2
        go_end0
        exact ⟨⟨_, rfl⟩, .inl ⟨_, rfl, HJJ.out⟩⟩
      · have hx := get_in (List.length_pos_iff.2 h0)
        have hxb := HP.out _ hx
        have hlk := HS.out.look (x := ((L.getD 0 0 : Nat) : Int)) (WalkArith.wf_i64 (by omega))
        rw [decide_eq_true (ints_mem.2 hx)] at hlk
        have hz1 : (((L.getD 0 0 : Nat) : Int) == 0) = false := by rw [beq_eq_false_iff_ne]; omega
        have hz2 : (((L.getD 0 0 : Nat) : Int) != 0) = true := by rw [bne, hz1]; rfl
        generalize L.getD 0 0 = x at hlk hz1 hz2 ⊢
        clear hx hxb hat
        gi_wp2
        refine ⟨fun f e => (by cases e), ?_⟩
        gi_wp2
        go_end0
        exact ⟨⟨_, rfl⟩, .inl ⟨_, rfl, HJJ.out⟩⟩
theorem walk_seq (n : Nat) (hn : 1 ≤ n) (L : List Nat) (hnd : L.Nodup) (hE : ∀ x ∈ L, x ∈ X.E) (hlen : L.length ≤ 10000) (hh : R.hand = L.getD 0 0) (hnx : ∀ i, i < L.length → R.nx (L.getD i 0) = L.getD (sc L.length i) 0)
    (w0 : World) (hlo : Lo X.h n₀) (hg : 0 < n₀) (hw : n₀ ≤ w0.heap.size) (hBm0 : n₀ ≤ Bm) (hBm : w0.heap[Bm]? = some (.cells #[pV X.h] 157 (0, 0))) (hm : Rs X R w0) :
    SeqM Fence.wide n Tryz.prog 223 #[.pointer (some ⟨Bm, 0, none⟩)] (fun x : Nat => #[.int .i64 (x : Int)]) (Kv n₀ Bm) (StR X R n₀) (fun ys => ys = L) (fun pre => ∃ rest, L = pre ++ rest) L.length w0 :=
  fun lp J Jx W hW hJ _ hY h0 => walk1_in n hn lp L hnd hE hlen hh hnx J Jx hJ hY W hlo hg (Nat.le_trans hw hW.size) hBm0 ((hW.block _ (Array.getElem?_eq_some_iff.1 hBm).1).trans hBm) (hm.below hW) h0

set_option maxRecDepth 100000 in
set_option maxHeartbeats 4000000 in
theorem all_any (d : Rs X R w) (L : List Nat) (hnd : L.Nodup) (hE : ∀ x ∈ L, x ∈ X.E) (hlen : L.length ≤ 10000) (hh : R.hand = L.getD 0 0) (hnx : ∀ i, i < L.length → R.nx (L.getD i 0) = L.getD (sc L.length i) 0) :
    Calls Tryz.prog 58 #[pV X.h] w fun e w' => ∃ u, RsR X R u w e w' ∧ w'.ownsRow w.heap.size 3 1 u L.length (valsN L) := by
  obtain ⟨i0, hi, hz0, hz1, hz2⟩ := info_parts infoInt
  have HW := Lib.hid (fun V => walk_any X.h.g V)
  obtain ⟨hlo, hg⟩ := d.lo
  refine (callsIn_wide (n := 6)).1 ?_
  refine callsIn_of_wp_marks Tryz.func58 rfl trivial ?_ rfl
  simp only [Tryz.ntmps58, List.size_toArray, List.length_cons, List.length_nil, Nat.reduceAdd, Nat.reduceSub, Array.replicate_succ, Array.replicate_zero, List.push_toArray, List.append_toArray, List.nil_append, List.cons_append]
  unfold pV
  gi_wp2_with (refine ⟨trivial, ?_⟩; gi_at_call 146; refine (callsIn_wide.2 (HW.out _)).mono ?_; rintro e w' ⟨rfl, rfl⟩)
  have b0 := (Boxed.new w 32 (.slice none 0 0)).alloc (.cells #[.pointer (some ⟨X.h.g, 0, none⟩)] 157)
  have b1 := heap_alloc_new (w.alloc (.cells #[.slice none 0 0] 32)) (.cells #[.pointer (some ⟨X.h.g, 0, none⟩)] 157)
  have hbw : Below w.heap.size w ((w.alloc (.cells #[.slice none 0 0] 32)).alloc (.cells #[.pointer (some ⟨X.h.g, 0, none⟩)] 157)) := ((Below.refl _ w).alloc (Nat.le_refl _) _).alloc (by simp) _
  have hz : ((w.alloc (.cells #[.slice none 0 0] 32)).alloc (.cells #[.pointer (some ⟨X.h.g, 0, none⟩)] 157)).heap.size = w.heap.size + 2 := by simp
  have hzz : (w.alloc (.cells #[.slice none 0 0] 32)).heap.size = w.heap.size + 1 := by simp
  rw [hzz] at b1
  generalize hW0 : (w.alloc (.cells #[.slice none 0 0] 32)).alloc (.cells #[.pointer (some ⟨X.h.g, 0, none⟩)] 157) = W0 at b0 b1 hbw hz ⊢
  clear hzz hW0
  have low : ∀ {V U : World}, Rs X R V → Below w.heap.size V U → Rs X R U := fun hv hb => hv.low hb hlo hg
  have hnb : ∀ k, w.heap.size ≤ k → ¬ blkM X.h k := fun k hk q => by have := hlo.m k q; omega
  refine wpIn_range_memM rfl (by omega) (gf := 223) (lb := #[.pointer (some ⟨w.heap.size + 1, 0, none⟩)]) rfl trivial (enters_of Tryz.func223 (by kernel_rfl) rfl)
    (walk_seq 5 (by omega) L hnd hE hlen hh hnx W0 hlo hg (by omega) (by omega) b1 (d.below hbw))
    (fun A B k o st hk hno ho => st.2.1 k o ho (hnb k (by omega)) (.inr hno))
    (fun h k => Kv.trans h k)
    (fun V l r r' hl hr => ⟨⟨rfl, rfl, rfl, by simp, fun k _ hs => World.putObj_heap_other (fun e => hs (by rintro (q | q) <;> omega))⟩, fun k e c hk => (World.putObj_heap_other (by rintro rfl; rw [hr] at hk; cases hk)).trans hk⟩)
    (Below.refl _ _) (fun _ => rfl)
    (fun pre W => (∃ u, Boxed W w.heap.size 32 u ∧ W.ownsRow w.heap.size 3 1 u pre.length (valsN pre) ∧ True) ∧ Rs X R W ∧ Fr w.heap.size (blkM X.h) w W ∧ Boxed W (w.heap.size + 1) 157 (.pointer (some ⟨X.h.g, 0, none⟩)))
    (fun _ _ _ => False)
    (OwnFrom.and (Own.from (holdsRow_own w.heap.size w.heap.size 32 3 1 (fun pre => pre.length) (fun pre => valsN pre) (fun _ _ => True)) _)
      (fun pre A B row hi hg hr => ⟨low hi.1 ((Below.refl _ A).grown hg hi.2.1.size (fun r e => by have := (hr r e).1; omega)), hi.2.1.trans (Fr.of_grown hg hi.2.1.size (fun k e => .inl (by have := (hr k e).1; omega))), hi.2.2.kept hg (fun e => by obtain ⟨o, h1, h2⟩ := (hr _ e.symm).2; rw [hi.2.2] at h1; cases h1; cases h2)⟩))
    (fun _ _ _ _ _ hs _ _ => hs)
    (fun pre A B hi st => by
      obtain ⟨⟨u, q1, q2, -⟩, q3, q4, q5⟩ := hi
      refine ⟨⟨u, st.2.1 _ _ q1 (hnb _ (Nat.le_refl _)) (.inr (fun _ _ q => by cases q)), ⟨q2.1, ?_⟩, trivial⟩, st.2.2, q4.trans (st.fr q4.size), st.2.1 _ _ q5 (hnb _ (by omega)) (.inr (fun _ _ q => by cases q))⟩
      rcases q2.2 with hn | ⟨g, cap, cur, rfl, hb, hgg, rest⟩
      · exact .inl hn
      · exact .inr ⟨g, cap, cur, rfl, hb, st.2.1 _ _ hgg (hnb _ hb) (.inr (fun _ _ q => by cases q)), rest⟩)
    (fun _ _ _ _ hi _ => hi)
    ⟨⟨_, b0, World.ownsRow_nil _ _ _ _, trivial⟩, d.below hbw, Fr.of_below hbw, b1⟩
    (fun x => { tmps := #[.pointer (some ⟨X.h.g, 0, none⟩), undef, .slice none 0 0, .pointer (some ⟨w.heap.size, 0, none⟩), .int .i64 (x : Int), .pointer (some ⟨X.h.g, 0, none⟩), .agg #[.pointer (some ⟨X.h.g, 0, none⟩)], .func (.func 223) #[] #[.pointer (some ⟨w.heap.size + 1, 0, none⟩)], .int .i64 (x : Int), undef, undef, undef, undef, undef], defers := [] })
    ?assign ?body ?done ?stop
  case assign =>
    intro lp x W K hK
    gi_wp2
    exact hK
  case body =>
    rintro lp pre x W ⟨⟨u, bS1, hown, -⟩, hm1, hf1, bR1⟩ hlt
    have cS := bS1.cell
    have hs1 := hf1.size
    have hsz := hf1.size
    gi_wp2_with (gi_at_builtin; refine wpListIn_append_own _ rfl (.tmp 9) (.tmp 11) 32 rfl w.heap.size 3 i0 (.int .i64 0) 1 8 Tryz.underlying32 hi hz0 hz1 hz2 rfl (by decide) _ _ _ rfl (hown.alloc _) ⟨W.heap.size, 0, none⟩ 1 1 [.int .i64 (x : Int)] rfl rfl (news_one _ _ _ _) (oneCell_one _ _) (by unfold maxLen; omega) (by omega) (by simp; omega) ?_; intro v' w1 hown' hgrow _; obtain ⟨g', cap', rfl⟩ := ownsRow_succ hown'; obtain ⟨hv1, hv2, hr2, hk2, hb2⟩ := bS1.appended (by decide) hown hsz (Nat.le_refl _) hown' hgrow; have hc1 := hv1.cell; have hf1' := hv1.frozen; have bR0 := (bR1.alloc _).kept hgrow (bR1.not_row (by decide) hown))
    have bR2 := fun v => bR0.other (show w.heap.size + 1 ≠ w.heap.size by omega) v
    refine ⟨hk2.from _, ⟨⟨hb2.os, hb2.tape, hb2.output, hb2.size, fun k _ q => by
      rcases Decidable.not_not.1 q with q | q
      · exact hb2.block k q
      · rw [q]; exact (bR2 _).trans bR1.symm⟩, fun k e c hk => hk2.same k _ hk rfl⟩, ⟨_, hv2, by rw [List.length_append, valsN_snoc]; exact hr2, trivial⟩, low hm1 hb2, hf1.trans (Fr.of_below hb2), bR2 _⟩
  case done =>
    rintro D ys W hD rfl ⟨⟨u, bS1, hown, -⟩, hm1, hf1, bR1⟩ hK
    have cS := bS1.cell
    have hD2 : w.heap.size ≤ D := by omega
    gi_wp2
    refine ⟨by simp, .inl ⟨_, _, rfl, run_takeDeferred hK, ?_⟩⟩
    have hgr := grownBy_putObj' W D (.deferred none)
    exact ⟨_, results_tmp rfl _ _ _, u, ⟨rfl, low hm1 ((Below.refl _ W).grown hgr hf1.size (fun r e => by cases e; exact hD2)), hf1.trans (Fr.of_grown hgr hf1.size (fun k e => by cases e; exact .inl hD2))⟩, ownsRow_putObj hown _ hK rfl⟩
  case stop =>
    rintro D c pre W _ _ h _
    exact h.elim
end
end Go.Proofs.YtjjfihoplkddfaaGreatDoor.Rin

namespace Go.Proofs.YtjjfihoplkddfaaGreatDoor.Rin
open Go.RowKit Num
open Mem (Mm MemC MRet Hm rd blkM)
open Lis (valsN)
open Sla (Sl St Lv pl aT pV Lo)
open Arn (wrL is64)
set_option linter.unusedVariables false

/-- The links and words say a ring: its entries from the hand on, and the broom's. -/
structure Rp (R : Rv) (E L : List Nat) (br : Nat) : Prop where
  sub : ∀ x ∈ L, x ∈ E
  cy : Cy R.nx R.pv L
  hand : R.hand = L.getD 0 0
  broom : R.broom = br
  brm : br ∈ L ∨ (L = [] ∧ br = 0)
  cnt : R.cnt = L.length
  out : ∀ x ∈ E, x ∉ L → R.nx x = 0 ∧ R.pv x = 0
  pos : ∀ x ∈ E, x ≠ 0
  len : L.length ≤ 10000
section
variable {X : Fx} {R R' : Rv} {E F L : List Nat} {br : Nat} {w W : World}
theorem Rp.hand_in (h : Rp R E L br) : R.hand ∈ L ∨ (L = [] ∧ R.hand = 0) := by
  rw [h.hand]
  by_cases e : L = []
  · right; rw [e]; exact ⟨rfl, rfl⟩
  · left; exact get_in (List.length_pos_iff.2 e)
theorem Rp.same (h : Rp R E L br) (h' : Rp R' E L br) : R'.hand = R.hand ∧ R'.broom = R.broom ∧ R'.cnt = R.cnt ∧ ∀ x ∈ E, R'.nx x = R.nx x ∧ R'.pv x = R.pv x := by
  refine ⟨h'.hand.trans h.hand.symm, h'.broom.trans h.broom.symm, h'.cnt.trans h.cnt.symm, fun x hx => ?_⟩
  by_cases hL : x ∈ L
  · obtain ⟨i, hi, rfl⟩ := at_of hL
    exact ⟨(h'.cy.n i hi).trans (h.cy.n i hi).symm, (h'.cy.p i hi).trans (h.cy.p i hi).symm⟩
  · obtain ⟨a, b⟩ := h.out x hx hL
    obtain ⟨c, d⟩ := h'.out x hx hL
    exact ⟨c.trans a.symm, d.trans b.symm⟩
theorem Rp.start (E : List Nat) (hE : ∀ x ∈ E, x ≠ 0) (R : Rv) (h1 : R.hand = 0) (h2 : R.broom = 0) (h3 : R.cnt = 0) (ho : ∀ x ∈ E, R.nx x = 0 ∧ R.pv x = 0) : Rp R E [] 0 :=
  ⟨fun x hx => (by cases hx), Cy.nil _ _, h1, h2, .inr ⟨rfl, rfl⟩, h3, fun x hx _ => ho x hx, hE, by simp⟩
theorem Rp.more (h : Rp R E L br) {a : Nat} (ha : a ≠ 0) (hn : R.nx a = 0 ∧ R.pv a = 0) : Rp R (a :: E) L br :=
  ⟨fun x hx => .tail _ (h.sub x hx), h.cy, h.hand, h.broom, h.brm, h.cnt, fun x hx hL => by
    rcases List.mem_cons.1 hx with rfl | hx
    · exact hn
    · exact h.out x hx hL, fun x hx => by
    rcases List.mem_cons.1 hx with rfl | hx
    · exact ha
    · exact h.pos x hx, h.len⟩
theorem Rp.less (h : Rp R E L br) (hs : ∀ x ∈ F, x ∈ E) (hL : ∀ x ∈ L, x ∈ F) : Rp R F L br :=
  ⟨hL, h.cy, h.hand, h.broom, h.brm, h.cnt, fun x hx q => h.out x (hs x hx) q, fun x hx => h.pos x (hs x hx), h.len⟩
theorem Rp.congr (h : Rp R E L br) (e1 : R'.hand = R.hand) (e2 : R'.broom = R.broom) (e3 : R'.cnt = R.cnt) (e4 : ∀ x ∈ E, R'.nx x = R.nx x ∧ R'.pv x = R.pv x) : Rp R' E L br :=
  ⟨h.sub, ⟨h.cy.nd, fun i hi => (e4 _ (h.sub _ (get_in hi))).1.trans (h.cy.n i hi), fun i hi => (e4 _ (h.sub _ (get_in hi))).2.trans (h.cy.p i hi)⟩, e1.trans h.hand, e2.trans h.broom, h.brm, e3.trans h.cnt,
    fun x hx q => by obtain ⟨a, b⟩ := e4 x hx; rw [a, b]; exact h.out x hx q, h.pos, h.len⟩

/-- What a ring holds. -/
structure Rg (X : Fx) (L : List Nat) (br : Nat) (W : World) : Prop where
  ex : ∃ R, Rs X R W ∧ Rp R X.E L br
def RgR (X : Fx) (L : List Nat) (br : Nat) (r : Value) (w : World) (e : Ending) (w' : World) : Prop := e = .returned r ∧ Rg X L br w' ∧ Fr w.heap.size (blkM X.h) w w'
theorem Rg.below {W' : World} (d : Rg X L br W) (hb : Below W.heap.size W W') : Rg X L br W' := by
  obtain ⟨R, h1, h2⟩ := d
  exact ⟨R, h1.below hb, h2⟩
theorem Rg.nodup (d : Rg X L br W) : L.Nodup := by
  obtain ⟨R, h1, h2⟩ := d
  exact h2.cy.nd
theorem Rg.sub (d : Rg X L br W) : ∀ x ∈ L, x ∈ X.E := by
  obtain ⟨R, h1, h2⟩ := d
  exact h2.sub
theorem Rg.brm (d : Rg X L br W) : br ∈ L ∨ (L = [] ∧ br = 0) := by
  obtain ⟨R, h1, h2⟩ := d
  exact h2.brm
theorem Rg.facts (d : Rg X L br W) {x : Nat} (hx : x ∈ X.E) : 128 ≤ x ∧ x % 16 = 0 ∧ x + 32 ≤ 100000 := by
  obtain ⟨R, h1, h2⟩ := d
  exact h1.facts hx
theorem Rg.len (d : Rg X L br W) : L.length ≤ 10000 := by
  obtain ⟨R, h1, h2⟩ := d
  exact h2.len
theorem Rg.insert (d : Rg X L br w) {a : Nat} (ha : a ∈ X.E) (hL : a ∉ L) (hl : L.length < 10000) :
    Calls Tryz.prog 54 #[pV X.h, .int .i64 (a : Int)] w (RgR X (L ++ [a]) (if L = [] then a else br) (.int .i64 0) w) := by
  obtain ⟨R, h1, h2⟩ := d
  obtain ⟨z1, z2⟩ := h2.out a ha hL
  have hcnt : R.cnt < 4294967295 := by rw [h2.cnt]; omega
  by_cases he : L = []
  · subst he
    rw [if_pos rfl]
    refine (insert_first h1 ha z1 h2.hand hcnt).mono ?_
    rintro e w' ⟨rfl, hs, hf⟩
    refine ⟨rfl, ⟨_, hs, ⟨?_, ?_, rfl, rfl, .inl (.head _), ?_, ?_, h2.pos, by simp⟩⟩, hf⟩
    · intro x hx
      simp at hx
      rw [hx]; exact ha
    · have e : ∀ f : Nat → Nat, up (up f a a) a a = up f a a := fun f => by funext y; unfold up; split <;> rfl
      simp only [e]
      exact Cy.one _ _ _
    · show R.cnt + 1 = 1
      rw [h2.cnt]; rfl
    · intro x hx hn
      have hxa : x ≠ a := by rintro rfl; exact hn (by simp)
      obtain ⟨y1, y2⟩ := h2.out x hx (by simp)
      exact ⟨by show up (up R.nx a a) a a x = 0; rw [up_other _ hxa, up_other _ hxa, y1], by show up (up R.pv a a) a a x = 0; rw [up_other _ hxa, up_other _ hxa, y2]⟩
  · rw [if_neg he]
    have hp := List.length_pos_iff.2 he
    have hc : L.getD 0 0 ∈ L := get_in hp
    have hpv := h2.cy.pv_in hc
    have hac : a ≠ L.getD 0 0 := fun q => hL (q ▸ hc)
    refine (insert_more h1 ha z1 h2.hand (h2.sub _ hc) rfl (h2.sub _ hpv) hac hcnt).mono ?_
    rintro e w' ⟨rfl, hs, hf⟩
    refine ⟨rfl, ⟨_, hs, ⟨?_, h2.cy.insert hL he rfl rfl, ?_, h2.broom, ?_, ?_, ?_, h2.pos, ?_⟩⟩, hf⟩
    · intro x hx
      rcases List.mem_append.1 hx with q | q
      · exact h2.sub x q
      · simp at q; rw [q]; exact ha
    · show R.hand = _
      rw [h2.hand, snoc_get, if_pos hp]
    · rcases h2.brm with q | ⟨q, -⟩
      · exact .inl (List.mem_append_left _ q)
      · exact absurd q he
    · show R.cnt + 1 = _
      rw [h2.cnt]; simp
    · intro x hx hn
      have hxa : x ≠ a := by rintro rfl; exact hn (by simp)
      have hxL : x ∉ L := fun q => hn (List.mem_append_left _ q)
      have hxc : x ≠ L.getD 0 0 := fun q => hxL (q ▸ hc)
      have hxp : x ≠ R.pv (L.getD 0 0) := fun q => hxL (q ▸ hpv)
      obtain ⟨y1, y2⟩ := h2.out x hx hxL
      exact ⟨by show up (up R.nx a _) _ a x = 0; rw [up_other _ hxp, up_other _ hxa, y1], by show up (up R.pv a _) _ a x = 0; rw [up_other _ hxc, up_other _ hxa, y2]⟩
    · simp; omega
theorem Rg.insert_again (d : Rg X L br w) {a : Nat} (hL : a ∈ L) :
    Calls Tryz.prog 54 #[pV X.h, .int .i64 (a : Int)] w (RgR X L br (.int .i64 8) w) := by
  obtain ⟨R, h1, h2⟩ := d
  refine (insert_linked h1 (h2.sub a hL) (h2.pos _ (h2.sub _ (h2.cy.nx_in hL)))).mono ?_
  rintro e w' ⟨rfl, hs, hf⟩
  exact ⟨rfl, ⟨R, hs, h2⟩, hf⟩
/-- Where the broom is when the entry at a place is taken out. -/
def brD (L : List Nat) (br k : Nat) : Nat := if br = L.getD k 0 then (if L.length < 2 then 0 else L.getD (sc L.length k) 0) else br
theorem Rg.remove (d : Rg X L br w) {k : Nat} (hk : k < L.length) :
    Calls Tryz.prog 46 #[pV X.h, .int .i64 ((L.getD k 0 : Nat) : Int)] w (RgR X (L.eraseIdx k) (brD L br k) (.int .i64 0) w) := by
  obtain ⟨R, h1, h2⟩ := d
  have ha := get_in hk
  have hnE := h2.cy.nx_in ha
  have hpE := h2.cy.pv_in ha
  have hh : R.hand ∈ X.E ∨ R.hand = 0 := h2.hand_in.imp (h2.sub _) (fun q => q.2)
  have hb : R.broom ∈ X.E ∨ R.broom = 0 := by rw [h2.broom]; exact h2.brm.imp (h2.sub _) (fun q => q.2)
  have hlen := h2.len
  refine (remove_any h1 (h2.sub _ ha) rfl (h2.sub _ hnE) rfl (h2.sub _ hpE) hh hb (by rw [h2.cnt]; omega) (by rw [h2.cnt]; omega)).mono ?_
  rintro e w' ⟨rfl, hs, hf⟩
  have hcy := h2.cy.remove hk rfl rfl rfl
  have hnx := h2.cy.n k hk
  have inj := fun {i j : Nat} (hi : i < L.length) (hj : j < L.length) (e : L.getD i 0 = L.getD j 0) => get_inj h2.cy.nd hi hj e
  have hself : R.nx (L.getD k 0) = L.getD k 0 ↔ L.length < 2 := by
    rw [hnx]
    constructor
    · intro q
      have := inj (sc_lt hk) hk q
      unfold sc at this
      split at this <;> omega
    · intro q
      congr 1
      unfold sc
      split <;> omega
  have hs2 : (if R.nx (L.getD k 0) = L.getD k 0 then 0 else R.nx (L.getD k 0)) = if L.length < 2 then 0 else L.getD (sc L.length k) 0 := by
    by_cases q : L.length < 2
    · rw [if_pos (hself.2 q), if_pos q]
    · rw [if_neg (fun e => q (hself.1 e)), if_neg q, hnx]
  refine ⟨rfl, ⟨_, hs, ⟨?_, hcy, ?_, ?_, ?_, ?_, ?_, h2.pos, ?_⟩⟩, hf⟩
  · intro x hx
    exact h2.sub x ((del_in h2.cy.nd hk x).1 hx).1
  · show (if R.hand = _ then _ else R.hand) = _
    rw [hs2, h2.hand, del_get]
    by_cases h0 : k = 0
    · subst h0
      rw [if_pos rfl]
      by_cases q : L.length < 2
      · rw [if_pos q]
        have e : ix 0 0 = 1 := rfl
        rw [e, List.getD, List.getElem?_eq_none (by omega)]
        rfl
      · rw [if_neg q]
        congr 1
        unfold sc ix
        rw [if_neg (by omega), if_neg (by omega)]
    · have h1 : ¬ L.getD 0 0 = L.getD k 0 := fun q => h0 (inj (by omega) hk q).symm
      rw [if_neg h1]
      congr 1
      unfold ix
      rw [if_pos (by omega)]
  · show (if R.broom = _ then _ else R.broom) = _
    rw [hs2, h2.broom]
    rfl
  · unfold brD
    rcases h2.brm with q | ⟨q, -⟩
    · by_cases e : br = L.getD k 0
      · rw [if_pos e]
        by_cases h : L.length < 2
        · rw [if_pos h]
          exact .inr ⟨List.length_eq_zero_iff.1 (by rw [del_len hk]; omega), rfl⟩
        · rw [if_neg h]
          refine .inl ((del_in h2.cy.nd hk _).2 ⟨get_in (sc_lt hk), fun q => ?_⟩)
          have := inj (sc_lt hk) hk q
          unfold sc at this
          split at this <;> omega
      · rw [if_neg e]
        exact .inl ((del_in h2.cy.nd hk _).2 ⟨q, e⟩)
    · rw [q] at hk
      simp at hk
  · show R.cnt - 1 = _
    rw [h2.cnt, del_len hk]
  · intro x hx hn
    show up (up R.nx _ _) (L.getD k 0) 0 x = 0 ∧ up (up R.pv _ _) (L.getD k 0) 0 x = 0
    by_cases e : x = L.getD k 0
    · subst e
      exact ⟨up_same _ _ _, up_same _ _ _⟩
    · have hxL : x ∉ L := fun q => hn ((del_in h2.cy.nd hk x).2 ⟨q, e⟩)
      obtain ⟨y1, y2⟩ := h2.out x hx hxL
      have n1 : x ≠ R.pv (L.getD k 0) := fun q => hxL (q ▸ hpE)
      have n2 : x ≠ R.nx (L.getD k 0) := fun q => hxL (q ▸ hnE)
      exact ⟨by rw [up_other _ e, up_other _ n1, y1], by rw [up_other _ e, up_other _ n2, y2]⟩
  · rw [del_len hk]
    omega
theorem Rg.remove_none (d : Rg X L br w) {a : Nat} (ha : a ∈ X.E) (hL : a ∉ L) :
    Calls Tryz.prog 46 #[pV X.h, .int .i64 (a : Int)] w (RgR X L br (.int .i64 7) w) := by
  obtain ⟨R, h1, h2⟩ := d
  refine (Rin.remove_none h1 ha (h2.out a ha hL).1).mono ?_
  rintro e w' ⟨rfl, hs, hf⟩
  exact ⟨rfl, ⟨R, hs, h2⟩, hf⟩
theorem Rg.hand (d : Rg X L br w) : Calls Tryz.prog 59 #[pV X.h] w (RgR X L br (.int .i64 ((L.getD 0 0 : Nat) : Int)) w) := by
  obtain ⟨R, h1, h2⟩ := d
  have := hand_any h1 (h2.hand_in.imp (h2.sub _) (fun q => q.2))
  rw [h2.hand] at this
  refine this.mono ?_
  rintro e w' ⟨rfl, hs, hf⟩
  exact ⟨rfl, ⟨R, hs, h2⟩, hf⟩
theorem Rg.broom (d : Rg X L br w) : Calls Tryz.prog 61 #[pV X.h] w (RgR X L br (.int .i64 (br : Int)) w) := by
  obtain ⟨R, h1, h2⟩ := d
  have := broom_any h1 (by rw [h2.broom]; exact h2.brm.imp (h2.sub _) (fun q => q.2))
  rw [h2.broom] at this
  refine this.mono ?_
  rintro e w' ⟨rfl, hs, hf⟩
  exact ⟨rfl, ⟨R, hs, h2⟩, hf⟩
theorem Rg.length (d : Rg X L br w) : Calls Tryz.prog 62 #[pV X.h] w (RgR X L br (.int .i64 (L.length : Int)) w) := by
  obtain ⟨R, h1, h2⟩ := d
  have hlen := h2.len
  have := len_any h1 (by rw [h2.cnt]; omega)
  rw [h2.cnt] at this
  refine this.mono ?_
  rintro e w' ⟨rfl, hs, hf⟩
  exact ⟨rfl, ⟨R, hs, h2⟩, hf⟩
theorem rot_head {L : List Nat} (h : L ≠ []) : (rot L).getD 0 0 = L.getD (sc L.length 0) 0 := rot_get (List.length_pos_iff.2 h)
theorem Rg.turn (d : Rg X L br w) : Calls Tryz.prog 48 #[pV X.h] w (RgR X (rot L) br (.int .i64 ((L.getD 0 0 : Nat) : Int)) w) := by
  obtain ⟨R, h1, h2⟩ := d
  have hin := h2.hand_in
  have := turn_any h1 (hin.imp (fun q => ⟨h2.sub _ q, h2.sub _ (h2.cy.nx_in q)⟩) (fun q => q.2))
  refine this.mono ?_
  rintro e w' ⟨rfl, hs, hf⟩
  rw [h2.hand] at hs ⊢
  refine ⟨rfl, ?_, hf⟩
  rcases hin with q | ⟨q, -⟩
  · rw [h2.hand] at q
    have hne : L ≠ [] := List.ne_nil_of_mem q
    rw [if_neg (h2.pos _ (h2.sub _ q))] at hs
    refine ⟨_, hs, fun x hx => h2.sub x ((rot_mem L x).1 hx), h2.cy.rot, ?_, h2.broom, h2.brm.imp (fun q => (rot_mem L _).2 q) (fun q => absurd q.1 hne), ?_, fun x hx hn => h2.out x hx (fun q => hn ((rot_mem L x).2 q)), h2.pos, by rw [rot_len]; exact h2.len⟩
    · show R.nx (L.getD 0 0) = _
      rw [rot_head hne, h2.cy.n 0 (List.length_pos_iff.2 hne)]
    · show R.cnt = _
      rw [h2.cnt, rot_len]
  · subst q
    rw [if_pos (show ([] : List Nat).getD 0 0 = 0 from rfl)] at hs
    exact ⟨R, hs, h2⟩
/-- Where the broom is behind a stroke. -/
def brN (L : List Nat) (br : Nat) : Nat := if L.length < 2 then br else L.getD (sc L.length (L.idxOf br)) 0
theorem idx_at {L : List Nat} (h : L.Nodup) {i : Nat} (hi : i < L.length) : L.idxOf (L.getD i 0) = i := by
  have e : L.getD i 0 = L[i] := by rw [List.getD, List.getElem?_eq_getElem hi]; rfl
  rw [e]
  have h1 : L.idxOf L[i] < L.length := List.idxOf_lt_length_of_mem (List.getElem_mem hi)
  exact nd_inj h h1 hi (List.getElem_idxOf h1)
theorem Rg.brush (d : Rg X L br w) : Calls Tryz.prog 50 #[pV X.h] w (RgR X L (brN L br) (.int .i64 (br : Int)) w) := by
  obtain ⟨R, h1, h2⟩ := d
  have := brush_any h1 (by rw [h2.broom]; exact h2.brm.imp (fun q => ⟨h2.sub _ q, h2.sub _ (h2.cy.nx_in q)⟩) (fun q => q.2))
  refine this.mono ?_
  rintro e w' ⟨rfl, hs, hf⟩
  rw [h2.broom] at hs ⊢
  refine ⟨rfl, ?_, hf⟩
  rcases h2.brm with q | ⟨q, rfl⟩
  · rw [if_neg (h2.pos _ (h2.sub _ q))] at hs
    obtain ⟨i, hi, hbi⟩ := at_of q
    have hnx : R.nx br = brN L br := by
      rw [← hbi, h2.cy.n i hi]
      unfold brN
      rw [idx_at h2.cy.nd hi]
      by_cases h : L.length < 2
      · rw [if_pos h]
        congr 1
        unfold sc
        split <;> omega
      · rw [if_neg h]
    refine ⟨_, hs, h2.sub, h2.cy, h2.hand, hnx, .inl ?_, h2.cnt, h2.out, h2.pos, h2.len⟩
    rw [← hnx]
    exact h2.cy.nx_in q
  · subst q
    rw [if_pos rfl] at hs
    have e : brN [] 0 = 0 := rfl
    rw [e]
    exact ⟨R, hs, h2⟩
theorem Rg.all (d : Rg X L br w) : Calls Tryz.prog 58 #[pV X.h] w fun e w' => ∃ u, RgR X L br u w e w' ∧ w'.ownsRow w.heap.size 3 1 u L.length (valsN L) := by
  obtain ⟨R, h1, h2⟩ := d
  refine (all_any h1 L h2.cy.nd h2.sub h2.len h2.hand h2.cy.n).mono ?_
  rintro e w' ⟨u, ⟨rfl, hs, hf⟩, ho⟩
  exact ⟨u, ⟨rfl, ⟨R, hs, h2⟩, hf⟩, ho⟩
/-- An entry lies elsewhere: its bytes are at t, too. -/
theorem move_rp {f t k : Nat} {R2 R3 R4 : Rv} {n p : Nat} (h2 : Rp R E L br) (hk : k < L.length) (hf : L.getD k 0 = f) (ht : t ∉ E) (hn : R.nx t = R.nx f) (hp : R.pv t = R.pv f)
    (e2 : R2 = fol f t (fol f t R 5 t) 6 t) (hnn : R2.nx t = n) (e3 : R3 = fol f t R2 6 n) (hpp : R3.pv t = p) (e4 : R4 = fol f t R3 5 p) (hF : ∀ x ∈ F, x = t ∨ (x ∈ E ∧ x ≠ f)) (hF2 : ∀ x ∈ L.set k t, x ∈ F) (ht0 : t ≠ 0) :
    Rp (rk R4 f t 2) F (L.set k t) (mv f t br) := by
  have hft : f ≠ t := fun q => ht (by rw [← q, ← hf]; exact h2.sub _ (get_in hk))
  have hfL : f ∈ L := hf ▸ get_in hk
  have htL : t ∉ L := fun q => ht (h2.sub _ q)
  have hmt : mv f t t = t := by unfold mv; rw [if_neg (Ne.symm hft)]
  have mvne : ∀ v, mv f t v = v ∨ v = f := fun v => by unfold mv; split; right; assumption; left; rfl
  have nxin := fun {x : Nat} (hx : x ∈ L) => h2.cy.nx_in hx
  have pvin := fun {x : Nat} (hx : x ∈ L) => h2.cy.pv_in hx
  have nxpv : ∀ x ∈ L, R.nx (R.pv x) = x := fun x hx => by
    obtain ⟨i, hi, rfl⟩ := at_of hx
    rw [h2.cy.p i hi, h2.cy.n _ (pd_lt hi)]
    congr 1
    unfold sc pd
    repeat' split
    all_goals omega
  have pvnx : ∀ x ∈ L, R.pv (R.nx x) = x := fun x hx => by
    obtain ⟨i, hi, rfl⟩ := at_of hx
    rw [h2.cy.n i hi, h2.cy.p _ (sc_lt hi)]
    congr 1
    unfold sc pd
    repeat' split
    all_goals omega
  -- the maps
  have hR2n : R2.nx = up R.nx t (mv f t (R.nx f)) := by rw [e2, ← hn]; rfl
  have hR2p : R2.pv = up R.pv t (mv f t (R.pv f)) := by rw [e2, ← hp]; rfl
  have hn1 : n = mv f t (R.nx f) := by rw [← hnn, hR2n, up_same]
  have hR3n : R3.nx = R2.nx := by rw [e3]; rfl
  have hR3p : R3.pv = up R2.pv n (mv f t (R2.pv n)) := by rw [e3]; rfl
  have hp1 : p = mv f t (R.pv f) := by
    rw [← hpp, hR3p]
    by_cases h : t = n
    · rw [← h, up_same, hR2p, up_same]
      rcases mvne (R.pv f) with q | q
      · rw [q, q]
      · rw [q]; unfold mv; rw [if_pos rfl, if_neg (Ne.symm hft)]
    · rw [up_other _ h, hR2p, up_same]
  have hR4n : R4.nx = up R2.nx p (mv f t (R2.nx p)) := by rw [e4, ← hR3n]; rfl
  have hR4p : R4.pv = R3.pv := by rw [e4]; rfl
  have hw : R4.hand = R.hand ∧ R4.broom = R.broom ∧ R4.cnt = R.cnt := by rw [e4, e3, e2]; exact ⟨rfl, rfl, rfl⟩
  have n1 : (rk R4 f t 2).nx t = mv f t (R.nx f) := by
    show R4.nx t = _
    rw [hR4n]
    by_cases h : t = p
    · rw [← h, up_same, hR2n, up_same]
      rcases mvne (R.nx f) with q | q
      · rw [q, q]
      · rw [q]; unfold mv; rw [if_pos rfl, if_neg (Ne.symm hft)]
    · rw [up_other _ h, hR2n, up_same]
  have p1 : (rk R4 f t 2).pv t = mv f t (R.pv f) := by
    show R4.pv t = _
    rw [hR4p, hpp, hp1]
  have n2 : ∀ x ∈ L, x ≠ f → (rk R4 f t 2).nx x = mv f t (R.nx x) := fun x hx hxf => by
    show R4.nx x = _
    have hxt : x ≠ t := fun q => htL (q ▸ hx)
    rw [hR4n]
    by_cases h : x = p
    · rw [← h, up_same, hR2n, up_other _ hxt]
    · rw [up_other _ h, hR2n, up_other _ hxt]
      rcases mvne (R.nx x) with q | q
      · exact q.symm
      · exfalso
        apply h
        have h5 := pvnx x hx
        rw [q] at h5
        rw [hp1, h5]
        unfold mv
        rw [if_neg hxf]
  have p2 : ∀ x ∈ L, x ≠ f → (rk R4 f t 2).pv x = mv f t (R.pv x) := fun x hx hxf => by
    show R4.pv x = _
    have hxt : x ≠ t := fun q => htL (q ▸ hx)
    rw [hR4p, hR3p]
    by_cases h : x = n
    · rw [← h, up_same, hR2p, up_other _ hxt]
    · rw [up_other _ h, hR2p, up_other _ hxt]
      rcases mvne (R.pv x) with q | q
      · exact q.symm
      · exfalso
        apply h
        have h5 := nxpv x hx
        rw [q] at h5
        rw [hn1, h5]
        unfold mv
        rw [if_neg hxf]
  refine ⟨hF2, h2.cy.move hk hf htL n1 p1 n2 p2, ?_, ?_, ?_, ?_, fun x hx hnx => ?_, fun x hx => ?_, by rw [List.length_set]; exact h2.len⟩
  · show (if 1 ≤ 2 ∧ R4.hand = f then t else R4.hand) = _
    rw [hw.1, h2.hand, set_get _ _ _ _ hk]
    by_cases h0 : 0 = k
    · subst h0
      rw [if_pos rfl, if_pos ⟨by omega, hf⟩]
    · rw [if_neg h0, if_neg (fun q => h0 (get_inj h2.cy.nd (by omega) hk (q.2.trans hf.symm)))]
  · show (if 2 ≤ 2 ∧ R4.broom = f then t else R4.broom) = _
    rw [hw.2.1, h2.broom]
    unfold mv
    by_cases h : br = f
    · rw [if_pos ⟨Nat.le_refl _, h⟩, if_pos h]
    · rw [if_neg (fun q => h q.2), if_neg h]
  · rcases h2.brm with q | ⟨q, -⟩
    · left
      obtain ⟨i, hi, rfl⟩ := at_of q
      have : (L.set k t).getD i 0 ∈ L.set k t := get_in (by rw [List.length_set]; exact hi)
      rw [set_get _ _ _ _ hk] at this
      unfold mv
      by_cases e : i = k
      · subst e
        rw [if_pos rfl] at this
        rw [if_pos hf]
        exact this
      · rw [if_neg e] at this
        rw [if_neg (fun q => e (get_inj h2.cy.nd hi hk (q.trans hf.symm)))]
        exact this
    · rw [q] at hk; simp at hk
  · show R4.cnt = _
    rw [hw.2.2, h2.cnt, List.length_set]
  · rcases hF x hx with rfl | ⟨hxE, hxf⟩
    · have hg : (L.set k x).getD k 0 = x := by rw [set_get _ _ _ _ hk, if_pos rfl]
      have hi : (L.set k x).getD k 0 ∈ L.set k x := get_in (by rw [List.length_set]; exact hk)
      rw [hg] at hi
      exact absurd hi hnx
    · have hxt : x ≠ t := fun q => ht (q ▸ hxE)
      have hxL : x ∉ L := fun q => by
        obtain ⟨i, hi, rfl⟩ := at_of q
        have hik : i ≠ k := fun e => hxf (by rw [e, hf])
        have : (L.set k t).getD i 0 ∈ L.set k t := get_in (by rw [List.length_set]; exact hi)
        rw [set_get _ _ _ _ hk, if_neg hik] at this
        exact hnx this
      obtain ⟨y1, y2⟩ := h2.out x hxE hxL
      have hxp : x ≠ p := fun q => by
        rcases mvne (R.pv f) with e | e
        · rw [hp1, e] at q; exact hxL (q ▸ pvin hfL)
        · rw [hp1, e] at q; unfold mv at q; rw [if_pos rfl] at q; exact hxt q
      have hxn : x ≠ n := fun q => by
        rcases mvne (R.nx f) with e | e
        · rw [hn1, e] at q; exact hxL (q ▸ nxin hfL)
        · rw [hn1, e] at q; unfold mv at q; rw [if_pos rfl] at q; exact hxt q
      refine ⟨?_, ?_⟩
      · show R4.nx x = 0
        rw [hR4n, up_other _ hxp, hR2n, up_other _ hxt, y1]
      · show R4.pv x = 0
        rw [hR4p, hR3p, up_other _ hxn, hR2p, up_other _ hxt, y2]
  · rcases hF x hx with rfl | ⟨hxE, -⟩
    · exact ht0
    · exact h2.pos x hxE
end
end Go.Proofs.YtjjfihoplkddfaaGreatDoor.Rin

namespace Go.Proofs.YtjjfihoplkddfaaGreatDoor.Rin
open Go.RowKit Num
open Mem (Mm MemC MRet Hm rd blkM)
open Lis (Cf LM LR Tb at_ Nx Pv Rep Hx valsN cell_lt tab_same)
open Sla (Sl St Sx SM SR Lv pl aT pV Lo Tk Tkn Gvn Kp tkF gvF Ts mem_lt bl_in zero_v)
open Cls (szC blC pdC)
open Arn (wrL is64)
set_option linter.unusedVariables false

/-! ### Entries -/
def eB (c : Int) : Hea.Blk := { Hea.Blk.zero with tag := 1, cls := c }
theorem eB_ok {c : Int} (h1 : 1 ≤ c) (h9 : c ≤ 9) : EOk (eB c) := by
  refine ⟨?_, .inr (.inl ⟨rfl, h1, h9, rfl, show (0 : Int) ≤ 0 by decide, show (0 : Int) ≤ 480 by decide, rfl⟩), rfl⟩
  constructor <;> simp [eB, Hea.Blk.zero, Hea.i64, Hea.u32, Hea.u64, Hea.u16] <;> omega
section
variable {h : Hm} {S N : Nat} {l0 l l' : List Int} {T T' : List Sl} {w0 w w' W W' : World} {n : Nat} {E L : List Nat} {br : Nat} {B : Nat → Hea.Blk} {R : Rv}
/-- A head is put. -/
theorem st_put (d : St h S N l l T W) {x : Nat} (hx : Lv S N T x) {b : Hea.Blk} (hb : EOk b) :
    Calls Tryz.prog 138 #[pV h, .int .i64 (x : Int), b.agg] W fun e W' => e = .returned (.int .i64 0) ∧ St h S N (wrL l x (Hea.encL b)) (wrL l x (Hea.encL b)) T W' ∧ Fr W.heap.size (blkM h) W W' := by
  obtain ⟨h1, h2, h3'⟩ := st_len d
  have hat := lv_at d hx
  have e32 := enc32 hb.tag
  obtain ⟨H, L, ⟨C, rfl, rfl, h3, h4, h5⟩, d2⟩ := d
  obtain ⟨j, k, hj, hk, rfl⟩ := hx
  refine (h4.put b hb.ok hb.right (fun lk => by rw [hb.tag]; exact room_live h5 hj hk l lk)).mono ?_
  intro e w' hr
  have hin := bl_in (mem_lt hk).1
  have hx := Sx.inside (l' := wrL l (pl (aT C.s C.n j) (T.getD j Sl.zero).c k) (Hea.encL b)) h5 hj hk (Arn.wrL_length _ _ _ (by rw [e32]; omega)) (fun t q => by
    rw [Mem.wr_get _ _ _ _ (by rw [e32]; omega), if_neg (by rw [e32]; omega)])
  exact ⟨hr.1, st_self ⟨H, L, ⟨C, rfl, rfl, h3, hr.2.1, hx⟩, d2⟩, hr.2.2⟩
theorem kp_at (hk : Kp S N T T' l l') {x : Nat} (hx : Lv S N T x) (hs : ∀ j k, j < S → k ∈ (T.getD j Sl.zero).v → x = pl (aT S N j) (T.getD j Sl.zero).c k → k ∈ (T'.getD j Sl.zero).v ∧ (T'.getD j Sl.zero).c = (T.getD j Sl.zero).c) : ∀ t, x ≤ t → t < x + 32 → l'.getD t 0 = l.getD t 0 := by
  obtain ⟨j, k, hj, hk', rfl⟩ := hx
  intro t h1 h2
  obtain ⟨g1, g2⟩ := hs j k hj hk' rfl
  have hin := bl_in (mem_lt hk').1
  have := hk j k hj hk' g1 g2 (t - pl (aT S N j) (T.getD j Sl.zero).c k) (by omega)
  rw [show pl (aT S N j) (T.getD j Sl.zero).c k + (t - pl (aT S N j) (T.getD j Sl.zero).c k) = t by omega] at this
  exact this
theorem tkn_at {c : Int} {j k : Nat} (t : Tkn S N T T' c j k) : ∀ j' k', j' < S → k' ∈ (T.getD j' Sl.zero).v → k' ∈ (T'.getD j' Sl.zero).v ∧ (T'.getD j' Sl.zero).c = (T.getD j' Sl.zero).c := by
  intro j' k' hj' hk'
  by_cases hjj : j' = j
  · subst hjj
    refine ⟨(t.mem k').2 (.inr hk'), ?_⟩
    rcases t.old with q | q
    · have := t.cls; omega
    · rw [zero_v q] at hk'; cases hk'
  · rw [t.oth j' hjj]
    exact ⟨hk', rfl⟩

/-! ### The memory within a statement -/
abbrev fx (h : Hm) (T : List Sl) (E : List Nat) (B : Nat → Hea.Blk) (lb : List Int) : Fx := ⟨h, 7, 224, T, E, B, lb⟩
structure Wr (w0 : World) (h : Hm) (n : Nat) (T : List Sl) (E L : List Nat) (br : Nat) (W : World) : Prop where
  ex : ∃ B lb, Rg (fx h T E B lb) L br W
  b : Below w0.heap.size w0 W
  kk : ∀ k, blkM h k → w0.heap.size ≤ k
  lo : Lo h n
  lc : 0 < n
  nn : n ≤ W.heap.size
  n0 : w0.heap.size ≤ n
theorem Wr.fr {L' E' : List Nat} {br' : Nat} (d : Wr w0 h n T E L br W) (hr : ∃ B lb, Rg (fx h T' E' B lb) L' br' W') (hf : Fr W.heap.size (blkM h) W W') : Wr w0 h n T' E' L' br' W' :=
  ⟨hr, d.b.trans (hf.toBelow d.b.size (fun k hk q => by have := d.kk k q; omega)), d.kk, d.lo, d.lc, Nat.le_trans d.nn hf.size, d.n0⟩
theorem Wr.below (d : Wr w0 h n T E L br W) (hb : Below W.heap.size W W') : Wr w0 h n T E L br W' := by
  obtain ⟨B, lb, hr⟩ := d.ex
  exact ⟨⟨B, lb, hr.below hb⟩, d.b.trans (hb.mono d.b.size), d.kk, d.lo, d.lc, Nat.le_trans d.nn hb.size, d.n0⟩
theorem Wr.drew (d : Wr w0 h n T E L br W) : Wr w0 h n T E L br W.drew := d.below (Below.refl _ _).drew
theorem Wr.low (d : Wr w0 h n T E L br W) (hb : Below n W W') : Wr w0 h n T E L br W' := by
  obtain ⟨B, lb, R, h1, h2⟩ := d.ex
  exact ⟨⟨B, lb, R, h1.low hb d.lo d.lc, h2⟩, d.b.trans (hb.mono d.n0), d.kk, d.lo, d.lc, Nat.le_trans d.nn hb.size, d.n0⟩
theorem Wr.ts (d : Wr w0 h n T E L br W) : Ts W ∧ TabC W := by
  obtain ⟨B, lb, R, ⟨l, h1, h2⟩, h3⟩ := d.ex
  exact ⟨h1.st.ts, h1.tc⟩
theorem Wr.nodup (d : Wr w0 h n T E L br W) : L.Nodup := by
  obtain ⟨B, lb, hr⟩ := d.ex
  exact hr.nodup
theorem Wr.sub (d : Wr w0 h n T E L br W) : ∀ x ∈ L, x ∈ E := by
  obtain ⟨B, lb, hr⟩ := d.ex
  exact hr.sub
theorem Wr.brm (d : Wr w0 h n T E L br W) : br ∈ L ∨ (L = [] ∧ br = 0) := by
  obtain ⟨B, lb, hr⟩ := d.ex
  exact hr.brm
theorem Wr.facts (d : Wr w0 h n T E L br W) {x : Nat} (hx : x ∈ E) : 128 ≤ x ∧ x % 16 = 0 ∧ x + 32 ≤ 100000 := by
  obtain ⟨B, lb, hr⟩ := d.ex
  exact hr.facts hx
theorem Wr.tk (d : Wr w0 h n T E L br W) : Tk 7 T := by
  obtain ⟨B, lb, R, ⟨l, h1, h2⟩, h3⟩ := d.ex
  exact h1.st.tk
theorem Wr.insert (d : Wr w0 h n T E L br W) {a : Nat} (ha : a ∈ E) (hL : a ∉ L) (hl : L.length < 10000) : Calls Tryz.prog 54 #[pV h, .int .i64 (a : Int)] W fun e W' => e = .returned (.int .i64 0) ∧ Wr w0 h n T E (L ++ [a]) (if L = [] then a else br) W' ∧ Fr W.heap.size (blkM h) W W' := by
  obtain ⟨B, lb, hr⟩ := d.ex
  refine (hr.insert ha hL hl).mono ?_
  rintro e w' ⟨rfl, h1, hf⟩
  exact ⟨rfl, d.fr ⟨B, lb, h1⟩ hf, hf⟩
theorem Wr.insert_again (d : Wr w0 h n T E L br W) {a : Nat} (hL : a ∈ L) : Calls Tryz.prog 54 #[pV h, .int .i64 (a : Int)] W fun e W' => e = .returned (.int .i64 8) ∧ Wr w0 h n T E L br W' ∧ Fr W.heap.size (blkM h) W W' := by
  obtain ⟨B, lb, hr⟩ := d.ex
  refine (hr.insert_again hL).mono ?_
  rintro e w' ⟨rfl, h1, hf⟩
  exact ⟨rfl, d.fr ⟨B, lb, h1⟩ hf, hf⟩
theorem Wr.remove (d : Wr w0 h n T E L br W) {k : Nat} (hk : k < L.length) : Calls Tryz.prog 46 #[pV h, .int .i64 ((L.getD k 0 : Nat) : Int)] W fun e W' => e = .returned (.int .i64 0) ∧ Wr w0 h n T E (L.eraseIdx k) (brD L br k) W' ∧ Fr W.heap.size (blkM h) W W' := by
  obtain ⟨B, lb, hr⟩ := d.ex
  refine (hr.remove hk).mono ?_
  rintro e w' ⟨rfl, h1, hf⟩
  exact ⟨rfl, d.fr ⟨B, lb, h1⟩ hf, hf⟩
theorem Wr.remove_none (d : Wr w0 h n T E L br W) {a : Nat} (ha : a ∈ E) (hL : a ∉ L) : Calls Tryz.prog 46 #[pV h, .int .i64 (a : Int)] W fun e W' => e = .returned (.int .i64 7) ∧ Wr w0 h n T E L br W' ∧ Fr W.heap.size (blkM h) W W' := by
  obtain ⟨B, lb, hr⟩ := d.ex
  refine (hr.remove_none ha hL).mono ?_
  rintro e w' ⟨rfl, h1, hf⟩
  exact ⟨rfl, d.fr ⟨B, lb, h1⟩ hf, hf⟩
theorem Wr.hand (d : Wr w0 h n T E L br W) : Calls Tryz.prog 59 #[pV h] W fun e W' => e = .returned (.int .i64 ((L.getD 0 0 : Nat) : Int)) ∧ Wr w0 h n T E L br W' ∧ Fr W.heap.size (blkM h) W W' := by
  obtain ⟨B, lb, hr⟩ := d.ex
  refine hr.hand.mono ?_
  rintro e w' ⟨rfl, h1, hf⟩
  exact ⟨rfl, d.fr ⟨B, lb, h1⟩ hf, hf⟩
theorem Wr.broom (d : Wr w0 h n T E L br W) : Calls Tryz.prog 61 #[pV h] W fun e W' => e = .returned (.int .i64 (br : Int)) ∧ Wr w0 h n T E L br W' ∧ Fr W.heap.size (blkM h) W W' := by
  obtain ⟨B, lb, hr⟩ := d.ex
  refine hr.broom.mono ?_
  rintro e w' ⟨rfl, h1, hf⟩
  exact ⟨rfl, d.fr ⟨B, lb, h1⟩ hf, hf⟩
theorem Wr.length (d : Wr w0 h n T E L br W) : Calls Tryz.prog 62 #[pV h] W fun e W' => e = .returned (.int .i64 (L.length : Int)) ∧ Wr w0 h n T E L br W' ∧ Fr W.heap.size (blkM h) W W' := by
  obtain ⟨B, lb, hr⟩ := d.ex
  refine hr.length.mono ?_
  rintro e w' ⟨rfl, h1, hf⟩
  exact ⟨rfl, d.fr ⟨B, lb, h1⟩ hf, hf⟩
theorem Wr.turn (d : Wr w0 h n T E L br W) : Calls Tryz.prog 48 #[pV h] W fun e W' => e = .returned (.int .i64 ((L.getD 0 0 : Nat) : Int)) ∧ Wr w0 h n T E (rot L) br W' ∧ Fr W.heap.size (blkM h) W W' := by
  obtain ⟨B, lb, hr⟩ := d.ex
  refine hr.turn.mono ?_
  rintro e w' ⟨rfl, h1, hf⟩
  exact ⟨rfl, d.fr ⟨B, lb, h1⟩ hf, hf⟩
theorem Wr.brush (d : Wr w0 h n T E L br W) : Calls Tryz.prog 50 #[pV h] W fun e W' => e = .returned (.int .i64 (br : Int)) ∧ Wr w0 h n T E L (brN L br) W' ∧ Fr W.heap.size (blkM h) W W' := by
  obtain ⟨B, lb, hr⟩ := d.ex
  refine hr.brush.mono ?_
  rintro e w' ⟨rfl, h1, hf⟩
  exact ⟨rfl, d.fr ⟨B, lb, h1⟩ hf, hf⟩
theorem Wr.all (d : Wr w0 h n T E L br W) : Calls Tryz.prog 58 #[pV h] W fun e W' => ∃ u, e = .returned u ∧ Wr w0 h n T E L br W' ∧ Fr W.heap.size (blkM h) W W' ∧ W'.ownsRow W.heap.size 3 1 u L.length (valsN L) := by
  obtain ⟨B, lb, hr⟩ := d.ex
  refine hr.all.mono ?_
  rintro e w' ⟨u, ⟨rfl, h1, hf⟩, ho⟩
  exact ⟨u, rfl, d.fr ⟨B, lb, h1⟩ hf, hf, ho⟩
theorem Wr.faults (d : Wr w0 h n T E L br W) (hz : h.z = false) : Calls Tryz.prog 19 #[pV h] W fun e W' => e = .returned (.int .i64 0) ∧ Below W.heap.size W W' := by
  obtain ⟨B, lb, R, ⟨l, h1, h2⟩, h3⟩ := d.ex
  exact h1.st.faults hz

/-! ### A block is taken, and an entry put -/
theorem Wr.take (d : Wr w0 h n T E L br W) (c : Int) : Calls Tryz.prog 12 #[pV h, .int .i64 c] W fun e W' =>
    (∃ x er, er ≠ 0 ∧ (tkF 7 224 T c).1.2 = er ∧ e = .returned (.tuple #[.int .i64 x, .int .i64 er]) ∧ Wr w0 h n T E L br W' ∧ Fr W.heap.size (blkM h) W W') ∨
    (∃ a : Nat, (tkF 7 224 T c).1 = ((a : Int), 0) ∧ e = .returned (.tuple #[.int .i64 (a : Int), .int .i64 0]) ∧ a ∉ E ∧ Lv 7 224 (tkF 7 224 T c).2 a ∧ 1 ≤ c ∧ c ≤ 9 ∧ Wr w0 h n (tkF 7 224 T c).2 E L br W' ∧ Fr W.heap.size (blkM h) W W') := by
  obtain ⟨B, lb, R, ⟨l, h1, h2⟩, h3⟩ := d.ex
  refine (h1.st.take c).mono ?_
  rintro e W' ⟨l', he, hs, hf, hk, hz⟩
  have hlow := fun t (q1 : 60 ≤ t) (q2 : t < 72) => st_low hs q1 (by omega)
  have hlen : l'.length = l.length := (st_len hs).1.trans (st_len h1.st).1.symm
  have htc := tabC_fr h1.tc h1.st hf
  rcases Sla.tk_spec (N := 224) h1.st.tk c with ⟨q1, q2⟩ | ⟨q1, j, k, q2, q3⟩
  · rw [q2] at hs hk
    have hrb := h1.rb.same hlen hlow (fun x hx => kp_at hk (h1.lv x hx) (fun j k _ hk' _ => ⟨hk', rfl⟩))
    exact .inl ⟨_, _, q1, rfl, he, d.fr ⟨B, l', R, ⟨l', ⟨st_self hs, h1.lv, hrb, htc⟩, Nr.refl _ _⟩, h3⟩ hf, hf⟩
  · have hrb := h1.rb.same hlen hlow (fun x hx => kp_at hk (h1.lv x hx) (fun j' k' hj' hk' _ => tkn_at q3 j' k' hj' hk'))
    have hlv := fun x hx => (q3.lv h1.st.tk x).2 (.inr (h1.lv x hx))
    refine .inr ⟨_, ?_, ?_, fun q => q3.fresh (h1.lv _ q), (q3.lv h1.st.tk _).2 (.inl rfl), q3.c1, q3.c9, d.fr ⟨B, l', R, ⟨l', ⟨st_self hs, hlv, hrb, htc⟩, Nr.refl _ _⟩, h3⟩ hf, hf⟩
    · rw [← q2, ← q1]
    · rw [he, q1, q2]
theorem wr_part32 {l X : List Int} {a : Nat} (hX : X.length = 32) (ha : a + 32 ≤ l.length) : ((wrL l a X).drop a).take 32 = X := by
  have := Mem.wr_part l X a (by rw [hX]; exact ha)
  rw [hX] at this
  exact this
/-- An entry's head is put into a new block. -/
theorem Wr.put (d : Wr w0 h n T E L br W) {a : Nat} (ha : a ∉ E) (hlv : Lv 7 224 T a) {b : Hea.Blk} (hb : EOk b) (n0 : b.next = 0) (p0 : b.prev = 0) :
    Calls Tryz.prog 138 #[pV h, .int .i64 (a : Int), b.agg] W fun e W' => e = .returned (.int .i64 0) ∧ Wr w0 h n T (a :: E) L br W' ∧ Fr W.heap.size (blkM h) W W' := by
  obtain ⟨B, lb, R, ⟨l, h1, h2⟩, h3⟩ := d.ex
  have hlen := st_len h1.st
  have hat := lv_at h1.st hlv
  have e32 := enc32 hb.tag
  refine (st_put h1.st hlv hb).mono ?_
  rintro e W' ⟨rfl, hs, hf⟩
  have hget := fun t => Mem.wr_get l (Hea.encL b) a t (by rw [e32]; omega)
  have hrb := h1.rb.same (l' := wrL l a (Hea.encL b)) (Arn.wrL_length _ _ _ (by rw [e32]; omega)) (fun t q1 q2 => by rw [hget, if_neg (by rw [e32]; omega)]) (fun x hx t q1 q2 => by
    have := lv_apart (h1.lv x hx) hlv (by rintro rfl; exact ha hx)
    rw [hget, if_neg (by rw [e32]; omega)])
  have hne : ∀ x ∈ E, x ≠ a := by rintro x hx rfl; exact ha hx
  have hB : ∀ x ∈ E, bl (fun y => if y = a then b else B y) { R with nx := up R.nx a 0, pv := up R.pv a 0 } x = bl B R x := fun x hx => by
    unfold bl
    simp only [if_neg (hne x hx), up_other _ (hne x hx)]
  have hBa : bl (fun y => if y = a then b else B y) { R with nx := up R.nx a 0, pv := up R.pv a 0 } a = b := by
    unfold bl
    simp only [if_pos trivial, up_same]
    obtain ⟨q1, q2, q3, q4, q5, q6, q7, q8, q9, q10, q11, q12⟩ := b
    simp only at n0 p0
    subst n0 p0
    rfl
  refine ⟨rfl, d.fr ⟨(fun y => if y = a then b else B y), wrL l a (Hea.encL b), { R with nx := up R.nx a 0, pv := up R.pv a 0 }, ⟨_, ⟨hs, fun x hx => ?_, ⟨fun x hx => ?_, fun x hx => ?_, hrb.hand, hrb.broom, hrb.cnt⟩, tabC_fr h1.tc h1.st hf⟩, Nr.refl _ _⟩, ?_⟩ hf, hf⟩
  · rcases List.mem_cons.1 hx with rfl | hx
    · exact hlv
    · exact h1.lv x hx
  · rcases List.mem_cons.1 hx with rfl | hx
    · rw [hBa]
      exact wr_part32 e32 (by omega)
    · rw [hB x hx]
      exact hrb.ent x hx
  · rcases List.mem_cons.1 hx with rfl | hx
    · refine ⟨by simp only [if_pos trivial]; exact hb, ?_, ?_⟩
      · show up R.nx x 0 x < _
        rw [up_same]; omega
      · show up R.pv x 0 x < _
        rw [up_same]; omega
    · obtain ⟨g1, g2, g3⟩ := hrb.ok x hx
      refine ⟨by simp only [if_neg (hne x hx)]; exact g1, ?_, ?_⟩
      · show up R.nx a 0 x < _
        rw [up_other _ (hne x hx)]; exact g2
      · show up R.pv a 0 x < _
        rw [up_other _ (hne x hx)]; exact g3
  · exact Rp.more (R := { R with nx := up R.nx a 0, pv := up R.pv a 0 }) (h3.congr rfl rfl rfl (fun x hx => ⟨up_other _ (hne x hx), up_other _ (hne x hx)⟩)) (by have := hat.1; omega) ⟨up_same _ _ _, up_same _ _ _⟩
set_option maxRecDepth 100000 in
theorem Wr.entry (d : Wr w0 h n T E L br W) (c : Int) : Calls Tryz.prog 57 #[pV h, .int .i64 c] W fun e W' =>
    ((tkF 7 224 T c).1.2 ≠ 0 ∧ e = .returned (.int .i64 0) ∧ Wr w0 h n T E L br W' ∧ Fr W.heap.size (blkM h) W W') ∨
    (∃ a : Nat, (tkF 7 224 T c).1 = ((a : Int), 0) ∧ e = .returned (.int .i64 (a : Int)) ∧ a ∉ E ∧ Wr w0 h n (tkF 7 224 T c).2 (a :: E) L br W' ∧ Fr W.heap.size (blkM h) W W') := by
  have HT := Lib.hid (d.take c)
  have HP := Lib.hid (fun (a : Nat) W' (hW : Wr w0 h n (tkF 7 224 T c).2 E L br W') (ha : a ∉ E) (hlv : Lv 7 224 (tkF 7 224 T c).2 a) (h1 : 1 ≤ c) (h9 : c ≤ 9) => hW.put ha hlv (eB_ok h1 h9) rfl rfl)
  generalize tkF 7 224 T c = q at HT HP ⊢
  clear d
  unfold eB Hea.Blk.zero Hea.Blk.agg at HP
  simp only at HP
  unfold pV at *
  go_enter Tryz.func57, Tryz.ntmps57
  go_wp2_with fail
  refine HT.out.mono ?_
  rintro e w1 (⟨x, er, hne, her, rfl, hd, hf⟩ | ⟨a, hq, rfl, haE, hlv, h1, h9, hd, hf⟩)
  · have hne1 : (er == 0) = false := by simpa using hne
    have hne2 : (er != 0) = true := by rw [bne, hne1]; rfl
    have HE : Hid (q.1.2 ≠ 0 ∧ Wr w0 h n T E L br w1 ∧ Fr W.heap.size (blkM h) W w1) := ⟨by rw [her]; exact hne, hd, hf⟩
    clear hne her hd hf HT HP
    go_wp2
    go_ret
    exact .inl ⟨HE.out.1, rfl, HE.out.2⟩
  · have HP1 := Lib.hid (HP.out a w1 hd haE hlv h1 h9)
    have HF := Lib.hid hf
    have HQ : Hid (q.1 = ((a : Int), 0) ∧ a ∉ E) := ⟨hq, haE⟩
    clear hd hf HT HP hq haE hlv h1 h9
    go_wp2_with fail
    refine HP1.out.mono ?_
    rintro e w2 ⟨rfl, hd2, hf2⟩
    have HE : Hid (Wr w0 h n q.2 (a :: E) L br w2 ∧ Fr W.heap.size (blkM h) W w2) := ⟨hd2, HF.out.trans (hf2.mono HF.out.size (fun _ _ q => q))⟩
    clear hd2 hf2 HP1
    go_wp2
    go_ret
    exact .inr ⟨a, HQ.out.1, rfl, HQ.out.2, HE.out⟩
end
end Go.Proofs.YtjjfihoplkddfaaGreatDoor.Rin

namespace Go.Proofs.YtjjfihoplkddfaaGreatDoor.Rin
open Go.RowKit Num
open Mem (Mm MemC MRet Hm rd blkM)
open Lis (Cf LM LR Tb at_ Nx Pv Rep Hx valsN cell_lt tab_same ints)
open Sla (Sl St Sx SM SR Lv pl aT pV Lo Tk Tkn Gvn Kp tkF gvF Ts mem_lt bl_in zero_v OwnI X0 X1 X2)
open Cls (szC blC pdC)
open Arn (wrL is64)
set_option linter.unusedVariables false

def bk (R : Rv) (k : Nat) : Rv := { R with hand := if 1 ≤ k then 0 else R.hand, broom := if 2 ≤ k then 0 else R.broom }
theorem bk_step (R : Rv) {k : Nat} (hk : k < 2) : (bk R k).setW (13 + (k : Int)) 0 = bk R (k + 1) := by
  rcases (show k = 0 ∨ k = 1 by omega) with rfl | rfl <;> simp [bk, Rv.setW]
section
variable {h : Hm} {S N : Nat} {l0 l l' : List Int} {T T' : List Sl} {w0 w w' W W' : World} {n : Nat} {E L : List Nat} {br : Nat} {B : Nat → Hea.Blk} {R : Rv}
theorem rd4_nat {l : List Int} (hl : Arn.IsBytes l) (a : Nat) : ∃ v : Nat, rd l a 4 = (v : Int) := by
  have := (Mem.rd_bd hl a 4).1
  exact ⟨(rd l a 4).toNat, by omega⟩
set_option maxRecDepth 100000 in
theorem begin_any (d : St h S N l l T w) (tc : TabC w) (B : Nat → Hea.Blk) : Calls Tryz.prog 124 #[pV h] w fun e w' => e = .returned (.int .i64 0) ∧ (∃ lb, Rg ⟨h, S, N, T, [], B, lb⟩ [] 0 w') ∧ Fr w.heap.size (blkM h) w w' := by
  obtain ⟨v1, hv1⟩ := rd4_nat (st_bytes d) 60
  obtain ⟨v2, hv2⟩ := rd4_nat (st_bytes d) 64
  obtain ⟨v3, hv3⟩ := rd4_nat (st_bytes d) 68
  obtain ⟨R, hR⟩ : ∃ R : Rv, R = ⟨v1, v2, v3, fun _ => 0, fun _ => 0⟩ := ⟨_, rfl⟩
  have hd : Rs ⟨h, S, N, T, [], B, l⟩ R w := ⟨l, ⟨d, fun x hx => (by cases hx), ⟨fun x hx => (by cases hx), fun x hx => (by cases hx), by rw [hR]; exact hv1, by rw [hR]; exact hv2, by rw [hR]; exact hv3⟩, tc⟩, Nr.refl _ _⟩
  obtain ⟨X, hX⟩ : ∃ X : Fx, X = ⟨h, S, N, T, [], B, l⟩ := ⟨_, rfl⟩
  rw [← hX] at hd
  have eh : h = X.h := by rw [hX]
  have HM := Lib.hid (made_any hd)
  have HSr := Lib.hid (fun (k : Nat) (hk : k < 2) W (hW : Rs X (bk R k) W) => hW.setRoot (f := 13 + (k : Int)) (by omega) (v := 0) (by omega))
  have HSl := Lib.hid (fun W (hW : Rs X (bk R 2) W) => hW.setRoot (f := 15) (.inr (.inr rfl)) (v := 0) (by omega))
  have HSt := Lib.hid (fun (k : Nat) (hk : k < 2) => bk_step R hk)
  have HD : Hid (Rs X (bk R 0) w) := hd
  have HEnd : Hid (∀ W', RsR X ((bk R 2).setW 15 0) (.int .i64 0) w (.returned (.int .i64 0)) W' → (∃ lb, Rg ⟨h, S, N, T, [], B, lb⟩ [] 0 W') ∧ Fr w.heap.size (blkM h) w W') := fun W' hq => by
    obtain ⟨-, hs, hf⟩ := hq
    rw [hX] at hs hf
    exact ⟨⟨l, _, hs, Rp.start [] (fun x hx => (by cases hx)) _ rfl rfl rfl (fun x hx => (by cases hx))⟩, hf⟩
  rw [show ((0 : Nat) : Int) = 0 from rfl] at HSr HSl
  obtain ⟨t0, t1⟩ := tc.cell
  have Ht := Lib.hid tc
  rw [eh]
  rw [eh] at HEnd
  clear hv1 hv2 hv3 hR hd eh hX d tc
  generalize (bk R 2).setW 15 0 = R9 at HSl HEnd
  unfold pV at *
  go_enter Tryz.func124, Tryz.ntmps124
  go_wp2_with fail
  refine HM.out.mono ?_
  rintro e w1 ⟨rfl, hb1⟩
  obtain ⟨t0, t1⟩ := (Ht.out.keep hb1).cell
  have HD1 : Hid (Rs X (bk R 0) w1 ∧ Fr w.heap.size (blkM X.h) w w1) := ⟨HD.out.below hb1, Fr.of_below hb1⟩
  clear hb1 HM HD
  go_wp2
  clear t0 t1
  go_loopw [9] (fun i wr => ∃ k : Nat, k ≤ 2 ∧ i = .int .i64 k ∧ Hid (Rs X (bk R k) wr ∧ Fr w.heap.size (blkM X.h) w wr)) (fun i _ => 2 - (intOf i).toNat)
  case atStart => exact ⟨0, Nat.zero_le _, rfl, HD1.out⟩
  case round =>
    obtain ⟨k, hk, rfl, HR⟩ := hrel
    by_cases hlt : k < 2
    · have hlt1 : (k : Int) < 2 := by omega
      have hlt0 : (0 : Int) ≤ (k : Int) := by omega
      have hix := fun u => index_cur hlt u
      have HS1 := Lib.hid (HSr.out k hlt _ HR.out.1)
      rw [HSt.out k hlt] at HS1
      generalize (13 + (k : Int)) = c at HS1 hix
      go_wp2_with fail
      refine HS1.out.mono ?_
      rintro e w3 hq
      obtain rfl := hq.1
      have HR2 : Hid (Rs X (bk R (k + 1)) w3 ∧ Fr w.heap.size (blkM X.h) w w3) := ⟨hq.2.1, HR.out.2.trans (hq.2.2.mono HR.out.2.size (fun _ _ q => q))⟩
      clear hq HS1 HR
      go_wp2
      go_roundw
      case rel => exact ⟨k + 1, by omega, by go_num, HR2.out⟩
      case measure => simp [intOf]; omega
    · obtain rfl : k = 2 := by omega
      go_wp2_with fail
      refine (HSl.out _ HR.out.1).mono ?_
      rintro e w3 hq
      obtain rfl := hq.1
      have HE := Lib.hid (HEnd.out w3 ⟨rfl, hq.2.1, HR.out.2.trans (hq.2.2.mono HR.out.2.size (fun _ _ q => q))⟩)
      clear hq HSl HR HSr HSt
      go_wp2
      go_ret
      exact ⟨rfl, HE.out⟩
set_option maxRecDepth 100000 in
theorem fresh_any (z : Bool) (w : World) (ht : Ts w) (tc : TabC w) : Calls Tryz.prog 44 #[] w fun e w' => ∃ h, e = .returned (pV h) ∧ h.z = z ∧ Wr w h w'.heap.size X0 [] [] 0 w' ∧ Below w.heap.size w w' := by
  have hr : Lay.rightC ((7 : Nat) : Int) ((224 : Nat) : Int) = true := by decide
  have HN := Lib.hid (Sla.new_z z 7 224 w hr ht.t ht.h)
  have HB := Lib.hid (fun h W (d : SM h (Lis.newCf 7 224) (Sla.newL 7 224) W) => Sla.begin_any (fun t ht => Sla.newL_far 7 224 ht) hr d)
  have HR := Lib.hid (fun (h : Hm) (l : List Int) (T : List Sl) W (d : St h 7 224 l l T W) (t : TabC W) => begin_any d t (fun _ => Hea.Blk.zero))
  have HT := Lib.hid tc
  rw [show ((7 : Nat) : Int) = 7 from rfl, show ((224 : Nat) : Int) = 224 from rfl] at HN
  change Hid (∀ h W, _ → Calls _ _ _ _ fun e w' => ∃ l', _ ∧ St h 7 224 l' l' X0 w' ∧ _) at HB
  generalize X0 = Y0 at *
  clear ht tc hr
  unfold pV at *
  go_enter Tryz.func44, Tryz.ntmps44
  go_wp2_with fail
  refine HN.out.mono ?_
  rintro e w1 ⟨h, rfl, hd1, hb1, hk, hz⟩
  have HZ := Lib.hid hz
  have HK := Lib.hid hk
  have HB1 := Lib.hid hb1
  clear hz hk hb1 HN
  go_wp2_with fail
  refine (HB.out _ _ hd1).mono ?_
  rintro e w2 ⟨l2, rfl, hd2, hf2⟩
  have HB2 := Lib.hid (HB1.out.trans (hf2.toBelow HB1.out.size (fun k hlt q => by have := HK.out k q; omega)))
  have HT2 := Lib.hid (HT.out.keep HB2.out)
  clear hf2 HB hd1 HB1
  go_wp2_with fail
  refine (HR.out _ _ _ _ hd2 HT2.out).mono ?_
  rintro e w3 ⟨rfl, ⟨lb, hg3⟩, hf3⟩
  have HB3 := Lib.hid (HB2.out.trans (hf3.toBelow HB2.out.size (fun k hlt q => by have := HK.out k q; omega)))
  have HE : Hid (Wr w h w3.heap.size Y0 [] [] 0 w3) := by
    obtain ⟨R, h1, h2⟩ := id hg3
    exact ⟨⟨_, lb, hg3⟩, HB3.out, HK.out, h1.lo.1, h1.lo.2, Nat.le_refl _, HB3.out.size⟩
  clear hf3 hg3 hd2 HR HB2 HT2 HT
  go_wp2
  go_ret
  exact ⟨h, rfl, HZ.out, HE.out, HB3.out⟩
end
end Go.Proofs.YtjjfihoplkddfaaGreatDoor.Rin

namespace Go.Proofs.YtjjfihoplkddfaaGreatDoor.Rin
open Go.RowKit Num
open Mem (Mm MemC MRet Hm rd blkM)
open Lis (valsN ints)
open Sla (Sl St Lv pl aT pV Lo Tk tkF Ts OwnI X0 X1 X2)
open Arn (wrL is64)
set_option linter.unusedVariables false

def Z3 : List Sl := (tkF 7 224 X2 2).2
def Z4 : List Sl := (tkF 7 224 Z3 1).2
set_option maxRecDepth 100000 in
theorem exz3 : (tkF 7 224 X2 2).1 = (((2160 : Nat) : Int), 0) := by kernel_rfl
set_option maxRecDepth 100000 in
theorem exz4 : (tkF 7 224 Z3 1).1 = (((1200 : Nat) : Int), 0) := by kernel_rfl
section
variable {h : Hm} {T : List Sl} {w0 w w' W W' : World} {n : Nat} {E L : List Nat} {br : Nat}
theorem Wr.entry_yes (d : Wr w0 h n T E L br W) {c : Int} {a : Nat} (he : (tkF 7 224 T c).1 = ((a : Int), 0)) : Calls Tryz.prog 57 #[pV h, .int .i64 c] W fun e W' =>
    e = .returned (.int .i64 (a : Int)) ∧ a ∉ E ∧ Wr w0 h n (tkF 7 224 T c).2 (a :: E) L br W' ∧ Fr W.heap.size (blkM h) W W' := by
  refine (d.entry c).mono ?_
  rintro e W' (⟨q, -⟩ | ⟨a', q, rfl, h1, h2, h3⟩)
  · rw [he] at q
    exact absurd rfl q
  · rw [he] at q
    have : a' = a := by
      have := congrArg Prod.fst q
      simp only at this
      omega
    subst this
    exact ⟨rfl, h1, h2, h3⟩
theorem own_row {u : Value} {A : List Nat} (r : OwnI n W u A) (hA : ∀ x ∈ A, x ≤ 100000) : Row .i64 W u (ints A) := (r.row hA).1
set_option maxRecDepth 100000 in
set_option maxHeartbeats 4000000 in
theorem turns_any (w : World) (ht : Ts w) (tc : TabC w) : Calls Tryz.prog 43 #[] w fun e w' => e = .returned (.bool true) ∧ Below w.heap.size w w' := by
  have HF := Lib.hid (fresh_any false w ht tc)
  have e1 := fun h n W (d : Wr w h n X0 [] [] 0 W) => d.entry_yes (c := 1) (a := 1136) Sla.ex1
  have e2 := fun h n W (d : Wr w h n X1 [1136] [] 0 W) => d.entry_yes (c := 1) (a := 1168) Sla.ex2
  have e3 := fun h n W (d : Wr w h n X2 [1168, 1136] [] 0 W) => d.entry_yes (c := 2) (a := 2160) exz3
  have e4 := fun h n W (d : Wr w h n Z3 [2160, 1168, 1136] [] 0 W) => d.entry_yes (c := 1) (a := 1200) exz4
  change ∀ h n W, _ → Calls _ _ _ _ fun e w' => _ ∧ _ ∧ Wr w h n X1 _ _ _ w' ∧ _ at e1
  change ∀ h n W, _ → Calls _ _ _ _ fun e w' => _ ∧ _ ∧ Wr w h n X2 _ _ _ w' ∧ _ at e2
  change ∀ h n W, _ → Calls _ _ _ _ fun e w' => _ ∧ _ ∧ Wr w h n Z3 _ _ _ w' ∧ _ at e3
  change ∀ h n W, _ → Calls _ _ _ _ fun e w' => _ ∧ _ ∧ Wr w h n Z4 _ _ _ w' ∧ _ at e4
  obtain ⟨E4, hE4⟩ : ∃ E4 : List Nat, E4 = [1200, 2160, 1168, 1136] := ⟨_, rfl⟩
  rw [← hE4] at e4
  have i1 := fun h n W (d : Wr w h n Z4 E4 [] 0 W) => d.insert (a := 1136) (by rw [hE4]; decide) (by decide) (by decide)
  have i2 := fun h n W (d : Wr w h n Z4 E4 [1136] 1136 W) => d.insert (a := 1168) (by rw [hE4]; decide) (by decide) (by decide)
  have i3 := fun h n W (d : Wr w h n Z4 E4 [1136, 1168] 1136 W) => d.insert (a := 2160) (by rw [hE4]; decide) (by decide) (by decide)
  have al := fun h n W (d : Wr w h n Z4 E4 [1136, 1168, 2160] 1136 W) => d.all
  have tu := fun h n W (d : Wr w h n Z4 E4 [1136, 1168, 2160] 1136 W) => d.turn
  have i4 := fun h n W (d : Wr w h n Z4 E4 [1168, 2160, 1136] 1136 W) => d.insert (a := 1200) (by rw [hE4]; decide) (by decide) (by decide)
  have al2 := fun h n W (d : Wr w h n Z4 E4 [1168, 2160, 1136, 1200] 1136 W) => d.all
  have bro := fun h n W (d : Wr w h n Z4 E4 [1168, 2160, 1136, 1200] 1136 W) => d.broom
  have lne := fun h n W (d : Wr w h n Z4 E4 [1168, 2160, 1136, 1200] 1136 W) => d.length
  have ia := fun h n W (d : Wr w h n Z4 E4 [1168, 2160, 1136, 1200] 1136 W) => d.insert_again (a := 1136) (by decide)
  have fa := fun h n W (d : Wr w h n Z4 E4 [1168, 2160, 1136, 1200] 1136 W) (hz : h.z = false) => d.faults hz
  have s1 := fun W u v (h1 : Row .i64 W u (ints [1136, 1168, 2160])) (h2 : Row .i64 W v (ints [1136, 1168, 2160])) => Lis.refSame_any u v _ W h1 h2
  have s2 := fun W u v (h1 : Row .i64 W u (ints [1168, 2160, 1136, 1200])) (h2 : Row .i64 W v (ints [1168, 2160, 1136, 1200])) => Lis.refSame_any u v _ W h1 h2
  clear hE4
  change ∀ h n W, _ → Calls _ _ _ _ fun e w' => _ ∧ Wr w h n Z4 E4 [1136] 1136 w' ∧ _ at i1
  change ∀ h n W, _ → Calls _ _ _ _ fun e w' => _ ∧ Wr w h n Z4 E4 [1136, 1168] 1136 w' ∧ _ at i2
  change ∀ h n W, _ → Calls _ _ _ _ fun e w' => _ ∧ Wr w h n Z4 E4 [1136, 1168, 2160] 1136 w' ∧ _ at i3
  change ∀ h n W, _ → Calls _ _ _ _ fun e w' => e = .returned (.int .i64 ((1136 : Nat) : Int)) ∧ Wr w h n Z4 E4 [1168, 2160, 1136] 1136 w' ∧ _ at tu
  change ∀ h n W, _ → Calls _ _ _ _ fun e w' => _ ∧ Wr w h n Z4 E4 [1168, 2160, 1136, 1200] 1136 w' ∧ _ at i4
  change ∀ h n W, _ → Calls _ _ _ _ fun e w' => e = .returned (.int .i64 ((4 : Nat) : Int)) ∧ _ at lne
  have c1 : ((1136 : Nat) : Int) = 1136 := rfl
  have c2 : ((1168 : Nat) : Int) = 1168 := rfl
  have c3 : ((2160 : Nat) : Int) = 2160 := rfl
  have c4 : ((1200 : Nat) : Int) = 1200 := rfl
  have c5 : ((4 : Nat) : Int) = 4 := rfl
  rw [c1] at e1 i1 tu ia
  rw [c2] at e2 i2
  rw [c3] at e3 i3
  rw [c4] at e4 i4
  rw [c5] at lne
  have bro' : ∀ h n W, Wr w h n Z4 E4 [1168, 2160, 1136, 1200] 1136 W → Calls Tryz.prog 61 #[pV h] W fun e W' => e = .returned (.int .i64 1136) ∧ Wr w h n Z4 E4 [1168, 2160, 1136, 1200] 1136 W' ∧ Fr W.heap.size (blkM h) W W' := bro
  have HE1 := Lib.hid e1
  have HE2 := Lib.hid e2
  have HE3 := Lib.hid e3
  have HE4 := Lib.hid e4
  have HI1 := Lib.hid i1
  have HI2 := Lib.hid i2
  have HI3 := Lib.hid i3
  have HI4 := Lib.hid i4
  have HAl := Lib.hid al
  have HTu := Lib.hid tu
  have HAl2 := Lib.hid al2
  have HBr := Lib.hid bro'
  have HLe := Lib.hid lne
  have HIa := Lib.hid ia
  have HFa := Lib.hid fa
  have HS1 := Lib.hid s1
  have HS2 := Lib.hid s2
  clear e1 e2 e3 e4 i1 i2 i3 i4 al tu al2 bro bro' lne ia fa s1 s2 c1 c2 c3 c4 c5 ht tc
  generalize X0 = Y0 at *
  generalize X1 = Y1 at *
  generalize X2 = Y2 at *
  generalize Z3 = Y3 at *
  generalize Z4 = Y4 at *
  have b3 : ∀ x ∈ [1136, 1168, 2160], x ≤ 100000 := by decide
  have b4 : ∀ x ∈ [1168, 2160, 1136, 1200], x ≤ 100000 := by decide
  have lit3 : ∀ W : World, Row .i64 (W.alloc (.cells #[.int .i64 1136, .int .i64 1168, .int .i64 2160] 3)) (.slice (some ⟨W.heap.size, 0, none⟩) 3 3) (ints [1136, 1168, 2160]) := fun W => by
    exact Row.made W (ints [1136, 1168, 2160]) _ _ rfl (by decide) (by decide)
  have lit4 : ∀ W : World, Row .i64 (W.alloc (.cells #[.int .i64 1168, .int .i64 2160, .int .i64 1136, .int .i64 1200] 3)) (.slice (some ⟨W.heap.size, 0, none⟩) 4 4) (ints [1168, 2160, 1136, 1200]) := fun W => by
    exact Row.made W (ints [1168, 2160, 1136, 1200]) _ _ rfl (by decide) (by decide)
  have Hl3 := Lib.hid lit3
  have Hl4 := Lib.hid lit4
  have HB3 := Lib.hid b3
  have HB4 := Lib.hid b4
  clear lit3 lit4 b3 b4
  unfold pV at *
  go_enter Tryz.func43, Tryz.ntmps43
  go_wp2_with fail
  refine HF.out.mono ?_
  rintro e w1 ⟨h, rfl, hz, hd1, hb1⟩
  have HZ := Lib.hid hz
  obtain ⟨n, hn⟩ : ∃ n, n = w1.heap.size := ⟨_, rfl⟩
  rw [← hn] at hd1
  have HN1 : Hid (n ≤ w1.heap.size) := by unfold Hid; omega
  clear hz hb1 HF hn
  go_wp2_with fail
  refine (HE1.out _ _ _ hd1).mono ?_
  rintro e w2 ⟨rfl, -, hd2, hf2⟩
  clear HE1 hd1 hf2
  go_wp2_with fail
  refine (HE2.out _ _ _ hd2).mono ?_
  rintro e w3 ⟨rfl, -, hd3, hf3⟩
  clear HE2 hd2 hf3
  go_wp2_with fail
  refine (HE3.out _ _ _ hd3).mono ?_
  rintro e w4 ⟨rfl, -, hd4, hf4⟩
  clear HE3 hd3 hf4
  go_wp2_with fail
  refine (HE4.out _ _ _ hd4).mono ?_
  rintro e w5 ⟨rfl, -, hd5, hf5⟩
  clear HE4 hd4 hf5
  go_wp2_with fail
  refine (HI1.out _ _ _ hd5).mono ?_
  rintro e w6 ⟨rfl, hd6, hf6⟩
  clear HI1 hd5 hf6
  go_wp2_with fail
  refine (HI2.out _ _ _ hd6).mono ?_
  rintro e w7 ⟨rfl, hd7, hf7⟩
  clear HI2 hd6 hf7
  go_wp2_with fail
  refine (HI3.out _ _ _ hd7).mono ?_
  rintro e w8 ⟨rfl, hd8, hf8⟩
  clear HI3 hd7 hf8
  go_wp2_with fail
  refine (HAl.out _ _ _ hd8).mono ?_
  rintro e w9 ⟨u, rfl, hd9, hf9, ho9⟩
  have ho : OwnI w8.heap.size w9 u [1136, 1168, 2160] := ho9
  have hlo8 := hd8.lo.wide hd8.nn
  clear HAl hd8 hf9 ho9
  go_wp2_with fail
  refine (HTu.out _ _ _ hd9).mono ?_
  rintro e w10 ⟨rfl, hd10, hf10⟩
  replace ho := ho.fr hf10 hlo8
  clear HTu hd9 hf10
  go_wp2_with fail
  refine (HI4.out _ _ _ hd10).mono ?_
  rintro e w11 ⟨rfl, hd11, hf11⟩
  replace ho := ho.fr hf11 hlo8
  clear HI4 hd10 hf11
  have HD11 := Lib.hid hd11
  have HO := Lib.hid ho
  have HLo := Lib.hid hlo8
  clear hd11 ho hlo8
  go_wp2_with fail
  refine (HS1.out _ _ _ (own_row (HO.out.below (below_made _ _)) HB3.out) (Hl3.out _)).mono ?_
  rintro e w12 ⟨rfl, hb12⟩
  have hbb := (below_made w11 (.cells #[.int .i64 1136, .int .i64 1168, .int .i64 2160] 3)).trans (hb12.mono (below_made w11 _).size)
  have HD12 := Lib.hid (HD11.out.below hbb)
  clear hb12 hbb HS1 HO Hl3 HB3 HD11
  go_wp2_with fail
  refine (HAl2.out _ _ _ HD12.out).mono ?_
  rintro e w13 ⟨u2, rfl, hd13, hf13, ho13⟩
  have HO2 : Hid (OwnI w12.heap.size w13 u2 [1168, 2160, 1136, 1200]) := ho13
  have HD13 := Lib.hid hd13
  clear hd13 hf13 ho13 HAl2 HD12
  go_wp2_with fail
  refine (HS2.out _ _ _ (own_row (HO2.out.below (below_made _ _)) HB4.out) (Hl4.out _)).mono ?_
  rintro e w14 ⟨rfl, hb14⟩
  have hbb := (below_made w13 (.cells #[.int .i64 1168, .int .i64 2160, .int .i64 1136, .int .i64 1200] 3)).trans (hb14.mono (below_made w13 _).size)
  have hd14 := HD13.out.below hbb
  clear hb14 hbb HS2 HO2 Hl4 HB4 HD13
  go_wp2_with fail
  refine (HBr.out _ _ _ hd14).mono ?_
  rintro e w15 ⟨rfl, hd15, hf15⟩
  clear HBr hd14 hf15
  go_wp2_with fail
  refine (HLe.out _ _ _ hd15).mono ?_
  rintro e w16 ⟨rfl, hd16, hf16⟩
  clear HLe hd15 hf16
  go_wp2_with fail
  refine (HIa.out _ _ _ hd16).mono ?_
  rintro e w17 ⟨rfl, hd17, hf17⟩
  clear HIa hd16 hf17
  go_wp2_with fail
  refine (HFa.out _ _ _ hd17 HZ.out).mono ?_
  rintro e w18 ⟨rfl, hb18⟩
  have HE := Lib.hid (hd17.below hb18).b
  clear hb18 HFa hd17
  go_wp2
  go_ret
  exact ⟨rfl, HE.out⟩
end
end Go.Proofs.YtjjfihoplkddfaaGreatDoor.Rin

namespace Go.Proofs.YtjjfihoplkddfaaGreatDoor.Rin
open Go.RowKit Num
open Sla (Sl tkF X0)
set_option linter.unusedVariables false

/-! ### A hundred entries of class 1 -/
end Go.Proofs.YtjjfihoplkddfaaGreatDoor.Rin

namespace Go.Proofs.YtjjfihoplkddfaaGreatDoor.Rin
open Go.RowKit Num
open Mem (Mm MemC MRet Hm rd blkM)
open Lis (valsN ints)
open Sla (Sl Lv Lo tkF Ts OwnI X0 Ow3 pV)
open Arn (wrL is64)
set_option linter.unusedVariables false

section
variable {h : Hm} {T : List Sl} {w0 w w' W W' : World} {n : Nat} {E L : List Nat} {br : Nat}
theorem Wr.grown {r : Option Nat} (d : Wr w0 h n T E L br W) (hg : W.grownBy W' r) (hr : ∀ b, r = some b → n ≤ b) : Wr w0 h n T E L br W' := d.low (Sla.below_grown hg d.nn hr)
theorem Wr.bd (d : Wr w0 h n T E L br W) : ∀ x ∈ L, x ≤ 100000 := fun x hx => by have := d.facts (d.sub x hx); omega
end
end Go.Proofs.YtjjfihoplkddfaaGreatDoor.Rin

namespace Go.Proofs.YtjjfihoplkddfaaGreatDoor.Rin
open Go.RowKit Num
open Mem (Mm MemC MRet Hm rd blkM)
open Lis (valsN ints)
open Sla (Sl Lv Lo tkF Ts OwnI X0 Ow3 pV wf64)
open Arn (wrL is64)
set_option linter.unusedVariables false

/-! ### Acts -/
structure Act where
  k : Int
  n : Int
  c : Int
def Act.zero : Act := ⟨0, 0, 0⟩
def Act.cells (x : Act) : List Value := [.int .i64 x.k, .int .i64 x.n, .int .i64 x.c]
def ActR (w : World) (cs : List Value) (x : Act) : Prop := cs = x.cells ∧ is64 x.k ∧ is64 x.n ∧ is64 x.c
abbrev ActRow := GRow 3 ActR Act.zero
set_option maxRecDepth 100000 in
theorem act_cells {H : Type} {enc : TypeId × Value → H} {w : World} {base : Nat} {spare : Nat → Bool} {held : Bool} {n : Nat} {cs : List Value} {y : DataW H × List MemPlace}
    (h : DataW.trod enc Tryz.prog w base spare held n 97 cs = some y) : ∃ x, ActR w cs x := by
  obtain ⟨xs, n', -, -, hlen, hxs, hf⟩ := DataW.trod_struct Tryz.underlying97 h
  have h2 : cs.length = 3 := hlen.trans (by kernel_rfl)
  have x2 : xs.length = 3 := hxs
  match cs, h2, xs, x2 with
  | [c0, c1, c2], _, [y0, y1, y2], _ =>
    have f0 : DataW.trod enc Tryz.prog w base spare held n' 3 (([c0, c1, c2].drop 0).take (Tryz.prog.cellsOf 3)) = [y0, y1, y2][0]? := hf 0 _ rfl
    have f1 : DataW.trod enc Tryz.prog w base spare held n' 3 (([c0, c1, c2].drop 1).take (Tryz.prog.cellsOf 3)) = [y0, y1, y2][1]? := hf 1 _ rfl
    have f2 : DataW.trod enc Tryz.prog w base spare held n' 3 (([c0, c1, c2].drop 2).take (Tryz.prog.cellsOf 3)) = [y0, y1, y2][2]? := hf 2 _ rfl
    have q1 : Tryz.prog.cellsOf 3 = 1 := by kernel_rfl
    rw [q1] at f0 f1 f2
    simp only [List.drop, List.take, List.getElem?_cons_zero, List.getElem?_cons_succ] at f0 f1 f2
    obtain ⟨k0, e0, -, w0⟩ := DataW.trod_int Tryz.underlying3 f0
    obtain ⟨k1, e1, -, w1⟩ := DataW.trod_int Tryz.underlying3 f1
    obtain ⟨k2, e2, -, w2⟩ := DataW.trod_int Tryz.underlying3 f2
    simp at e0 e1 e2
    subst e0 e1 e2
    exact ⟨⟨k0, k1, k2⟩, rfl, wf64 w0, wf64 w1, wf64 w2⟩
set_option maxRecDepth 100000 in
theorem open_acts {H : Type} {enc : TypeId × Value → H} {w : World} {base : Nat} {spare : Nat → Bool} {held : Bool} {r : Reach} {b0 : Nat} {v : Value} {d : DataW H} {p : List MemPlace}
    (hval : Value.okWide Tryz.prog w r b0 91 v) (h : DataW.Trod enc Tryz.prog w base spare held 91 v d p) : ∃ x : Value × List Act, v = x.1 ∧ ActRow w x.1 x.2 := by
  obtain ⟨a, len, cap, rfl⟩ := WideShapes.okWide_slice Tryz.underlying91 hval
  obtain ⟨fuel, hf⟩ := h
  obtain ⟨L, -, hrow⟩ := open_grow Act.zero Tryz.underlying91 (show Tryz.prog.cellsOf 97 = 3 by kernel_rfl) (by omega) (fun n cs y hy => act_cells hy) hf
  exact ⟨(_, L), rfl, hrow⟩

/-! ### The one of a row that a number names -/
def pkP (L : List Nat) (m : Int) : Nat := (m.tmod (L.length : Int)).natAbs
def pkI (L : List Nat) (m : Int) : Nat := if L = [] then 0 else L.getD (pkP L m) 0
theorem pkP_lt {L : List Nat} (m : Int) (h : L ≠ []) : pkP L m < L.length := by
  have hp : (0 : Int) < (L.length : Int) := by have := List.length_pos_iff.2 h; omega
  have h1 := Int.lt_tmod_of_pos m hp
  have h2 := Int.tmod_lt_of_pos m hp
  unfold pkP
  omega
theorem pkI_at {L : List Nat} (m : Int) : (L = [] ∧ pkI L m = 0) ∨ (∃ k, k < L.length ∧ pkI L m = L.getD k 0 ∧ k = pkP L m) := by
  by_cases h : L = []
  · exact .inl ⟨h, if_pos h⟩
  · exact .inr ⟨pkP L m, pkP_lt m h, if_neg h, rfl⟩
theorem pick_any (u : Value) (L : List Nat) (m : Int) (w : World) (hu : Row .i64 w u (ints L)) (hl : L.length ≤ 500) :
    Calls Tryz.prog 45 #[u, .int .i64 m] w fun e w' => e = .returned (.int .i64 (pkI L m : Int)) ∧ w = w' := by
  obtain ⟨a, cap, rfl, r2, r3, r4, r5⟩ := hu
  rw [Lis.ints_length] at *
  by_cases hne : L = []
  · subst hne
    have e : pkI [] m = 0 := if_pos rfl
    rw [e, show ((0 : Nat) : Int) = 0 from rfl]
    rw [show (([] : List Nat).length) = 0 from rfl] at *
    clear r2 r3 r4 r5 hl e
    go_enter Tryz.func45, Tryz.ntmps45
    go_wp2
    go_ret
    exact ⟨rfl, rfl⟩
  · have hpos : (0 : Int) < (L.length : Int) := by
      have := List.length_pos_iff.2 hne
      omega
    obtain ⟨rm, hrm⟩ : ∃ rm, rm = m.tmod (L.length : Int) := ⟨_, rfl⟩
    have hb1 : -(L.length : Int) < rm ∧ rm < L.length := by
      rw [hrm]
      exact ⟨Int.lt_tmod_of_pos m hpos, Int.tmod_lt_of_pos m hpos⟩
    have hnz : ((L.length : Int) == 0) = false := by simp; omega
    obtain ⟨ab, aoff, rfl, hlt2, hcell2⟩ := r5 (by intro q; exact hne (List.map_eq_nil_iff.1 q))
    have hkk := pkP_lt m hne
    have hck := hcell2 (pkP L m) hkk
    rw [Lis.ints_get] at hck
    have e : pkI L m = L.getD (pkP L m) 0 := if_neg hne
    rw [e]
    have hcase : (rm = (pkP L m : Int)) ∨ (rm = -(pkP L m : Int) ∧ rm < 0) := by
      unfold pkP
      rw [← hrm]
      omega
    generalize pkP L m = kk at hkk hck hcase ⊢
    generalize L.getD kk 0 = y at hck ⊢
    have hk0 : (0 : Int) ≤ (kk : Int) := by omega
    have hk1 : (kk : Int) < (L.length : Int) := by omega
    have hk1000 : kk < 1000 := by omega
    generalize L.length = len at *
    clear hcell2 r2 r3 r4 r5 hne e
    rcases hcase with rfl | ⟨rfl, hng⟩
    · have hq : m.tmod (len : Int) = (kk : Int) := hrm.symm
      have hw2 := Sla.w_neg kk hk1000
      have hle := Sla.not_lt_neg kk
      clear hrm hb1
      go_enter Tryz.func45, Tryz.ntmps45
      go_wp2
      go_ret
      exact ⟨rfl, rfl⟩
    · have hq : m.tmod (len : Int) = -(kk : Int) := hrm.symm
      have hw2 := Sla.w_in kk hk1000
      have hle := Sla.neg_lt_self' kk hng
      have hnn : - -(kk : Int) = (kk : Int) := Int.neg_neg _
      clear hrm hb1 hng
      go_enter Tryz.func45, Tryz.ntmps45
      go_wp2
      go_ret
      exact ⟨rfl, rfl⟩

/-! ### No entry lies at 0 -/
section
variable {X : Fx} {R : Rv} {w : World} {h : Hm} {T : List Sl} {w0 W : World} {n : Nat} {E L : List Nat} {br : Nat}
end
end Go.Proofs.YtjjfihoplkddfaaGreatDoor.Rin

namespace Go.Proofs.YtjjfihoplkddfaaGreatDoor.Rin
open Go.RowKit Num
open Mem (Mm MemC MRet Hm rd blkM)
open Lis (Cf LM LR Tb at_ valsN)
open Sla (Sl St Lv pl aT pV Lo SR Sx)
open Arn (wrL is64)
set_option linter.unusedVariables false

theorem knd_out {x : List Int} {a : Int} {n : Nat} (hn : 0 < n) (h : Wat.kndA x a (n : Int) = 5) : ∃ p : Nat, a = p ∧ p + n ≤ x.length ∧ ∀ j, j < n → x.getD (p + j) 0 = 5 := by
  unfold Wat.kndA at h
  by_cases hf : Arn.fitB x.length a (n : Int) = true
  · rw [if_pos hf] at h
    obtain ⟨p, q, rfl, hq, h1⟩ := Arn.fitB_nat hf
    obtain rfl : n = q := by omega
    rw [Int.toNat_natCast, Int.toNat_natCast] at h
    unfold Wat.kndS at h
    split at h
    · rename_i hy
      have hl : ((x.drop p).take n).length = n := by rw [List.length_take, List.length_drop]; omega
      refine ⟨p, rfl, h1, fun j hj => ?_⟩
      have := hy.2 j (by rw [hl]; exact hj)
      rw [h, take_getD _ _ _ hj, drop_getD] at this
      exact this
    · omega
  · rw [if_neg hf] at h
    omega
theorem knd_in {x : List Int} {p n : Nat} (hn : 0 < n) (h1 : p + n ≤ x.length) (h2 : ∀ j, j < n → x.getD (p + j) 0 = 5) : Wat.kndA x (p : Int) (n : Int) = 5 := by
  unfold Wat.kndA
  rw [if_pos (Arn.fitB_of h1), Int.toNat_natCast, Int.toNat_natCast]
  have hl : ((x.drop p).take n).length = n := by rw [List.length_take, List.length_drop]; omega
  have hg : ∀ i, i < n → ((x.drop p).take n).getD i 0 = 5 := fun i hi => by rw [take_getD _ _ _ hi, drop_getD, h2 i hi]
  unfold Wat.kndS
  rw [if_pos, hg 0 hn]
  exact ⟨fun e => by rw [e] at hl; simp at hl; omega, fun i hi => by rw [hg i (by omega), hg 0 hn]⟩
theorem knd_less {x : List Int} {a : Int} {n m : Nat} (hm : 0 < m) (hmn : m ≤ n) (h : Wat.kndA x a (n : Int) = 5) : Wat.kndA x a (m : Int) = 5 := by
  obtain ⟨p, rfl, h1, h2⟩ := knd_out (by omega) h
  exact knd_in hm (by omega) (fun j hj => h2 j (by omega))
set_option maxRecDepth 100000 in
/-- Which block lies at any place. -/
theorem kindOf_wild (h : Hm) (M : Mm) (a : Int) (w : World) (hm : MemC h w (pV h) M) (h64 : is64 a) (hb : Arn.IsBytes M.l) :
    Calls Tryz.prog 106 #[pV h, .int .i64 a] w fun e w' =>
      (∃ k, k ≠ 5 ∧ Wat.kndA M.x a 4 = k ∧ MRet h w (pV h) M (.tuple #[.int .i64 k, .int .i64 0]) e w') ∨
      (∃ lk, Wat.kndA M.x a 4 = 5 ∧ MRet h w (pV h) { M with lk := lk } (.tuple #[.int .i64 5, .int .i64 (M.l.getD a.toNat 0)]) e w') := by
  have HK := Lib.hid (Mem.kind_any h (pV h) M a 4 w hm h64)
  have HM := Lib.hid hm
  by_cases hk : Wat.kndA M.x a 4 = 5
  · rw [hk] at HK
    obtain ⟨p, rfl, h1, h2⟩ := knd_out (n := 4) (by omega) hk
    have hlen := hm.lenx
    have h1' : Wat.lookA M.x (p : Int) ((1 : Nat) : Int) 5 = true := Mem.look_iff.2 ⟨by decide, by omega, by omega, by decide, fun j hj => h2 j (by omega)⟩
    have hrd : rd M.l p 1 = M.l.getD p 0 := Hea.rdF_one (l := M.l) p (by omega)
    have hok := Mem.load_ok (M := M) (a := p) (n := 1) (k := 5) h1' hlen
    rw [hrd] at hok
    have hok2 : M.load (p : Int) 1 5 = (M.l.getD p 0, M.ticked true) := hok
    have hlo := fun W (hw : MemC h W (pV h) M) => Mem.load_any h (pV h) M (p : Int) 1 5 W hw h64
    rw [hok2] at hlo
    have HL := Lib.hid hlo
    have hby := hb p
    rw [Int.toNat_natCast]
    generalize M.l.getD p 0 = y at *
    have hw : wrap64 y = y := IntWalk.wrap64_in _ (by omega)
    have HKf := Lib.hid hk
    clear hk h1 h2 hlen h1' hrd hok hok2 hlo hm hb
    unfold pV at *
    go_enter Tryz.func106, Tryz.ntmps106
    go_wp2_with fail
    refine HK.out.mono ?_
    rintro e w1 ⟨rfl, hb1⟩
    have H1 := Lib.hid (HM.out.only hb1 (.int .i64 5))
    clear hb1
    go_wp2_with fail
    refine (HL.out _ H1.out.2.1).mono ?_
    intro e w2 hq
    obtain ⟨rfl, q2, q3⟩ := H1.out.then hq
    have HE : Hid (MRet h w (.pointer (some ⟨h.g, 0, none⟩)) (M.ticked true) (.tuple #[.int .i64 5, .int .i64 y]) (.returned (.tuple #[.int .i64 5, .int .i64 y])) w2) := ⟨rfl, q2, q3⟩
    clear q2 q3 hq H1 HL HM HK
    go_wp2
    go_ret2
    exact .inr ⟨_, HKf.out, HE.out⟩
  · obtain ⟨k, hkk⟩ : ∃ k, Wat.kndA M.x a 4 = k := ⟨_, rfl⟩
    rw [hkk] at hk HK
    have HKf : Hid (k ≠ 5 ∧ Wat.kndA M.x a 4 = k) := ⟨hk, hkk⟩
    have hk5 : (k == 5) = false := by simpa using hk
    have hk5' : (k != 5) = true := by rw [bne, hk5]; rfl
    clear hk hkk hm hb
    unfold pV at *
    go_enter Tryz.func106, Tryz.ntmps106
    go_wp2_with fail
    refine HK.out.mono ?_
    rintro e w1 ⟨rfl, hb1⟩
    have HE := Lib.hid (HM.out.only hb1 (.tuple #[.int .i64 k, .int .i64 0]))
    clear hb1 HM HK
    go_wp2
    go_ret2
    exact .inl ⟨k, HKf.out.1, HKf.out.2, HE.out⟩
theorem whF_tag (t : Int) : (0 ≤ t ∧ t ≤ 2 ∧ Hea.whF t 0 = (0, 1)) ∨ ((t < 0 ∨ 2 < t) ∧ Hea.whF t 0 = (0, 0)) := by
  by_cases h : 0 ≤ t ∧ t ≤ 2
  · rcases (show t = 0 ∨ t = 1 ∨ t = 2 by omega) with rfl | rfl | rfl <;> exact .inl ⟨by decide, by decide, by decide⟩
  · refine .inr ⟨by omega, ?_⟩
    unfold Hea.whF
    rw [if_pos (by omega)]
theorem load_par (M : Mm) (a k : Int) : ∃ v lk ft, M.load a 1 k = (v, { M with lk := lk, ft := ft }) := by
  unfold Mem.Mm.load
  split
  · exact ⟨_, _, _, rfl⟩
  · exact ⟨_, _, _, rfl⟩
set_option maxRecDepth 100000 in
/-- The first field at any place. -/
theorem hload_wild (h : Hm) (M : Mm) (a : Int) (w : World) (htb : Hea.Tab w) (hm : MemC h w (pV h) M) (h64 : is64 a) (hb : Arn.IsBytes M.l) :
    Calls Tryz.prog 56 #[pV h, .int .i64 a, .int .i64 0] w fun e w' => ∃ (v lk ft : Int), (Wat.kndA M.x a 4 = 5 → (v = 1 ↔ M.l.getD a.toNat 0 = 1)) ∧ MRet h w (pV h) { M with lk := lk, ft := ft } (.int .u64 v) e w' := by
  have HK := Lib.hid ((kindOf_wild h M a w hm h64 hb).mono (R' := fun e w' => ∃ k t lk, (Wat.kndA M.x a 4 = 5 → k = 5 ∧ t = M.l.getD a.toNat 0) ∧ MRet h w (pV h) { M with lk := lk } (.tuple #[.int .i64 k, .int .i64 t]) e w') (by
    rintro e w' (⟨k, h1, h2, hr⟩ | ⟨lk, h1, hr⟩)
    · exact ⟨k, 0, M.lk, fun q => absurd (h2.symm.trans q) h1, hr⟩
    · exact ⟨5, _, lk, fun _ => ⟨rfl, rfl⟩, hr⟩))
  have HW := Lib.hid (fun t W (hT : Hea.Tab W) => Hea.where_any t 0 W hT)
  have HT := Lib.hid (fun W (hf : Fr w.heap.size (blkM h) w W) => htb.fr hm hf)
  have HL := Lib.hid (fun k lk W (hw : MemC h W (pV h) { M with lk := lk }) => Mem.load_any h (pV h) { M with lk := lk } a 1 k W hw h64)
  have hlv : ∀ lk, Wat.kndA M.x a 4 = 5 → (({ M with lk := lk } : Mm).load a 1 5).1 = M.l.getD a.toNat 0 := fun lk q => by
    obtain ⟨p, rfl, h1, h2⟩ := knd_out (n := 4) (by omega) q
    have hlen := hm.lenx
    have h1' : Wat.lookA ({ M with lk := lk } : Mm).x (p : Int) ((1 : Nat) : Int) 5 = true := Mem.look_iff.2 ⟨by decide, by show p + 1 ≤ M.x.length; omega, by omega, by decide, fun j hj => h2 j (by omega)⟩
    have hok := Mem.load_ok (M := { M with lk := lk }) (a := p) (n := 1) (k := 5) h1' hlen
    have hok2 : ({ M with lk := lk } : Mm).load (p : Int) 1 5 = (rd M.l p 1, ({ M with lk := lk } : Mm).ticked true) := hok
    rw [hok2, Int.toNat_natCast]
    exact Hea.rdF_one (l := M.l) p (by omega)
  have HLv := Lib.hid hlv
  have HLp := Lib.hid (fun lk k => load_par { M with lk := lk } a k)
  have ha : wrap64 (a + 0) = a := by rw [Int.add_zero]; exact IntWalk.wrap64_in _ (by unfold is64 at h64; omega)
  have ha' : IntKind.i64.wrap a = a := Arn.wrap_id (by unfold is64 at h64; omega) (by unfold is64 at h64; omega)
  clear hlv hm htb hb h64
  unfold pV at *
  go_enter Tryz.func56, Tryz.ntmps56
  go_wp2_with fail
  refine HK.out.mono ?_
  rintro e w1 ⟨k, t, lk1, hkt, rfl, q1, f1⟩
  have HKt := Lib.hid hkt
  have HQ := Lib.hid q1
  have HF := Lib.hid f1
  clear q1 f1 hkt HK
  have HW2 := Lib.hid (HW.out t w1 (HT.out _ HF.out))
  rcases whF_tag t with ⟨t0, t2, ht⟩ | ⟨t0, ht⟩
  · rw [ht] at HW2
    clear HW HT ht
    go_wp2_with fail
    refine HW2.out.mono ?_
    rintro e w2 ⟨rfl, hb2⟩
    have H2 : Hid (MRet h w (.pointer (some ⟨h.g, 0, none⟩)) { M with lk := lk1 } (.int .u64 0) (.returned (.int .u64 0)) w2) := (MRet.then (e := .returned (.int .u64 0)) (r := .int .u64 0) ⟨rfl, HQ.out, HF.out⟩ (HQ.out.only hb2 (.int .u64 0)))
    clear hb2 HW2
    go_wp2_with fail
    refine (HL.out k lk1 _ H2.out.2.1).mono ?_
    intro e w3 hq
    obtain ⟨v, lk3, ft3, hv⟩ := HLp.out lk1 k
    have hrel : Wat.kndA M.x a 4 = 5 → (v = 1 ↔ M.l.getD a.toNat 0 = 1) := fun q => by
      obtain ⟨rfl, -⟩ := HKt.out q
      have := HLv.out lk1 q
      rw [hv] at this
      simp only at this
      rw [this]
    rw [hv] at hq
    simp only at hq
    obtain ⟨rfl, q2, q3⟩ := H2.out.then hq
    have HE : Hid ((Wat.kndA M.x a 4 = 5 → (v = 1 ↔ M.l.getD a.toNat 0 = 1)) ∧ MRet h w (.pointer (some ⟨h.g, 0, none⟩)) { M with lk := lk3, ft := ft3 } (.int .u64 v) (.returned (.int .u64 v)) w3) := ⟨hrel, rfl, q2, q3⟩
    clear q2 q3 hq hrel hv HL HLv HLp HKt HQ HF H2
    go_wp2
    go_ret
    exact ⟨v, lk3, ft3, HE.out⟩
  · rw [ht] at HW2
    have hrel : Wat.kndA M.x a 4 = 5 → ((0 : Int) = 1 ↔ M.l.getD a.toNat 0 = 1) := fun q => by
      obtain ⟨-, q2⟩ := HKt.out q
      rw [← q2]
      omega
    have HRel := Lib.hid hrel
    clear HW HT ht hrel
    go_wp2_with fail
    refine HW2.out.mono ?_
    rintro e w2 ⟨rfl, hb2⟩
    have H2 : Hid (MRet h w (.pointer (some ⟨h.g, 0, none⟩)) { M with lk := lk1 } (.int .u64 0) (.returned (.int .u64 0)) w2) := (MRet.then (e := .returned (.int .u64 0)) (r := .int .u64 0) ⟨rfl, HQ.out, HF.out⟩ (HQ.out.only hb2 (.int .u64 0)))
    clear hb2 HW2
    go_wp2
    go_ret
    exact ⟨0, lk1, M.ft, HRel.out, H2.out⟩
end Go.Proofs.YtjjfihoplkddfaaGreatDoor.Rin

namespace Go.Proofs.YtjjfihoplkddfaaGreatDoor.Rin
open Go.RowKit Num
open Mem (Mm MemC MRet Hm rd blkM)
open Lis (valsN ints)
open Sla (Sl Lv Lo tkF Ts OwnI X0 Ow3 pV RowG)
open Arn (wrL is64)
set_option linter.unusedVariables false

section
variable {h : Hm} {T : List Sl} {w0 w w' W W' : World} {n : Nat} {E L : List Nat} {br : Nat} {B : Nat → Hea.Blk} {l : List Int}
/-- The memory within a statement, compared with bytes at some time. -/
structure Wl (w0 : World) (h : Hm) (n : Nat) (T : List Sl) (E : List Nat) (B : Nat → Hea.Blk) (l : List Int) (L : List Nat) (br : Nat) (W : World) : Prop where
  rg : Rg (fx h T E B l) L br W
  wr : Wr w0 h n T E L br W
structure Bs (E : List Nat) (B : Nat → Hea.Blk) (l : List Int) (L : List Nat) (br : Nat) : Prop where
  ex : ∃ R, Rb E B l R ∧ Rp R E L br
  by_ : Arn.IsBytes l
  ap : Ap E l.length
  len : 128 ≤ l.length
theorem Wr.base (d : Wr w0 h n T E L br W) : ∃ B l, Wl w0 h n T E B l L br W ∧ Bs E B l L br := by
  obtain ⟨B, lb, R, ⟨l, h1, h2⟩, h3⟩ := id d.ex
  have := st_len h1.st
  exact ⟨B, l, ⟨⟨R, ⟨l, ⟨h1.st, h1.lv, h1.rb, h1.tc⟩, Nr.refl _ _⟩, h3⟩, d⟩, ⟨R, h1.rb, h3⟩, st_bytes h1.st, h1.ap, by omega⟩
theorem Wl.below (d : Wl w0 h n T E B l L br W) (hb : Below W.heap.size W W') : Wl w0 h n T E B l L br W' := ⟨d.rg.below hb, d.wr.below hb⟩
theorem Wl.insert (d : Wl w0 h n T E B l L br W) {a : Nat} (ha : a ∈ E) (hL : a ∉ L) (hl : L.length < 10000) : Calls Tryz.prog 54 #[pV h, .int .i64 (a : Int)] W fun e W' => e = .returned (.int .i64 0) ∧ Wl w0 h n T E B l (L ++ [a]) (if L = [] then a else br) W' ∧ Fr W.heap.size (blkM h) W W' := by
  refine (d.rg.insert ha hL hl).mono ?_
  rintro e w' ⟨rfl, h1, hf⟩
  exact ⟨rfl, ⟨h1, d.wr.fr ⟨B, l, h1⟩ hf⟩, hf⟩
theorem Wl.remove (d : Wl w0 h n T E B l L br W) {k : Nat} (hk : k < L.length) : Calls Tryz.prog 46 #[pV h, .int .i64 ((L.getD k 0 : Nat) : Int)] W fun e W' => e = .returned (.int .i64 0) ∧ Wl w0 h n T E B l (L.eraseIdx k) (brD L br k) W' ∧ Fr W.heap.size (blkM h) W W' := by
  refine (d.rg.remove hk).mono ?_
  rintro e w' ⟨rfl, h1, hf⟩
  exact ⟨rfl, ⟨h1, d.wr.fr ⟨B, l, h1⟩ hf⟩, hf⟩
theorem Wl.all (d : Wl w0 h n T E B l L br W) : Calls Tryz.prog 58 #[pV h] W fun e W' => ∃ u, e = .returned u ∧ Wl w0 h n T E B l L br W' ∧ Fr W.heap.size (blkM h) W W' ∧ OwnI W.heap.size W' u L := by
  refine d.rg.all.mono ?_
  rintro e w' ⟨u, ⟨rfl, h1, hf⟩, ho⟩
  exact ⟨u, rfl, ⟨h1, d.wr.fr ⟨B, l, h1⟩ hf⟩, hf, ho⟩
theorem snoc_del (L : List Nat) (a : Nat) : (L ++ [a]).eraseIdx L.length = L := by
  refine list_ext (by rw [del_len (by simp)]; simp) (fun i hi => ?_)
  rw [del_len (by simp)] at hi
  simp at hi
  rw [del_get, show ix L.length i = i from if_pos hi, snoc_get, if_pos hi]
theorem snoc_last (L : List Nat) (a : Nat) : (L ++ [a]).getD L.length 0 = a := by rw [snoc_get, if_neg (Nat.lt_irrefl _), if_pos rfl]
/-- One is inserted and taken out again: the ring as it was. -/
theorem Wl.again {a : Nat} (d : Wl w0 h n T E B l (L ++ [a]) (if L = [] then a else br) W) (hbr : br ∈ L ∨ (L = [] ∧ br = 0)) (ha : a ∉ L) : Calls Tryz.prog 46 #[pV h, .int .i64 (a : Int)] W fun e W' => e = .returned (.int .i64 0) ∧ Wl w0 h n T E B l L br W' ∧ Fr W.heap.size (blkM h) W W' := by
  have := d.remove (k := L.length) (by simp)
  rw [snoc_del, snoc_last] at this
  have e : brD (L ++ [a]) (if L = [] then a else br) L.length = br := by
    unfold brD
    rw [snoc_last]
    rcases hbr with q | ⟨rfl, rfl⟩
    · have hne : L ≠ [] := List.ne_nil_of_mem q
      rw [if_neg hne, if_neg (by rintro rfl; exact ha q)]
    · rw [if_pos rfl, if_pos rfl, if_pos (by simp)]
  rw [e] at this
  exact this
end
end Go.Proofs.YtjjfihoplkddfaaGreatDoor.Rin

namespace Go.Proofs.YtjjfihoplkddfaaGreatDoor.Rin
open Go.RowKit Num
open Mem (Mm MemC MRet Hm rd blkM)
open Lis (Cf LM LR Tb at_ valsN)
open Sla (Sl St Lv pl aT pV Lo tkF gvF Tk czL Gvn Kp Sx SR bl_in mem_lt)
open Arn (wrL is64)
set_option linter.unusedVariables false

section
variable {h : Hm} {S N : Nat} {l0 l l' : List Int} {T T' : List Sl} {w0 w w' W W' : World} {n : Nat} {E L : List Nat} {br : Nat} {B : Nat → Hea.Blk} {R : Rv}
theorem gvn_at {j k : Nat} (g : Gvn S N T T' j k) {x : Nat} (hx : x ≠ pl (aT S N j) (T.getD j Sl.zero).c k) : ∀ j' k', j' < S → k' ∈ (T.getD j' Sl.zero).v → x = pl (aT S N j') (T.getD j' Sl.zero).c k' → k' ∈ (T'.getD j' Sl.zero).v ∧ (T'.getD j' Sl.zero).c = (T.getD j' Sl.zero).c := by
  intro j' k' hj' hk' e
  by_cases hjj : j' = j
  · subst hjj
    have hkk : k' ≠ k := by rintro rfl; exact hx e
    have := (g.mem k').2 ⟨hkk, hk'⟩
    exact ⟨this, g.cls (List.ne_nil_of_mem this)⟩
  · rw [g.oth j' hjj]
    exact ⟨hk', rfl⟩
/-- One that is in no ring any more is given back. -/
theorem Wr.give (d : Wr w0 h n T E L br W) {a : Nat} (ha : Lv 7 224 T a) (hL : a ∉ L) : Calls Tryz.prog 15 #[pV h, .int .i64 (a : Int)] W fun e W' =>
    ∃ T', e = .returned (.int .i64 0) ∧ Wr w0 h n T' (E.filter (fun x => decide (x ≠ a))) L br W' ∧ Fr W.heap.size (blkM h) W W' := by
  obtain ⟨B, lb, R, ⟨l, h1, h2⟩, h3⟩ := d.ex
  have hat := lv_at h1.st ha
  refine (h1.st.give (a := (a : Int)) (by unfold is64; omega)).mono ?_
  obtain ⟨j, k, hj, hk, rfl⟩ := ha
  obtain ⟨g1, g2⟩ := Sla.gv_yes (S := 7) (N := 224) h1.st.tk (by decide) hj hk
  rintro e W' ⟨l', he, hs, hf, hkp⟩
  rw [g1] at he
  have hin : ∀ x ∈ E.filter (fun x => decide (x ≠ pl (aT 7 224 j) (T.getD j Sl.zero).c k)), x ∈ E ∧ x ≠ pl (aT 7 224 j) (T.getD j Sl.zero).c k := fun x hx => by
    have := List.mem_filter.1 hx
    exact ⟨this.1, by simpa using this.2⟩
  have hlow := fun t (q1 : 60 ≤ t) (q2 : t < 72) => st_low hs q1 (by omega)
  have hlen : l'.length = l.length := (st_len hs).1.trans (st_len h1.st).1.symm
  have hrb0 : Rb (E.filter (fun x => decide (x ≠ pl (aT 7 224 j) (T.getD j Sl.zero).c k))) B l R := ⟨fun x hx => h1.rb.ent x (hin x hx).1, fun x hx => h1.rb.ok x (hin x hx).1, h1.rb.hand, h1.rb.broom, h1.rb.cnt⟩
  have hrb := hrb0.same hlen hlow (fun x hx => kp_at hkp (h1.lv x (hin x hx).1) (gvn_at g2 (hin x hx).2))
  refine ⟨_, he, d.fr ⟨B, l', R, ⟨l', ⟨st_self hs, fun x hx => (g2.lv hj hk x).2 ⟨(hin x hx).2, h1.lv x (hin x hx).1⟩, hrb, tabC_fr h1.tc h1.st hf⟩, Nr.refl _ _⟩, h3.less (fun x hx => (hin x hx).1) (fun x hx => List.mem_filter.2 ⟨h3.sub x hx, by simp only [decide_eq_true_eq]; rintro rfl; exact hL hx⟩)⟩ hf, hf⟩
theorem Wr.lv (d : Wr w0 h n T E L br W) {x : Nat} (hx : x ∈ E) : Lv 7 224 T x := by
  obtain ⟨B, lb, R, ⟨l, h1, h2⟩, h3⟩ := d.ex
  exact h1.lv x hx
/-- Where nothing can be taken, no slab is free. -/
theorem tk_full (hT : Tk S T) {c : Int} (h1 : 1 ≤ c) (h9 : c ≤ 9) (h : (tkF S N T c).1.2 ≠ 0) : czL T = [] := by
  have hl := hT.l
  have hz : Cls.szC c ≠ 0 := by
    rcases (show c = 1 ∨ c = 2 ∨ c = 3 ∨ c = 4 ∨ c = 5 ∨ c = 6 ∨ c = 7 ∨ c = 8 ∨ c = 9 by omega) with rfl | rfl | rfl | rfl | rfl | rfl | rfl | rfl | rfl <;> decide
  have hbp := Cls.blC_pos hz
  obtain ⟨n, rfl⟩ : ∃ n : Nat, c = n := ⟨c.toNat, by omega⟩
  have hn1 : 1 ≤ n := by omega
  unfold tkF at h
  rw [if_neg hz, Int.toNat_natCast] at h
  unfold Sla.tkJ at h
  cases hj : Sla.fi T (n : Int) with
  | some j =>
    obtain ⟨j1, j2, -⟩ := Sla.fi_some hj
    obtain ⟨q1, q2⟩ := Sla.lst_pos hn1 j2
    rw [hj] at h
    simp only at h
    cases hx : (T.getD j Sl.zero).f with
    | nil => exact absurd hx q2
    | cons k f => rw [hx] at h; simp at h
  | none =>
    rw [hj] at h
    simp only at h
    cases hj0 : Sla.fi T 0 with
    | none =>
      have hn := Sla.fi_none hj0
      unfold czL
      rw [List.filter_eq_nil_iff]
      intro i hi
      have := hn i (List.mem_range.1 hi)
      simp only [decide_eq_true_eq]
      intro q
      exact this (Sla.lst_zero.2 q)
    | some j =>
      obtain ⟨j1, j2, -⟩ := Sla.fi_some hj0
      rw [hj0] at h
      simp only at h
      rw [Sla.getD_set1 _ _ _ (by omega)] at h
      simp only at h
      rw [Sla.range_cons (Cls.blC (n : Int)) (by omega)] at h
      simp at h
theorem Wr.free (d : Wr w0 h n T E L br W) : Calls Tryz.prog 17 #[pV h] W fun e W' => e = .returned (.int .i64 ((czL T).length : Int)) ∧ Wr w0 h n T E L br W' ∧ Fr W.heap.size (blkM h) W W' := by
  obtain ⟨B, lb, R, ⟨l, h1, h2⟩, h3⟩ := d.ex
  refine h1.st.free.mono ?_
  rintro e W' ⟨rfl, hs, hf⟩
  exact ⟨rfl, d.fr ⟨B, lb, R, ⟨l, ⟨hs, h1.lv, h1.rb, tabC_fr h1.tc h1.st hf⟩, h2⟩, h3⟩ hf, hf⟩

/-! ### An entry that is copied -/
theorem st_get (d : St h S N l l T W) {x : Nat} (hx : Lv S N T x) {b : Hea.Blk} (hb : EOk b) (hl : (l.drop x).take 32 = Hea.encL b) :
    Calls Tryz.prog 32 #[pV h, .int .i64 (x : Int)] W fun e W' => e = .returned (.tuple #[b.agg, .int .i64 0]) ∧ St h S N l l T W' ∧ Fr W.heap.size (blkM h) W W' := by
  have e32 := enc32 hb.tag
  obtain ⟨H, L, ⟨C, rfl, rfl, h3, h4, h5⟩, d2⟩ := d
  obtain ⟨j, k, hj, hk, rfl⟩ := hx
  obtain ⟨-, lk0, hm⟩ := id h4.m
  refine (Hea.get_any h _ (C.mm l lk0) _ b W h4.t hm hb.ok hb.right (by rw [hb.tag]; exact room_live h5 hj hk l lk0) (by rw [e32]; exact hl)).mono ?_
  rintro e w' ⟨lk, hq⟩
  have hr : SR h C l (.tuple #[b.agg, .int .i64 0]) W e w' := h4.mret (lk := lk) hq
  exact ⟨hr.1, ⟨H, L, ⟨C, rfl, rfl, h3, hr.2.1, h5⟩, d2⟩, hr.2.2⟩
/-- The memory, one of whose entries is so. -/
def Gb (h : Hm) (T : List Sl) (E L : List Nat) (br f : Nat) (b : Hea.Blk) (W : World) : Prop := ∃ B lb R, Rs (fx h T E B lb) R W ∧ Rp R E L br ∧ bl B R f = b
def Gp (h : Hm) (T : List Sl) (E L : List Nat) (br f t : Nat) (W : World) : Prop := ∃ B lb R, Rs (fx h T (t :: E) B lb) R W ∧ Rp R E L br ∧ R.nx t = R.nx f ∧ R.pv t = R.pv f
theorem Wr.gb (d : Wr w0 h n T E L br W) {f : Nat} (hf : f ∈ E) : ∃ b, Gb h T E L br f b W ∧ EOk b ∧ 1 ≤ b.cls ∧ b.cls ≤ 9 := by
  obtain ⟨B, lb, R, ⟨l, h1, h2⟩, h3⟩ := d.ex
  have hk := h1.rb.eok hf
  refine ⟨_, ⟨B, lb, R, ⟨l, h1, h2⟩, h3, rfl⟩, hk, ?_⟩
  rcases hk.right with q | q | q
  · have := hk.tag; omega
  · exact ⟨q.2.1, q.2.2.1⟩
  · have := hk.tag; omega
theorem Gb.below {f : Nat} {b : Hea.Blk} (d : Gb h T E L br f b W) (hb : Below W.heap.size W W') : Gb h T E L br f b W' := by
  obtain ⟨B, lb, R, h1, h2, h3⟩ := d
  exact ⟨B, lb, R, h1.below hb, h2, h3⟩
theorem Gb.get {f : Nat} {b : Hea.Blk} (d : Gb h T E L br f b W) (hf : f ∈ E) : Calls Tryz.prog 32 #[pV h, .int .i64 (f : Int)] W fun e W' => e = .returned (.tuple #[b.agg, .int .i64 0]) ∧ Gb h T E L br f b W' ∧ Fr W.heap.size (blkM h) W W' := by
  obtain ⟨B, lb, R, ⟨l, h1, h2⟩, h3, rfl⟩ := d
  refine (st_get h1.st (h1.lv f hf) (h1.rb.eok hf) (h1.rb.ent f hf)).mono ?_
  rintro e W' ⟨rfl, hs, hf'⟩
  exact ⟨rfl, ⟨B, lb, R, ⟨l, ⟨hs, h1.lv, h1.rb, tabC_fr h1.tc h1.st hf'⟩, h2⟩, h3, rfl⟩, hf'⟩
theorem Gb.take {f : Nat} {b : Hea.Blk} (d : Gb h T E L br f b W) (c : Int) : Calls Tryz.prog 12 #[pV h, .int .i64 c] W fun e W' =>
    (∃ x er, er ≠ 0 ∧ (tkF 7 224 T c).1.2 = er ∧ e = .returned (.tuple #[.int .i64 x, .int .i64 er]) ∧ Gb h T E L br f b W' ∧ Fr W.heap.size (blkM h) W W') ∨
    (∃ a : Nat, (tkF 7 224 T c).1 = ((a : Int), 0) ∧ e = .returned (.tuple #[.int .i64 (a : Int), .int .i64 0]) ∧ a ∉ E ∧ Lv 7 224 (tkF 7 224 T c).2 a ∧ Gb h (tkF 7 224 T c).2 E L br f b W' ∧ Fr W.heap.size (blkM h) W W') := by
  obtain ⟨B, lb, R, ⟨l, h1, h2⟩, h3, hb⟩ := d
  refine (h1.st.take c).mono ?_
  rintro e W' ⟨l', he, hs, hf, hk, hz⟩
  have hlow := fun t (q1 : 60 ≤ t) (q2 : t < 72) => st_low hs q1 (by omega)
  have hlen : l'.length = l.length := (st_len hs).1.trans (st_len h1.st).1.symm
  have htc := tabC_fr h1.tc h1.st hf
  rcases Sla.tk_spec (N := 224) h1.st.tk c with ⟨q1, q2⟩ | ⟨q1, j, k, q2, q3⟩
  · rw [q2] at hs hk
    have hrb := h1.rb.same hlen hlow (fun x hx => kp_at hk (h1.lv x hx) (fun j k _ hk' _ => ⟨hk', rfl⟩))
    exact .inl ⟨_, _, q1, rfl, he, ⟨B, l', R, ⟨l', ⟨st_self hs, h1.lv, hrb, htc⟩, Nr.refl _ _⟩, h3, hb⟩, hf⟩
  · have hrb := h1.rb.same hlen hlow (fun x hx => kp_at hk (h1.lv x hx) (fun j' k' hj' hk' _ => tkn_at q3 j' k' hj' hk'))
    have hlv := fun x hx => (q3.lv h1.st.tk x).2 (.inr (h1.lv x hx))
    refine .inr ⟨_, ?_, ?_, fun q => q3.fresh (h1.lv _ q), (q3.lv h1.st.tk _).2 (.inl rfl), ⟨B, l', R, ⟨l', ⟨st_self hs, hlv, hrb, htc⟩, Nr.refl _ _⟩, h3, hb⟩, hf⟩
    · rw [← q2, ← q1]
    · rw [he, q1, q2]
theorem Gb.put {f : Nat} {b : Hea.Blk} (d : Gb h T E L br f b W) {a : Nat} (hfE : f ∈ E) (ha : a ∉ E) (hlv : Lv 7 224 T a) :
    Calls Tryz.prog 138 #[pV h, .int .i64 (a : Int), b.agg] W fun e W' => e = .returned (.int .i64 0) ∧ Gp h T E L br f a W' ∧ Fr W.heap.size (blkM h) W W' := by
  obtain ⟨B, lb, R, ⟨l, h1, h2⟩, h3, hb0⟩ := d
  have hlen := st_len h1.st
  have hat := lv_at h1.st hlv
  have hb : EOk b := hb0 ▸ h1.rb.eok hfE
  have hn : b.next = (R.nx f : Int) ∧ b.prev = (R.pv f : Int) := by rw [← hb0]; exact ⟨rfl, rfl⟩
  have hok := (h1.rb.ok f hfE).2
  have e32 := enc32 hb.tag
  refine (st_put h1.st hlv hb).mono ?_
  rintro e W' ⟨rfl, hs, hf⟩
  have hget := fun t => Mem.wr_get l (Hea.encL b) a t (by rw [e32]; omega)
  have hrb := h1.rb.same (l' := wrL l a (Hea.encL b)) (Arn.wrL_length _ _ _ (by rw [e32]; omega)) (fun t q1 q2 => by rw [hget, if_neg (by rw [e32]; omega)]) (fun x hx t q1 q2 => by
    have := lv_apart (h1.lv x hx) hlv (by rintro rfl; exact ha hx)
    rw [hget, if_neg (by rw [e32]; omega)])
  have hne : ∀ x ∈ E, x ≠ a := by rintro x hx rfl; exact ha hx
  have hB : ∀ x ∈ E, bl (fun y => if y = a then b else B y) { R with nx := up R.nx a (R.nx f), pv := up R.pv a (R.pv f) } x = bl B R x := fun x hx => by
    unfold bl
    simp only [if_neg (hne x hx), up_other _ (hne x hx)]
  have hBa : bl (fun y => if y = a then b else B y) { R with nx := up R.nx a (R.nx f), pv := up R.pv a (R.pv f) } a = b := by
    unfold bl
    simp only [if_pos trivial, up_same]
    rw [← hn.1, ← hn.2]
  have hfa := hne f hfE
  refine ⟨rfl, ⟨(fun y => if y = a then b else B y), wrL l a (Hea.encL b), { R with nx := up R.nx a (R.nx f), pv := up R.pv a (R.pv f) }, ⟨_, ⟨hs, fun x hx => ?_, ⟨fun x hx => ?_, fun x hx => ?_, hrb.hand, hrb.broom, hrb.cnt⟩, tabC_fr h1.tc h1.st hf⟩, Nr.refl _ _⟩, ?_, ?_, ?_⟩, hf⟩
  · rcases List.mem_cons.1 hx with rfl | hx
    · exact hlv
    · exact h1.lv x hx
  · rcases List.mem_cons.1 hx with rfl | hx
    · rw [hBa]
      exact wr_part32 e32 (by omega)
    · rw [hB x hx]
      exact hrb.ent x hx
  · rcases List.mem_cons.1 hx with rfl | hx
    · refine ⟨by simp only [if_pos trivial]; exact hb, ?_, ?_⟩
      · show up R.nx x (R.nx f) x < _
        rw [up_same]; exact hok.1
      · show up R.pv x (R.pv f) x < _
        rw [up_same]; exact hok.2
    · obtain ⟨g1, g2, g3⟩ := hrb.ok x hx
      refine ⟨by simp only [if_neg (hne x hx)]; exact g1, ?_, ?_⟩
      · show up R.nx a (R.nx f) x < _
        rw [up_other _ (hne x hx)]; exact g2
      · show up R.pv a (R.pv f) x < _
        rw [up_other _ (hne x hx)]; exact g3
  · exact h3.congr rfl rfl rfl (fun x hx => ⟨up_other _ (hne x hx), up_other _ (hne x hx)⟩)
  · show up R.nx a (R.nx f) a = up R.nx a (R.nx f) f
    rw [up_same, up_other _ hfa]
  · show up R.pv a (R.pv f) a = up R.pv a (R.pv f) f
    rw [up_same, up_other _ hfa]
/-- What the entry is, is the new block. -/
theorem Gp.move {f t k : Nat} (d : Gp h T E L br f t W) (hk : k < L.length) (hf : L.getD k 0 = f) (ht : t ∉ E) :
    Calls Tryz.prog 139 #[pV h, .int .i64 (f : Int), .int .i64 (t : Int)] W fun e W' => e = .returned (.int .i64 0) ∧ (∃ B lb, Rg (fx h T ((t :: E).filter (fun x => decide (x ≠ f))) B lb) (L.set k t) (mv f t br) W') ∧ Fr W.heap.size (blkM h) W W' := by
  obtain ⟨B, lb, R, h1, h2, hn, hp⟩ := d
  have hfL : f ∈ L := hf ▸ get_in hk
  have hfE := h2.sub f hfL
  have hft : f ≠ t := by rintro rfl; exact ht hfE
  have hf0 := h2.pos f hfE
  have hfb := h1.facts (x := f) (List.mem_cons_of_mem _ hfE)
  have htf := h1.facts (x := t) (List.mem_cons_self ..)
  have hin : ∀ x ∈ (t :: E).filter (fun x => decide (x ≠ f)), x = t ∨ (x ∈ E ∧ x ≠ f) := fun x hx => by
    have := List.mem_filter.1 hx
    rcases List.mem_cons.1 this.1 with q | q
    · exact .inl q
    · exact .inr ⟨q, by simpa using this.2⟩
  have hset : ∀ x ∈ L.set k t, x ∈ (t :: E).filter (fun x => decide (x ≠ f)) := fun x hx => by
    rw [List.mem_filter]
    have htL : t ∉ L := fun q => ht (h2.sub _ q)
    obtain ⟨i, hi, rfl⟩ := at_of hx
    rw [List.length_set] at hi
    rw [set_get _ _ _ _ hk]
    by_cases e : i = k
    · rw [if_pos e]
      exact ⟨List.mem_cons_self .., by simp only [decide_eq_true_eq]; exact Ne.symm hft⟩
    · rw [if_neg e]
      refine ⟨List.mem_cons_of_mem _ (h2.sub _ (get_in hi)), ?_⟩
      simp only [decide_eq_true_eq]
      exact fun q => e (get_inj h2.cy.nd hi hk (q.trans hf.symm))
  have hmvE : ∀ x ∈ L, mv f t x ∈ t :: E := fun x hx => by
    unfold mv
    split
    · exact List.mem_cons_self ..
    · exact List.mem_cons_of_mem _ (h2.sub _ hx)
  have mvne : ∀ v, mv f t v = v ∨ v = f := fun v => by unfold mv; split; right; assumption; left; rfl
  obtain ⟨R2, e2⟩ : ∃ R2, R2 = fol f t (fol f t R 5 t) 6 t := ⟨_, rfl⟩
  have hR2n : R2.nx = up R.nx t (mv f t (R.nx f)) := by rw [e2, ← hn]; rfl
  have hR2p : R2.pv = up R.pv t (mv f t (R.pv f)) := by rw [e2, ← hp]; rfl
  obtain ⟨n', hnn⟩ : ∃ n', R2.nx t = n' := ⟨_, rfl⟩
  have hn1 : n' = mv f t (R.nx f) := by rw [← hnn, hR2n, up_same]
  obtain ⟨R3, e3⟩ : ∃ R3, R3 = fol f t R2 6 n' := ⟨_, rfl⟩
  have hR3p : R3.pv = up R2.pv n' (mv f t (R2.pv n')) := by rw [e3]; rfl
  obtain ⟨p', hpp⟩ : ∃ p', R3.pv t = p' := ⟨_, rfl⟩
  have hp1 : p' = mv f t (R.pv f) := by
    rw [← hpp, hR3p]
    by_cases h : t = n'
    · rw [← h, up_same, hR2p, up_same]
      rcases mvne (R.pv f) with q | q
      · rw [q, q]
      · rw [q]; unfold mv; rw [if_pos rfl, if_neg (Ne.symm hft)]
    · rw [up_other _ h, hR2p, up_same]
  obtain ⟨R4, e4⟩ : ∃ R4, R4 = fol f t R3 5 p' := ⟨_, rfl⟩
  have hnE : n' ∈ t :: E := hn1 ▸ hmvE _ (h2.cy.nx_in hfL)
  have hpE : p' ∈ t :: E := hp1 ▸ hmvE _ (h2.cy.pv_in hfL)
  have hnz : R.nx t ≠ 0 := by rw [hn]; exact h2.pos _ (h2.sub _ (h2.cy.nx_in hfL))
  have hrp := move_rp h2 hk hf ht hn hp e2 hnn e3 hpp e4 hin hset (by omega)
  refine (move_any h1 hf0 (by omega) (List.mem_cons_self ..) hnz e2 hnn hnE e3 hpp hpE e4).mono ?_
  rintro e W' ⟨rfl, hs, hfr⟩
  obtain ⟨l, q1, q2⟩ := hs
  have hsub : ∀ x ∈ (t :: E).filter (fun x => decide (x ≠ f)), x ∈ t :: E := fun x hx => (List.mem_filter.1 hx).1
  exact ⟨rfl, ⟨B, l, rk R4 f t 2, ⟨l, ⟨q1.st, fun x hx => q1.lv x (hsub x hx), ⟨fun x hx => q1.rb.ent x (hsub x hx), fun x hx => q1.rb.ok x (hsub x hx), q1.rb.hand, q1.rb.broom, q1.rb.cnt⟩, q1.tc⟩, Nr.refl _ _⟩, hrp⟩, hfr⟩
end
end Go.Proofs.YtjjfihoplkddfaaGreatDoor.Rin

namespace Go.Proofs.YtjjfihoplkddfaaGreatDoor.Rin
open Go.RowKit Num
open Mem (Mm MemC MRet Hm rd blkM)
open Lis (Cf LM LR Tb at_ valsN)
open Sla (Sl St Lv pl aT pV Lo tkF gvF Tk czL)
open Arn (wrL is64)
set_option linter.unusedVariables false

section
variable {h : Hm} {T : List Sl} {w0 w w' W W' : World} {n : Nat} {E L : List Nat} {br : Nat}
theorem Gp.lv {f t : Nat} (d : Gp h T E L br f t W) (hf : f ∈ E) : Lv 7 224 T f := by
  obtain ⟨B, lb, R, ⟨l, h1, h2⟩, -⟩ := d
  exact h1.lv f (List.mem_cons_of_mem _ hf)
theorem Gp.facts {f t : Nat} (d : Gp h T E L br f t W) : 128 ≤ t ∧ t ≤ 100000 := by
  obtain ⟨B, lb, R, h1, -⟩ := d
  have := h1.facts (x := t) (List.mem_cons_self ..)
  omega
theorem set_out {k f t : Nat} (hn : L.Nodup) (hk : k < L.length) (hf : L.getD k 0 = f) (hft : f ≠ t) : f ∉ L.set k t := by
  intro hx
  obtain ⟨i, hi, e⟩ := at_of hx
  rw [List.length_set] at hi
  rw [set_get _ _ _ _ hk] at e
  by_cases q : i = k
  · rw [if_pos q] at e
    exact hft e.symm
  · rw [if_neg q] at e
    exact q (get_inj hn hi hk (e.trans hf.symm))
theorem Wr.ofGb {T' : List Sl} {f : Nat} {b : Hea.Blk} (d : Wr w0 h n T E L br W) (hg : Gb h T' E L br f b W') (hf : Fr W.heap.size (blkM h) W W') : Wr w0 h n T' E L br W' := by
  obtain ⟨B, lb, R, h1, h2, -⟩ := hg
  exact d.fr ⟨B, lb, R, h1, h2⟩ hf
def bxO (b : Hea.Blk) : Obj := .cells #[.int .i64 b.tag, .int .i64 b.cls, .bool b.used, .int .i64 b.lab, .int .u32 b.name, .int .u32 b.next, .int .u32 b.prev, .int .u32 b.refs, .int .u64 b.exp, .int .u16 b.typ, .int .i64 b.size, .int .u32 b.hash] 68 (0, 0)
set_option maxRecDepth 100000 in
set_option maxHeartbeats 4000000 in
theorem Wr.moved (d : Wr w0 h n T E L br W) {k : Nat} (hk : k < L.length) : Calls Tryz.prog 52 #[pV h, .int .i64 ((L.getD k 0 : Nat) : Int)] W fun e W' =>
    (czL T = [] ∧ e = .returned (.int .i64 0) ∧ Wr w0 h n T E L br W' ∧ Fr W.heap.size (blkM h) W W') ∨
    (∃ (t : Nat) (T' : List Sl) (E' : List Nat), t ∉ L ∧ 0 < t ∧ t ≤ 100000 ∧ e = .returned (.int .i64 (t : Int)) ∧ Wr w0 h n T' E' (L.set k t) (mv (L.getD k 0) t br) W' ∧ Fr W.heap.size (blkM h) W W') := by
  obtain ⟨f, hf⟩ : ∃ f, L.getD k 0 = f := ⟨_, rfl⟩
  rw [hf]
  have hfL : f ∈ L := hf ▸ get_in hk
  have hfE := d.sub f hfL
  obtain ⟨b, hb, hok, hc1, hc9⟩ := d.gb hfE
  have HT0 := Lib.hid (fun (q : (tkF 7 224 T b.cls).1.2 ≠ 0) => tk_full d.tk hc1 hc9 q)
  have HG := Lib.hid (hb.get hfE)
  have HTk := Lib.hid (fun W' (hW : Gb h T E L br f b W') => hW.take b.cls)
  have HPt := Lib.hid (fun (a : Nat) W' (hW : Gb h (tkF 7 224 T b.cls).2 E L br f b W') (ha : a ∉ E) (hlv : Lv 7 224 (tkF 7 224 T b.cls).2 a) => hW.put hfE ha hlv)
  have HMv := Lib.hid (fun (a : Nat) W' (hW : Gp h (tkF 7 224 T b.cls).2 E L br f a W') (ha : a ∉ E) => hW.move hk hf ha)
  have HLv := Lib.hid (fun (a : Nat) W' (hW : Gp h (tkF 7 224 T b.cls).2 E L br f a W') => (⟨hW.lv hfE, hW.facts⟩ : Lv 7 224 (tkF 7 224 T b.cls).2 f ∧ 128 ≤ a ∧ a ≤ 100000))
  have HSub := Lib.hid d.sub
  have HSo := Lib.hid (fun (t : Nat) (q : f ≠ t) => set_out d.nodup hk hf q)
  have HBx : Hid (∀ g V V', V.heap[g]? = some (bxO b) → n ≤ g → g < V.heap.size → Fr V.heap.size (blkM h) V V' → V'.heap[g]? = some (bxO b)) := fun g V V' q1 q2 q3 q4 => (q4.block g q3 (fun q => by have := d.lo.m g q; omega)).trans q1
  have HD := Lib.hid d
  have HGbK := Lib.hid (fun V V' (q : Gb h T E L br f b V) (hb : Below V.heap.size V V') => q.below hb)
  have hnW := d.nn
  have HfE := Lib.hid hfE
  generalize tkF 7 224 T b.cls = q at HT0 HTk HPt HMv HLv
  clear d hb hok hc1 hc9 hfL hfE hf
  obtain ⟨b0, b1, b2, b3, b4, b5, b6, b7, b8, b9, b10, b11⟩ := b
  unfold Hea.Blk.agg at HG HPt
  unfold bxO at HBx
  simp only at HG HPt HBx HTk
  unfold pV at *
  go_enter Tryz.func52, Tryz.ntmps52
  go_wp2_with fail
  refine HG.out.mono ?_
  rintro e w1 ⟨rfl, hg1, hf1⟩
  have hbl := heap_alloc_new w1 (.cells #[.int .i64 b0, .int .i64 b1, .bool b2, .int .i64 b3, .int .u32 b4, .int .u32 b5, .int .u32 b6, .int .u32 b7, .int .u64 b8, .int .u16 b9, .int .i64 b10, .int .u32 b11] 68)
  have hbb := below_made w1 (.cells #[.int .i64 b0, .int .i64 b1, .bool b2, .int .i64 b3, .int .u32 b4, .int .u32 b5, .int .u32 b6, .int .u32 b7, .int .u64 b8, .int .u16 b9, .int .i64 b10, .int .u32 b11] 68)
  have HTk1 := Lib.hid (HTk.out _ (HGbK.out _ _ hg1 hbb))
  have hf1' : Fr W.heap.size (blkM h) W (w1.alloc (.cells #[.int .i64 b0, .int .i64 b1, .bool b2, .int .i64 b3, .int .u32 b4, .int .u32 b5, .int .u32 b6, .int .u32 b7, .int .u64 b8, .int .u16 b9, .int .i64 b10, .int .u32 b11] 68)) := hf1.trans ((Fr.of_below hbb).mono hf1.size (fun _ _ q => q))
  have hng : n ≤ w1.heap.size := Nat.le_trans hnW hf1.size
  have hgs : w1.heap.size < (w1.alloc (.cells #[.int .i64 b0, .int .i64 b1, .bool b2, .int .i64 b3, .int .u32 b4, .int .u32 b5, .int .u32 b6, .int .u32 b7, .int .u64 b8, .int .u16 b9, .int .i64 b10, .int .u32 b11] 68)).heap.size := by simp
  have HBl := Lib.hid hbl
  have HF1 := Lib.hid hf1'
  have x1 := (cell_block hbl 1).trans (show _ = some (.int .i64 b1) from rfl)
  clear hg1 hf1 hbl hbb hf1' HG HTk HGbK
  go_wp2_with fail
  refine HTk1.out.mono ?_
  rintro e w2 (⟨x, er, hne, her, rfl, hg2, hf2⟩ | ⟨a, hq, rfl, haE, hlv, hg2, hf2⟩)
  · have hne1 : (er == 0) = false := by simpa using hne
    have hne2 : (er != 0) = true := by rw [bne, hne1]; rfl
    have hf02 := HF1.out.trans (hf2.mono HF1.out.size (fun _ _ q => q))
    have HE : Hid (czL T = [] ∧ Wr w0 h n T E L br w2 ∧ Fr W.heap.size (blkM h) W w2) := ⟨HT0.out (by rw [her]; exact hne), HD.out.ofGb hg2 hf02, hf02⟩
    clear hne her hg2 hf2 hf02 HD HF1 HT0 HPt HMv HLv HBx HTk1
    go_wp2
    go_ret
    exact .inl ⟨HE.out.1, rfl, HE.out.2⟩
  · have hbx := HBx.out _ _ _ HBl.out hng hgs hf2
    have y0 := (cell_block hbx 0).trans (show _ = some (.int .i64 b0) from rfl)
    have y1 := (cell_block hbx 1).trans (show _ = some (.int .i64 b1) from rfl)
    have y2 := (cell_block hbx 2).trans (show _ = some (.bool b2) from rfl)
    have y3 := (cell_block hbx 3).trans (show _ = some (.int .i64 b3) from rfl)
    have y4 := (cell_block hbx 4).trans (show _ = some (.int .u32 b4) from rfl)
    have y5 := (cell_block hbx 5).trans (show _ = some (.int .u32 b5) from rfl)
    have y6 := (cell_block hbx 6).trans (show _ = some (.int .u32 b6) from rfl)
    have y7 := (cell_block hbx 7).trans (show _ = some (.int .u32 b7) from rfl)
    have y8 := (cell_block hbx 8).trans (show _ = some (.int .u64 b8) from rfl)
    have y9 := (cell_block hbx 9).trans (show _ = some (.int .u16 b9) from rfl)
    have y10 := (cell_block hbx 10).trans (show _ = some (.int .i64 b10) from rfl)
    have y11 := (cell_block hbx 11).trans (show _ = some (.int .u32 b11) from rfl)
    have HF2 := Lib.hid (HF1.out.trans (hf2.mono HF1.out.size (fun _ _ q => q)))
    have HP1 := Lib.hid (HPt.out a w2 hg2 haE hlv)
    have HaE := Lib.hid haE
    clear hbx hg2 hf2 hq haE hlv HT0 HPt HBx HTk1 HF1 HBl x1
    go_wp2_with fail
    refine HP1.out.mono ?_
    rintro e w3 ⟨rfl, hg3, hf3⟩
    have HF3 := Lib.hid (HF2.out.trans (hf3.mono HF2.out.size (fun _ _ q => q)))
    have HM1 := Lib.hid (HMv.out a w3 hg3 HaE.out)
    have HL1 := Lib.hid (HLv.out a w3 hg3)
    clear hg3 hf3 HF2 HP1 HMv HLv y0 y1 y2 y3 y4 y5 y6 y7 y8 y9 y10 y11
    go_wp2_with fail
    refine HM1.out.mono ?_
    rintro e w4 ⟨rfl, hg4, hf4⟩
    have hf04 := HF3.out.trans (hf4.mono HF3.out.size (fun _ _ q => q))
    have hfa : f ≠ a := fun q => HaE.out (q ▸ HfE.out)
    have HGv := Lib.hid ((HD.out.fr hg4 hf04).give HL1.out.1 (HSo.out a hfa))
    have HF4 := Lib.hid hf04
    have HEn : Hid (a ∉ L ∧ 0 < a ∧ a ≤ 100000) := ⟨fun q => HaE.out (HSub.out a q), by have := HL1.out.2; omega, HL1.out.2.2⟩
    unfold pV at HGv
    clear hg4 hf4 hf04 hfa HF3 HM1 HL1 HSo HSub HaE HfE HD
    go_wp2_with fail
    refine HGv.out.mono ?_
    rintro e w5 ⟨T5, rfl, hd5, hf5⟩
    have HE : Hid (Wr w0 h n T5 (((a :: E).filter (fun x => decide (x ≠ f))).filter (fun x => decide (x ≠ f))) (L.set k a) (mv f a br) w5 ∧ Fr W.heap.size (blkM h) W w5) := ⟨hd5, HF4.out.trans (hf5.mono HF4.out.size (fun _ _ q => q))⟩
    clear hd5 hf5 HGv HF4
    go_wp2
    go_ret
    exact .inr ⟨a, T5, _, HEn.out.1, HEn.out.2.1, HEn.out.2.2, rfl, HE.out.1, HE.out.2⟩
end
end Go.Proofs.YtjjfihoplkddfaaGreatDoor.Rin

namespace Go.Proofs.YtjjfihoplkddfaaGreatDoor.Rin
open Go.RowKit Num
open Mem (Hm blkM)
open Lis (valsN ints cell_lt)
open Sla (Lo OwnI)
open Arn (wrL is64)
set_option linter.unusedVariables false

theorem own_open2 {w : World} {base : Nat} {t : TypeId} {v : Value} {k : Nat} {xs : List Value} (h : w.ownsRow base t 1 v k xs) (hk : 0 < k) : ∃ g cap, v = .slice (some ⟨g, 0, none⟩) k cap ∧ base ≤ g := by
  rcases h.2 with ⟨rfl, h0⟩ | ⟨g, cap, cur, rfl, hg, -⟩
  · omega
  · exact ⟨g, cap, rfl, hg⟩
/-- The document's ring: its entries, and the broom's. -/
structure Dr (n g : Nat) (L : List Nat) (br : Nat) (W : World) : Prop where
  ex : ∃ u, W.heap[g]? = some (.cells #[u, .int .i64 (br : Int)] 95 (0, 0)) ∧ OwnI n W u L ∧ ∀ b, u.ownBlock = some b → b ≠ g
  bd : ∀ x ∈ L, x ≤ 100000
  nd : L.Nodup
  ln : L.length ≤ 500
  hn : n ≤ g
def DrR (n g : Nat) (L : List Nat) (br : Nat) (r : Value) (w : World) (e : Ending) (w' : World) : Prop := e = .returned r ∧ Dr n g L br w' ∧ Fr w.heap.size (fun b => b = g) w w'
section
variable {n g : Nat} {L : List Nat} {br : Nat} {w W W' : World} {h : Hm}
theorem Dr.lt (d : Dr n g L br W) : g < W.heap.size := by
  obtain ⟨u, h1, -⟩ := d.ex
  exact (Array.getElem?_eq_some_iff.1 h1).1
theorem Dr.below (d : Dr n g L br W) (hb : Below W.heap.size W W') : Dr n g L br W' := by
  obtain ⟨u, h1, h2, h3⟩ := d.ex
  exact ⟨⟨u, (hb.block _ (Array.getElem?_eq_some_iff.1 h1).1).trans h1, h2.below hb, h3⟩, d.bd, d.nd, d.ln, d.hn⟩
theorem Dr.fr (d : Dr n g L br W) (hf : Fr W.heap.size (blkM h) W W') (hl : Lo h n) : Dr n g L br W' := by
  obtain ⟨u, h1, h2, h3⟩ := d.ex
  have hg := d.hn
  exact ⟨⟨u, (hf.block _ (Array.getElem?_eq_some_iff.1 h1).1 (fun q => by have := hl.m _ q; omega)).trans h1, h2.fr hf hl, h3⟩, d.bd, d.nd, d.ln, d.hn⟩
/-- The row and the broom, as loads see them. -/
theorem Dr.open (d : Dr n g L br W) : ∃ p c, W.heap[g]? = some (.cells #[.slice p L.length c, .int .i64 (br : Int)] 95 (0, 0)) ∧ W.cell? ⟨g, 0, none⟩ = some (.slice p L.length c) ∧ W.cell? ⟨g, 1, none⟩ = some (.int .i64 (br : Int)) ∧ W.frozen? ⟨g, 0, none⟩ = false ∧ W.frozen? ⟨g, 1, none⟩ = false ∧
    Row .i64 W (.slice p L.length c) (ints L) ∧ L.length ≤ c ∧ (L ≠ [] → ∃ b, p = some ⟨b, 0, none⟩ ∧ b ≠ g ∧ n ≤ b ∧ ∀ i, i < L.length → W.cell? ⟨b, i, none⟩ = some (.int .i64 ((L.getD i 0 : Nat) : Int))) := by
  obtain ⟨u, h1, h2, h3⟩ := d.ex
  obtain ⟨p, c, rfl, hc1, hc2⟩ := h2.shape
  refine ⟨p, c, h1, (cell_block h1 0).trans rfl, (cell_block h1 1).trans rfl, Hea.frozen_block h1 0, Hea.frozen_block h1 1, own_row h2 d.bd, hc1, fun hne => ?_⟩
  obtain ⟨b, rfl, hb⟩ := h2.cells hne
  exact ⟨b, rfl, h3 b rfl, h2.base b rfl, hb⟩
def fdI (L : List Nat) (a : Nat) : Int := if a ∈ L then (L.idxOf a : Int) else -1
set_option maxRecDepth 100000 in
theorem find_any (d : Dr n g L br w) (a : Nat) : Calls Tryz.prog 135 #[.pointer (some ⟨g, 0, none⟩), .int .i64 (a : Int)] w fun e w' => e = .returned (.int .i64 (fdI L a)) ∧ w = w' := by
  obtain ⟨p, c, -, c0, -, -, -, -, hlc, hcells⟩ := d.open
  have hln := d.ln
  have HNd := Lib.hid d.nd
  have HC := Lib.hid hcells
  clear d hcells
  go_enter Tryz.func135, Tryz.ntmps135
  go_wp2
  go_loopw [5] (fun i wr => ∃ k : Nat, k ≤ L.length ∧ i = .int .i64 k ∧ wr = w ∧ Hid (∀ j, j < k → L.getD j 0 ≠ a)) (fun i _ => L.length - (intOf i).toNat)
  case atStart => exact ⟨0, Nat.zero_le _, rfl, rfl, fun j hj => absurd hj (Nat.not_lt_zero _)⟩
  case round =>
    obtain ⟨k, hk, rfl, rfl, HF⟩ := hrel
    by_cases hlt : k < L.length
    · have hlt1 : (k : Int) < (L.length : Int) := by omega
      have hlt0 : (0 : Int) ≤ (k : Int) := by omega
      have hjw : IntKind.i64.wrap ((k : Int) + 1) = ((k + 1 : Nat) : Int) := (Arn.wrap_id (by omega) (by omega)).trans (by omega)
      obtain ⟨b, rfl, -, -, hcl⟩ := HC.out (by rintro rfl; simp at hlt)
      have d0 := hcl k hlt
      clear hcl
      by_cases he : L.getD k 0 = a
      · have hin : a ∈ L := he ▸ get_in hlt
        have hfd : fdI L a = (k : Int) := by
          unfold fdI
          rw [if_pos hin, ← he, idx_at HNd.out hlt]
        have HFd := Lib.hid hfd
        rw [he] at d0
        clear hfd he hin
        go_wp2
        go_ret
        exact ⟨by rw [HFd.out]; rfl, rfl⟩
      · have hne : (((L.getD k 0 : Nat) : Int) == (a : Int)) = false := by rw [beq_eq_false_iff_ne]; omega
        have HF2 : Hid (∀ j, j < k + 1 → L.getD j 0 ≠ a) := fun j hj => by
          by_cases e : j = k
          · rw [e]; exact he
          · exact HF.out j (by omega)
        generalize L.getD k 0 = y at d0 hne
        clear he HF
        go_wp2
        go_roundw
        case rel => exact ⟨k + 1, by omega, by go_num, by first | rfl | trivial, HF2.out⟩
        case measure => simp [intOf]; omega
    · obtain rfl : k = L.length := by omega
      have hfd : fdI L a = -1 := by
        unfold fdI
        rw [if_neg]
        intro q
        obtain ⟨i, hi, e⟩ := at_of q
        exact HF.out i hi e
      have HFd := Lib.hid hfd
      clear hfd HF
      go_wp2
      go_ret
      exact ⟨by rw [HFd.out]; rfl, rfl⟩
theorem hand_ref (d : Dr n g L br w) : Calls Tryz.prog 60 #[.pointer (some ⟨g, 0, none⟩)] w fun e w' => e = .returned (.int .i64 ((L.getD 0 0 : Nat) : Int)) ∧ w = w' := by
  obtain ⟨p, c, -, c0, -, -, -, -, hlc, hcells⟩ := d.open
  by_cases h0 : L = []
  · subst h0
    rw [show (([] : List Nat).getD 0 0) = 0 from rfl, show ((0 : Nat) : Int) = 0 from rfl]
    rw [show ([] : List Nat).length = 0 from rfl] at c0
    clear d hcells hlc
    go_enter Tryz.func60, Tryz.ntmps60
    go_wp2
    go_ret
    exact ⟨rfl, rfl⟩
  · obtain ⟨b, rfl, -, -, hcl⟩ := hcells h0
    have hp := List.length_pos_iff.2 h0
    have d0 := hcl 0 hp
    have hz : ((L.length : Int) == 0) = false := by rw [beq_eq_false_iff_ne]; omega
    have hp1 : (0 : Int) < (L.length : Int) := by omega
    generalize L.getD 0 0 = y at d0 ⊢
    generalize L.length = ln at *
    clear d hcells hlc hcl h0 hp
    go_enter Tryz.func60, Tryz.ntmps60
    go_wp2
    go_ret
    exact ⟨rfl, rfl⟩
set_option maxRecDepth 100000 in
theorem next_ref (d : Dr n g L br w) {a : Nat} (ha : a ∈ L) : Calls Tryz.prog 136 #[.pointer (some ⟨g, 0, none⟩), .int .i64 (a : Int)] w fun e w' => e = .returned (.int .i64 ((if L.length < 2 then 0 else L.getD (sc L.length (L.idxOf a)) 0 : Nat) : Int)) ∧ Below w.heap.size w w' := by
  obtain ⟨p, c, -, c0, -, -, -, -, hlc, hcells⟩ := d.open
  have hfd : fdI L a = (L.idxOf a : Int) := if_pos ha
  have HF : Hid (∀ m, Calls Tryz.prog 135 #[.pointer (some ⟨g, 0, none⟩), .int .i64 (a : Int)] (w.drewN m) fun e w' => e = .returned (.int .i64 (L.idxOf a : Int)) ∧ w' = w.drewN m) := fun m => by
    refine (find_any (d.below (below_drewN (Below.refl _ _) m)) a).mono ?_
    rintro e w' ⟨rfl, rfl⟩
    exact ⟨by rw [hfd], rfl⟩
  have hix : L.idxOf a < L.length := List.idxOf_lt_length_of_mem ha
  have hln := d.ln
  by_cases h2 : L.length < 2
  · rw [if_pos h2, show ((0 : Nat) : Int) = 0 from rfl]
    have h2' : (L.length : Int) < 2 := by omega
    clear d hcells hlc hfd
    go_enter Tryz.func136, Tryz.ntmps136
    go_wp2
    go_ret
    exact ⟨rfl, Below.refl _ _⟩
  · rw [if_neg h2]
    have h2' : ¬ (L.length : Int) < 2 := by omega
    have h2d : decide ((L.length : Int) < 2) = false := by rw [decide_eq_false_iff_not]; omega
    obtain ⟨b, rfl, -, -, hcl⟩ := hcells (by rintro rfl; simp at h2)
    obtain ⟨s, hs⟩ : ∃ s, s = sc L.length (L.idxOf a) := ⟨_, rfl⟩
    have hsl : s < L.length := by rw [hs]; exact sc_lt hix
    have d0 := hcl s hsl
    have hw : IntKind.i64.wrap ((L.idxOf a : Int) + 1) = ((L.idxOf a + 1 : Nat) : Int) := (Arn.wrap_id (by omega) (by omega)).trans (by omega)
    have hm : ((L.idxOf a + 1 : Nat) : Int).tmod (L.length : Int) = (s : Int) := by
      rw [Int.tmod_eq_emod_of_nonneg (by omega), ← Int.natCast_emod, hs]
      congr 1
      unfold sc
      by_cases e : L.idxOf a + 1 = L.length
      · rw [if_pos e, e, Nat.mod_self]
      · rw [if_neg e, Nat.mod_eq_of_lt (by omega)]
    have hz : ((L.length : Int) == 0) = false := by rw [beq_eq_false_iff_ne]; omega
    have hs0 : (0 : Int) ≤ (s : Int) := by omega
    have hs1 : (s : Int) < (L.length : Int) := by omega
    rw [← hs]
    generalize L.getD s 0 = y at d0 ⊢
    generalize L.idxOf a + 1 = i1 at hw hm
    generalize L.idxOf a = i0 at HF hw hix
    clear d hcells hlc hfd hcl hs hsl hix
    go_enter Tryz.func136, Tryz.ntmps136
    go_wp2
    go_quiet ((go_at_call 135; exact Calls.quiet_of_same (HF.out _)))
    go_wp2
    go_ret
    exact ⟨rfl, below_drewN (Below.refl _ _) nq⟩
end
end Go.Proofs.YtjjfihoplkddfaaGreatDoor.Rin

namespace Go.Proofs.YtjjfihoplkddfaaGreatDoor.Rin
open Go.RowKit Num
open Mem (Hm blkM)
open Lis (valsN ints cell_lt)
open Sla (Lo OwnI)
open Arn (wrL is64)
set_option linter.unusedVariables false

section
variable {n g : Nat} {L : List Nat} {br : Nat} {w W W' : World} {h : Hm}
theorem own_ints {B : Nat} {v : Value} {k : Nat} {A : List Nat} {X : List Int} (h : W.ownsRow B 3 1 v k (vals64 X)) (hX : X = ints A) (hk : k = A.length) : OwnI B W v A := by
  have e : vals64 X = valsN A := by
    rw [hX]
    unfold vals64 ints valsN
    rw [List.map_map]
    rfl
  rw [e, hk] at h
  exact h
/-- The row is another one. -/
theorem Dr.set0 {L' : List Nat} {u v : Value} (hb : W.heap[g]? = some (.cells #[u, .int .i64 (br : Int)] 95 (0, 0))) (ho : OwnI n W v L') (hv : ∀ b, v.ownBlock = some b → b ≠ g) (bd : ∀ x ∈ L', x ≤ 100000) (nd : L'.Nodup) (ln : L'.length ≤ 500) (hn : n ≤ g) : Dr n g L' br (W.setCell ⟨g, 0, none⟩ v) := by
  refine ⟨⟨v, two_set0 hb v, ?_, hv⟩, bd, nd, ln, hn⟩
  exact Sla.OwnI.grown (r := some g) ho (Sla.grown_set W ⟨g, 0, none⟩ v) (fun b hb q => hv b hb (by injection q))
theorem Dr.set1 (d : Dr n g L br W) (y : Nat) : Dr n g L y (W.setCell ⟨g, 1, none⟩ (.int .i64 (y : Int))) := by
  obtain ⟨u, h1, h2, h3⟩ := d.ex
  exact ⟨⟨u, two_set1 h1 _, Sla.OwnI.grown (r := some g) h2 (Sla.grown_set W ⟨g, 1, none⟩ _) (fun b hb q => h3 b hb (by injection q)), h3⟩, d.bd, d.nd, d.ln, d.hn⟩
set_option maxRecDepth 100000 in
theorem brush_ref (d : Dr n g L br w) (hbr : br ∈ L ∨ (L = [] ∧ br = 0)) : Calls Tryz.prog 51 #[.pointer (some ⟨g, 0, none⟩)] w (DrR n g L (brN L br) (.int .i64 (br : Int)) w) := by
  obtain ⟨p, c, hblk, c0, c1, f0, f1, -, hlc, -⟩ := d.open
  by_cases h2 : L.length < 2
  · have e : brN L br = br := if_pos h2
    rw [e]
    have h2' : ¬ (1 : Int) < (L.length : Int) := by omega
    have h2d : decide ((1 : Int) < (L.length : Int)) = false := by rw [decide_eq_false_iff_not]; omega
    have HE : Hid (DrR n g L br (.int .i64 (br : Int)) w (.returned (.int .i64 (br : Int))) w) := ⟨rfl, d, Fr.refl _ _ _⟩
    clear d hlc e hblk
    go_enter Tryz.func51, Tryz.ntmps51
    go_wp2
    go_ret
    exact HE.out
  · have hin : br ∈ L := hbr.resolve_right (fun q => by rw [q.1] at h2; simp at h2)
    have HN := Lib.hid (next_ref d hin)
    have e : brN L br = (if L.length < 2 then 0 else L.getD (sc L.length (L.idxOf br)) 0) := by unfold brN; rw [if_neg h2, if_neg h2]
    rw [e]
    have h2' : (1 : Int) < (L.length : Int) := by omega
    have HD := Lib.hid d
    generalize (if L.length < 2 then 0 else L.getD (sc L.length (L.idxOf br)) 0) = y at HN ⊢
    clear d hlc e hblk hin hbr
    go_enter Tryz.func51, Tryz.ntmps51
    go_wp2_with fail
    refine HN.out.mono ?_
    rintro e w1 ⟨rfl, hb1⟩
    have hd1 := HD.out.below hb1
    obtain ⟨p1, c1', hblk, x0, x1, f0, f1, -, -, -⟩ := hd1.open
    have HE : Hid (DrR n g L y (.int .i64 (br : Int)) w (.returned (.int .i64 (br : Int))) (w1.setCell ⟨g, 1, none⟩ (.int .i64 (y : Int)))) := ⟨rfl, hd1.set1 y, (Fr.of_below hb1).setCell (S := fun b => b = g) (p := ⟨g, 1, none⟩) (.inr rfl) _⟩
    clear hd1 hb1 HD HN hblk
    go_wp2
    go_ret
    exact HE.out
theorem rot_cons {L : List Nat} (h : L ≠ []) : rot L = L.drop 1 ++ [L.getD 0 0] := by
  cases L with
  | nil => exact absurd rfl h
  | cons x r => rfl
set_option maxRecDepth 100000 in
set_option maxHeartbeats 1000000 in
theorem turn_ref (d : Dr n g L br w) : Calls Tryz.prog 49 #[.pointer (some ⟨g, 0, none⟩)] w (DrR n g (rot L) br (.int .i64 ((L.getD 0 0 : Nat) : Int)) w) := by
  obtain ⟨i0, hi0, hz0, hz1, hz2⟩ := info_parts Lis.infoInt
  have HH := Lib.hid (hand_ref d)
  obtain ⟨p, c, hblk, c0, c1, f0, f1, hrow, hlc, hcells⟩ := d.open
  by_cases h0 : L = []
  · subst h0
    have h2d : decide ((0 : Int) < ((([] : List Nat).length : Nat) : Int)) = false := by simp
    have HE : Hid (DrR n g (rot []) br (.int .i64 ((([] : List Nat).getD 0 0 : Nat) : Int)) w (.returned (.int .i64 ((([] : List Nat).getD 0 0 : Nat) : Int))) w) := ⟨rfl, d, Fr.refl _ _ _⟩
    rw [show (([] : List Nat).getD 0 0) = 0 from rfl, show ((0 : Nat) : Int) = 0 from rfl] at *
    rw [show ([] : List Nat).length = 0 from rfl] at c0
    clear d hlc hcells hrow hblk h2d
    go_enter Tryz.func49, Tryz.ntmps49
    go_wp2_with fail
    refine HH.out.mono ?_
    rintro e w1 ⟨rfl, rfl⟩
    go_wp2
    go_ret
    exact HE.out
  · obtain ⟨b, rfl, -, -, hcl⟩ := hcells h0
    have hp := List.length_pos_iff.2 h0
    have hp1 : (0 : Int) < (L.length : Int) := by omega
    have hp2 : (1 : Int) ≤ (L.length : Int) := by omega
    have hln := d.ln
    have hng := d.hn
    -- the rest of the row
    have hT : ∀ k m q (V : World), Below w.heap.size w V → k = (if c = 1 then some ⟨b, 0, none⟩ else some ⟨b, 1, none⟩) → m = L.length - 1 → q = c - 1 → Row .i64 V (.slice k m q) (ints (L.drop 1)) := by
      rintro k m q V hb rfl rfl rfl
      have e2 : ints (L.drop 1) = (ints L).drop 1 := by simp [ints]
      have hl := Lis.ints_length L
      rw [e2]
      have hr1 := hrow
      rw [← hl] at hr1 ⊢
      by_cases hc : c = 1
      · have e : (ints L).drop 1 = [] := List.drop_eq_nil_of_le (by omega)
        rw [e]
        refine ⟨_, c - 1, by rw [show (ints L).length - 1 = 0 by omega]; rfl, by simp, by omega, fun i hi => by simp at hi, fun h => absurd rfl h⟩
      · rw [if_neg hc]
        have := Row.tail (hr1.mono hb (Nat.le_refl _)) (show 1 ≤ (ints L).length by omega)
        exact this
    obtain ⟨X, hX⟩ : ∃ X, X = ints (L.drop 1) := ⟨_, rfl⟩
    rw [← hX] at hT
    have HX : Hid (X = ints (L.drop 1) ∧ X.length = L.length - 1) := ⟨hX, by rw [hX, Lis.ints_length]; simp⟩
    clear hX
    have HT := Lib.hid hT
    have HD := Lib.hid d
    have HRc := Lib.hid (rot_cons h0)
    have HR1 : Hid ((∀ x ∈ rot L, x ≤ 100000) ∧ (rot L).Nodup ∧ (rot L).length ≤ 500) := ⟨fun x hx => d.bd x ((rot_mem L x).1 hx), rot_nd d.nd, by rw [rot_len]; exact hln⟩
    generalize hy : L.getD 0 0 = y at HH HRc ⊢
    have hLx : Hid (y ≤ 100000) := by rw [← hy]; exact d.bd _ (get_in hp)
    have HLn : Hid ((L.drop 1).length = L.length - 1) := by simp [Hid]
    have hcl1 : 1 ≤ c := by omega
    clear hcells hcl hrow hy h0 d
    go_enter Tryz.func49, Tryz.ntmps49
    go_wp2_with fail
    refine HH.out.mono ?_
    rintro e w1 ⟨rfl, rfl⟩
    have hal0 : Below w.heap.size w (w.alloc (.cells #[] 3)) := below_made w (.cells #[] 3)
    have HA0 := Lib.hid hal0
    have c0a := (hal0.cell (p := ⟨g, 0, none⟩) (cell_lt c0)).trans c0
    clear HH hal0
    go_wp2_with (at_builtin; refine wpList_append_ints _ rfl (.tmp 13) (.tmp 18) 32 rfl w.heap.size 3 i0 (.int .i64 0) Tryz.underlying32 hi0 hz0 hz1 hz2 rfl _ 0 [] rfl (own_empty64 w 3) _ X rfl (HT.out _ _ _ _ HA0.out rfl rfl rfl) (by have := HX.out.2; omega) (by simp) ?_)
    all_goals
      intro v1 w2 ho1 hg1 _
      have hB1 : Below w.heap.size w w2 := HA0.out.grown hg1 HA0.out.size (fun r hr => ((own_empty64 w 3).lt r hr).1)
      have hlit : Row .i64 (w2.alloc (.cells #[.int .i64 (y : Int)] 3)) (.slice (some ⟨w2.heap.size, 0, none⟩) 1 1) [(y : Int)] := Row.made w2 [(y : Int)] _ _ rfl (fun i hi => by have := hLx.out; simp at hi; subst hi; exact WalkArith.wf_i64 (by simp; omega)) (by simp)
      have HLit := Lib.hid hlit
      have HB1 := Lib.hid hB1
      clear hg1 hB1 hlit c0a
      go_wp2_with (at_builtin; refine wpList_append_ints _ rfl (.tmp 19) (.tmp 21) 32 rfl w.heap.size 3 i0 (.int .i64 0) Tryz.underlying32 hi0 hz0 hz1 hz2 rfl _ _ _ rfl (World.ownsRow.alloc ho1 _) _ [(y : Int)] rfl HLit.out (by have := HX.out.2; simp; omega) (by have := HB1.out.size; simp; omega) ?_)
      intro v2 w3 ho2 hg2 _
      have hB2 : Below w.heap.size w w3 := (HB1.out.alloc HB1.out.size _).grown hg2 (by have := HB1.out.size; simp; omega) (fun r hr => (ho1.lt r hr).1)
      obtain ⟨g2, cap2, rfl, hgg⟩ := own_open2 ho2 (by simp)
      have hgl := cell_lt c0
      have hblk3 := (hB2.block g hgl).trans hblk
      have f3 := Hea.frozen_block hblk3 0
      have c3 : w3.cell? ⟨g, 0, none⟩ = some (.slice (some ⟨b, 0, none⟩) L.length c) := (cell_block hblk3 0).trans rfl
      have hXl := HX.out.2
      have hlen : X.length + 1 = (rot L).length := by rw [rot_len]; omega
      have ho3 : w3.ownsRow w.heap.size 3 1 (.slice (some ⟨g2, 0, none⟩) (X.length + 1) cap2) (X.length + 1) (vals64 (X ++ [(y : Int)])) := by simpa using ho2
      have hsl : ∀ z, z = X.length + 1 → (Value.slice (some ⟨g2, 0, none⟩) z cap2) = .slice (some ⟨g2, 0, none⟩) (rot L).length cap2 := fun z hz => by rw [hz, hlen]
      rw [hlen] at ho3
      have hoI : OwnI n w3 (.slice (some ⟨g2, 0, none⟩) (rot L).length cap2) (rot L) := Sla.OwnI.lower (own_ints ho3 (by rw [HRc.out, HX.out.1]; simp [ints]) rfl) (by omega)
      have HE : Hid (DrR n g (rot L) br (.int .i64 (y : Int)) w (.returned (.int .i64 (y : Int))) (w3.setCell ⟨g, 0, none⟩ (.slice (some ⟨g2, 0, none⟩) (rot L).length cap2))) :=
        ⟨rfl, Dr.set0 hblk3 hoI (fun b hb => by simp only [Value.ownBlock, Option.some.injEq] at hb; omega) HR1.out.1 HR1.out.2.1 HR1.out.2.2 hng, (Fr.of_below hB2).setCell (S := fun b => b = g) (p := ⟨g, 0, none⟩) (.inr rfl) _⟩
      clear ho1 ho2 ho3 hg2 hB2 hgg hblk3 hoI HLit HB1 HA0 HT HD HRc HR1 HLn hblk HX
      go_wp2
      go_ret
      first
        | exact HE.out
        | (rw [← hlen] at HE; exact HE.out)
        | trace_state
end
end Go.Proofs.YtjjfihoplkddfaaGreatDoor.Rin

namespace Go.Proofs.YtjjfihoplkddfaaGreatDoor.Rin
open Go.RowKit Num
open Mem (Hm blkM)
open Lis (valsN ints cell_lt)
open Sla (Lo OwnI del_facts0 del_own)
open Arn (wrL is64)
set_option linter.unusedVariables false

section
variable {n g : Nat} {L : List Nat} {br : Nat} {w W W' : World} {h : Hm}
theorem own_shape2 {B : Nat} {v : Value} {A A' : List Nat} (h : OwnI B W v A) (e : A = A') : ∃ p m c, v = .slice p m c ∧ OwnI B W (.slice p m c) A' := by
  subst e
  obtain ⟨p, c, rfl, -⟩ := Sla.OwnI.shape h
  exact ⟨p, _, c, rfl, h⟩
set_option maxRecDepth 100000 in
set_option maxHeartbeats 4000000 in
theorem remove_ref (d : Dr n g L br w) {a k : Nat} (hk : k < L.length) (ha : L.getD k 0 = a) : Calls Tryz.prog 47 #[.pointer (some ⟨g, 0, none⟩), .int .i64 (a : Int)] w (DrR n g (L.eraseIdx k) (brD L br k) (.int .i64 0) w) := by
  obtain ⟨i0, hi0, hz0, hz1, hz2⟩ := info_parts Lis.infoInt
  have hin : a ∈ L := ha ▸ get_in hk
  have hix : L.idxOf a = k := by rw [← ha, idx_at d.nd hk]
  have hfd : fdI L a = (k : Int) := by unfold fdI; rw [if_pos hin, hix]
  have HF := Lib.hid (find_any d a)
  rw [hfd] at HF
  have HN := Lib.hid (next_ref d hin)
  rw [hix] at HN
  obtain ⟨y, hy⟩ : ∃ y, y = (if L.length < 2 then 0 else L.getD (sc L.length k) 0) := ⟨_, rfl⟩
  rw [← hy] at HN
  have HY := Lib.hid hy
  have hnd : (L.eraseIdx k).Nodup := d.nd.sublist (List.eraseIdx_sublist ..)
  have hbd : ∀ x ∈ L.eraseIdx k, x ≤ 100000 := fun x hx => d.bd x (List.mem_of_mem_eraseIdx hx)
  have HL2 : Hid ((∀ x ∈ L.eraseIdx k, x ≤ 100000) ∧ (L.eraseIdx k).Nodup ∧ (L.eraseIdx k).length ≤ 500) := ⟨hbd, hnd, by have := d.ln; rw [del_len hk]; omega⟩
  have HD := Lib.hid d
  obtain ⟨-, -, -, -, c1, -, -, -, -, -⟩ := d.open
  have hng := d.hn
  have hln := d.ln
  have hk0 : ¬ (k : Int) < 0 := by omega
  have hne : L ≠ [] := by rintro rfl; simp at hk
  have HAk := Lib.hid ha
  clear d hfd hnd hbd hin hix hy ha
  by_cases hb : br = a
  · have hq : ((br : Int) == (a : Int)) = true := by rw [beq_iff_eq]; omega
    have HBr : Hid (brD L br k = y) := by unfold brD; rw [HAk.out, if_pos hb]; exact HY.out.symm
    have HD2 := Lib.hid (fun W (hW : Below w.heap.size w W) => (HD.out.below hW).set1 y)
    have HX := Lib.hid (fun W (hW : Below w.heap.size w W) => (HD.out.below hW).open)
    rw [HBr.out]
    clear HD HBr HY HAk
    go_enter Tryz.func47, Tryz.ntmps47
    go_wp2_with fail
    refine HF.out.mono ?_
    rintro e w1 ⟨rfl, rfl⟩
    go_wp2_with fail
    refine HN.out.mono ?_
    rintro e w1 ⟨rfl, hb1⟩
    obtain ⟨-, -, -, -, x1, -, f1, -, -, -⟩ := HX.out _ hb1
    have hd := HD2.out _ hb1
    have hfr : Fr w.heap.size (fun b => b = g) w (w1.setCell ⟨g, 1, none⟩ (.int .i64 (y : Int))) := (Fr.of_below hb1).setCell (S := fun b => b = g) (p := ⟨g, 1, none⟩) (.inr rfl) _
    have HFr := Lib.hid hfr
    have HDy := Lib.hid hd
    clear hb1 hfr hd HD2 HX HN HF
    go_upto_region 6 with fail
    generalize w1.setCell ⟨g, 1, none⟩ (.int .i64 (y : Int)) = V at *
    have hd := HDy.out
    obtain ⟨u, h1, h2, h3⟩ := hd.ex
    obtain ⟨p, cap, rfl, hc1, hc2⟩ := h2.shape
    obtain ⟨b, rfl, hcl⟩ := h2.cells hne
    have hgl := hd.lt
    have hR4 := h2.row hd.bd
    obtain ⟨s, hs⟩ : ∃ s, s = k + 1 := ⟨_, rfl⟩
    obtain ⟨hT, hDr⟩ := del_facts0 hR4 hk hs
    have HT := Lib.hid hT
    have HDr := Lib.hid hDr
    have hm1 : 0 + (ints (L.take k)).length ≤ 1000000 := by rw [Lis.ints_length, List.length_take]; omega
    have hm2 : 0 + (ints (L.take k)).length + (ints (L.drop s)).length ≤ 1000000 := by rw [Lis.ints_length, Lis.ints_length, List.length_take, List.length_drop]; omega
    have hal0 : Below V.heap.size V (V.alloc (.cells #[] 3)).drew := (below_made V (.cells #[] 3)).drew
    have hs0 : V.heap.size ≤ (V.alloc (.cells #[] 3)).drew.heap.size := hal0.size
    have HOwn := Lib.hid (own_empty64 V 3).drew
    have HA0 := Lib.hid hal0
    have hsl : (s : Int) ≤ (L.length : Int) := by omega
    have hs1 : (0 : Int) ≤ (s : Int) := by omega
    have hk0' : (0 : Int) ≤ (k : Int) := by omega
    have hkc : (k : Int) ≤ (cap : Int) := by omega
    have hcl2 : (L.length : Int) ≤ (cap : Int) := by omega
    have hw3 : IntKind.i64.wrap ((k : Int) + 1) = (s : Int) := (Arn.wrap_id (by omega) (by omega)).trans (by omega)
    have HSS : Hid (∀ W', Below V.heap.size V W' → W'.cell? ⟨g, 0, none⟩ = some (.slice (some ⟨b, 0, none⟩) L.length cap) ∧ W'.frozen? ⟨g, 0, none⟩ = false) := fun W' h => by
      have hb2 := (h.block g hgl).trans h1
      exact ⟨(cell_block hb2 0).trans rfl, Hea.frozen_block hb2 0⟩
    have HY2 : Hid (L.take k ++ L.drop s = L.eraseIdx k) := by rw [hs, List.eraseIdx_eq_take_drop_succ]; rfl
    have HEnd : Hid (∀ W1 v, Below V.heap.size V W1 → OwnI V.heap.size W1 v (L.eraseIdx k) → DrR n g (L.eraseIdx k) y (.int .i64 0) w (.returned (.int .i64 0)) (W1.setCell ⟨g, 0, none⟩ v)) := fun W1 v hB ho => by
      have hb2 := (hB.block g hgl).trans h1
      exact ⟨rfl, Dr.set0 hb2 (Sla.OwnI.lower ho (by omega)) (fun b' hb' => by have := ho.base b' hb'; omega) HL2.out.1 HL2.out.2.1 HL2.out.2.2 hng, (HFr.out.trans ((Fr.of_below hB).mono HFr.out.size (fun _ _ q => q))).setCell (S := fun b => b = g) (p := ⟨g, 0, none⟩) (.inr rfl) _⟩
    obtain ⟨e1, e2⟩ := HSS.out _ HA0.out
    obtain ⟨e3, e4⟩ := HSS.out _ (Below.refl _ _)
    clear hd h1 h2 h3 hR4 hT hDr hal0 HL2 HFr hs hc1 hc2 hcl
    go_region_law ((first | (refine step_append_ints _ (by rfl) (.tmp 24) (.tmp 30) 32 (by rfl) V.heap.size 3 i0 (.int .i64 0) Tryz.underlying32 hi0 hz0 hz1 hz2 rfl _ 0 [] (by rfl) HOwn.out _ (ints (L.take k)) (by rfl) (HT.out _ _ _ _ HA0.out rfl rfl rfl) hm1 hs0 ?_; intro v1 W1 ho1 hg1 hk1 hn1; have hB1 := HA0.out.grown hg1 hs0 (fun r hr => (HOwn.out.lt r hr).1); obtain ⟨s1, s2⟩ := HSS.out _ hB1) | (refine step_append_ints _ (by rfl) (.tmp 31) (.tmp 38) 32 (by rfl) V.heap.size 3 i0 (.int .i64 0) Tryz.underlying32 hi0 hz0 hz1 hz2 rfl _ _ _ (by rfl) ho1 _ (ints (L.drop s)) (by rfl) (HDr.out _ _ _ _ hB1 rfl rfl rfl) hm2 hB1.size ?_; intro v2 W2 ho2 hg2 hk2 hn2; have hB2 := hB1.grown hg2 hB1.size (fun r hr => (ho1.lt r hr).1); obtain ⟨p3, m3, c3, rfl, hO⟩ := own_shape2 (del_own ho2 rfl) HY2.out; obtain ⟨s3, s4⟩ := HSS.out _ hB2)))
    all_goals
      have HE := Lib.hid (HEnd.out _ _ hB2 hO)
      clear ho1 ho2 hg1 hg2 hk1 hk2 hn1 hn2 hB1 hB2 hO HT HDr HOwn HA0
      go_wp2
      all_goals
        go_ret
        exact HE.out
  · have hq : ((br : Int) == (a : Int)) = false := by rw [beq_eq_false_iff_ne]; omega
    have HBr : Hid (brD L br k = br) := by unfold brD; rw [HAk.out, if_neg hb]; exact rfl
    rw [HBr.out]
    have HFr : Hid (Fr w.heap.size (fun b => b = g) w w) := Fr.refl _ _ _
    have HDy := HD
    clear HD HBr HY HAk HN
    obtain ⟨y, hy⟩ : ∃ y, y = br := ⟨_, rfl⟩
    rw [← hy] at HDy c1 hq ⊢
    clear hy hb
    go_enter Tryz.func47, Tryz.ntmps47
    go_wp2_with fail
    refine HF.out.mono ?_
    rintro e w1 ⟨rfl, rfl⟩
    go_upto_region 6 with fail
    have hd := HDy.out
    obtain ⟨u, h1, h2, h3⟩ := hd.ex
    obtain ⟨p, cap, rfl, hc1, hc2⟩ := h2.shape
    obtain ⟨b, rfl, hcl⟩ := h2.cells hne
    have hgl := hd.lt
    have hR4 := h2.row hd.bd
    obtain ⟨s, hs⟩ : ∃ s, s = k + 1 := ⟨_, rfl⟩
    obtain ⟨hT, hDr⟩ := del_facts0 hR4 hk hs
    have HT := Lib.hid hT
    have HDr := Lib.hid hDr
    have hm1 : 0 + (ints (L.take k)).length ≤ 1000000 := by rw [Lis.ints_length, List.length_take]; omega
    have hm2 : 0 + (ints (L.take k)).length + (ints (L.drop s)).length ≤ 1000000 := by rw [Lis.ints_length, Lis.ints_length, List.length_take, List.length_drop]; omega
    have hal0 : Below w.heap.size w (w.alloc (.cells #[] 3)).drew := (below_made w (.cells #[] 3)).drew
    have hs0 : w.heap.size ≤ (w.alloc (.cells #[] 3)).drew.heap.size := hal0.size
    have HOwn := Lib.hid (own_empty64 w 3).drew
    have HA0 := Lib.hid hal0
    have hsl : (s : Int) ≤ (L.length : Int) := by omega
    have hs1 : (0 : Int) ≤ (s : Int) := by omega
    have hk0' : (0 : Int) ≤ (k : Int) := by omega
    have hkc : (k : Int) ≤ (cap : Int) := by omega
    have hcl2 : (L.length : Int) ≤ (cap : Int) := by omega
    have hw3 : IntKind.i64.wrap ((k : Int) + 1) = (s : Int) := (Arn.wrap_id (by omega) (by omega)).trans (by omega)
    have HSS : Hid (∀ W', Below w.heap.size w W' → W'.cell? ⟨g, 0, none⟩ = some (.slice (some ⟨b, 0, none⟩) L.length cap) ∧ W'.frozen? ⟨g, 0, none⟩ = false) := fun W' h => by
      have hb2 := (h.block g hgl).trans h1
      exact ⟨(cell_block hb2 0).trans rfl, Hea.frozen_block hb2 0⟩
    have HY2 : Hid (L.take k ++ L.drop s = L.eraseIdx k) := by rw [hs, List.eraseIdx_eq_take_drop_succ]; rfl
    have HEnd : Hid (∀ W1 v, Below w.heap.size w W1 → OwnI w.heap.size W1 v (L.eraseIdx k) → DrR n g (L.eraseIdx k) y (.int .i64 0) w (.returned (.int .i64 0)) (W1.setCell ⟨g, 0, none⟩ v)) := fun W1 v hB ho => by
      have hb2 := (hB.block g hgl).trans h1
      exact ⟨rfl, Dr.set0 hb2 (Sla.OwnI.lower ho (by omega)) (fun b' hb' => by have := ho.base b' hb'; omega) HL2.out.1 HL2.out.2.1 HL2.out.2.2 hng, (HFr.out.trans ((Fr.of_below hB).mono HFr.out.size (fun _ _ q => q))).setCell (S := fun b => b = g) (p := ⟨g, 0, none⟩) (.inr rfl) _⟩
    obtain ⟨e1, e2⟩ := HSS.out _ HA0.out
    obtain ⟨e3, e4⟩ := HSS.out _ (Below.refl _ _)
    clear hd h1 h2 h3 hR4 hT hDr hal0 HL2 HFr hs hc1 hc2 hcl
    go_region_law ((first | (refine step_append_ints _ (by rfl) (.tmp 24) (.tmp 30) 32 (by rfl) w.heap.size 3 i0 (.int .i64 0) Tryz.underlying32 hi0 hz0 hz1 hz2 rfl _ 0 [] (by rfl) HOwn.out _ (ints (L.take k)) (by rfl) (HT.out _ _ _ _ HA0.out rfl rfl rfl) hm1 hs0 ?_; intro v1 W1 ho1 hg1 hk1 hn1; have hB1 := HA0.out.grown hg1 hs0 (fun r hr => (HOwn.out.lt r hr).1); obtain ⟨s1, s2⟩ := HSS.out _ hB1) | (refine step_append_ints _ (by rfl) (.tmp 31) (.tmp 38) 32 (by rfl) w.heap.size 3 i0 (.int .i64 0) Tryz.underlying32 hi0 hz0 hz1 hz2 rfl _ _ _ (by rfl) ho1 _ (ints (L.drop s)) (by rfl) (HDr.out _ _ _ _ hB1 rfl rfl rfl) hm2 hB1.size ?_; intro v2 W2 ho2 hg2 hk2 hn2; have hB2 := hB1.grown hg2 hB1.size (fun r hr => (ho1.lt r hr).1); obtain ⟨p3, m3, c3, rfl, hO⟩ := own_shape2 (del_own ho2 rfl) HY2.out; obtain ⟨s3, s4⟩ := HSS.out _ hB2)))
    all_goals
      have HE := Lib.hid (HEnd.out _ _ hB2 hO)
      clear ho1 ho2 hg1 hg2 hk1 hk2 hn1 hn2 hB1 hB2 hO HT HDr HOwn HA0
      go_wp2
      all_goals
        go_ret
        exact HE.out
end
end Go.Proofs.YtjjfihoplkddfaaGreatDoor.Rin

namespace Go.Proofs.YtjjfihoplkddfaaGreatDoor.Rin
open Go.RowKit Num
open Mem (Hm blkM)
open Lis (valsN ints cell_lt)
open Sla (Lo OwnI)
open Arn (wrL is64)
set_option linter.unusedVariables false

section
variable {n g : Nat} {L : List Nat} {br : Nat} {w W W' : World} {h : Hm}
theorem ints_snoc (L : List Nat) (a : Nat) : ints (L ++ [a]) = ints L ++ [(a : Int)] := by simp [ints]
theorem own_snoc {B : Nat} {v : Value} {k : Nat} {a : Nat} {X : List Int} (h : W.ownsRow B 3 1 v k (vals64 (X ++ [(a : Int)]))) (hX : X = ints L) (hk : k = L.length + 1) : OwnI B W v (L ++ [a]) :=
  own_ints h (by rw [hX, ints_snoc]) (by rw [hk]; simp)
set_option maxRecDepth 100000 in
theorem insert_ref_in (d : Dr n g L br w) {a : Nat} (ha : a ∈ L) : Calls Tryz.prog 55 #[.pointer (some ⟨g, 0, none⟩), .int .i64 (a : Int)] w (DrR n g L br (.int .i64 8) w) := by
  have hfd : fdI L a = (L.idxOf a : Int) := if_pos ha
  have HF := Lib.hid (find_any d a)
  rw [hfd] at HF
  have hge : (0 : Int) ≤ (L.idxOf a : Int) := by omega
  generalize (L.idxOf a : Int) = i0 at *
  have HE : Hid (DrR n g L br (.int .i64 8) w (.returned (.int .i64 8)) w) := ⟨rfl, d, Fr.refl _ _ _⟩
  clear d hfd
  go_enter Tryz.func55, Tryz.ntmps55
  go_wp2_with fail
  refine HF.out.mono ?_
  rintro e w1 ⟨rfl, rfl⟩
  go_wp2
  go_ret
  exact HE.out
set_option maxRecDepth 100000 in
set_option maxHeartbeats 1000000 in
theorem insert_ref_new (d : Dr n g L br w) {a : Nat} (ha : a ∉ L) (hab : a ≤ 100000) (hl5 : L.length < 500) : Calls Tryz.prog 55 #[.pointer (some ⟨g, 0, none⟩), .int .i64 (a : Int)] w (DrR n g (L ++ [a]) (if L = [] then a else br) (.int .i64 0) w) := by
  obtain ⟨i0, hi0, hz0, hz1, hz2⟩ := info_parts Lis.infoInt
  have hfd : fdI L a = -1 := if_neg ha
  have HF := Lib.hid (find_any d a)
  rw [hfd] at HF
  have hbd : ∀ x ∈ L ++ [a], x ≤ 100000 := fun x hx => (List.mem_append.1 hx).elim (d.bd x) (fun q => by simp at q; omega)
  have hnd : (L ++ [a]).Nodup := by
    rw [List.nodup_append]
    exact ⟨d.nd, by simp, fun x hx y hy => by simp at hy; subst hy; exact fun e => ha (e ▸ hx)⟩
  have HL2 : Hid ((∀ x ∈ L ++ [a], x ≤ 100000) ∧ (L ++ [a]).Nodup ∧ (L ++ [a]).length ≤ 500) := ⟨hbd, hnd, by simp; omega⟩
  have hng := d.hn
  have hln := d.ln
  obtain ⟨p, c, hblk0, c0, c1, f0, f1, hrow0, -, -⟩ := d.open
  have hgl := cell_lt c0
  obtain ⟨X, hX⟩ : ∃ X, X = ints L := ⟨_, rfl⟩
  have HX : Hid (X = ints L ∧ X.length = L.length) := ⟨hX, by rw [hX, Lis.ints_length]⟩
  by_cases h0 : L = []
  · obtain ⟨p', c', hblk, cS, -, fS, -, hrow, -, -⟩ := (d.set1 a).open
    rw [← hX] at hrow
    obtain ⟨u, hu⟩ : ∃ u, u = Value.slice p' L.length c' := ⟨_, rfl⟩
    rw [← hu] at hrow hblk cS
    clear hu
    have HR := Lib.hid hrow
    have HBk := Lib.hid hblk
    have HFr : Hid (Fr w.heap.size (fun b => b = g) w (w.setCell ⟨g, 1, none⟩ (.int .i64 (a : Int)))) := (Fr.refl _ _ _).setCell (S := fun b => b = g) (p := ⟨g, 1, none⟩) (.inr rfl) _
    have hsz : (w.setCell ⟨g, 1, none⟩ (.int .i64 (a : Int))).heap.size = w.heap.size := by show (w.heap.modify _ _).size = _; rw [Array.size_modify]
    have HBr : Hid ((if L = [] then a else br) = a) := if_pos h0
    have hz : ((L.length : Int) == 0) = true := by rw [h0]; rfl
    clear hblk hrow hblk0 hrow0 d hfd h0 hX hbd hnd ha
    have HLn : Hid ((L ++ [a]).length = L.length + 1) := by simp [Hid]
    generalize hlN : L.length = ln at *
    have hlN' := Lib.hid hlN
    have hal0 : Below (w.setCell ⟨g, 1, none⟩ (.int .i64 (a : Int))).heap.size (w.setCell ⟨g, 1, none⟩ (.int .i64 (a : Int))) ((w.setCell ⟨g, 1, none⟩ (.int .i64 (a : Int))).alloc (.cells #[] 3)) := below_made (w.setCell ⟨g, 1, none⟩ (.int .i64 (a : Int))) (.cells #[] 3)
    have cA := (hal0.cell (p := ⟨g, 0, none⟩) (by rw [hsz]; exact hgl)).trans cS
    have hoe := own_empty64 (w.setCell ⟨g, 1, none⟩ (.int .i64 (a : Int))) 3
    have hoT : ∀ r, (Value.slice (some ⟨w.heap.size, 0, none⟩) 0 0).ownBlock = some r → w.heap.size ≤ r := fun r hr => by simp only [Value.ownBlock, Option.some.injEq] at hr; omega
    rw [hsz] at hoe hal0
    have HOe := Lib.hid hoe
    have HA0 := Lib.hid hal0
    clear hal0 hoe
    rw [HBr.out]
    go_enter Tryz.func55, Tryz.ntmps55
    go_wp2_with fail
    refine HF.out.mono ?_
    rintro e w1 ⟨rfl, rfl⟩
    go_wp2_with (at_builtin; refine wpList_append_ints _ rfl (.tmp 20) (.tmp 24) 32 rfl w.heap.size 3 i0 (.int .i64 0) Tryz.underlying32 hi0 hz0 hz1 hz2 rfl _ 0 [] rfl HOe.out _ X rfl (Row.mono HR.out HA0.out (by rw [hsz]; exact Nat.le_refl _)) (by have := HX.out.2; omega) (by simp) ?_)
    all_goals
      intro v1 w2 ho1 hg1 _
      have hB1 : Below w.heap.size (w.setCell ⟨g, 1, none⟩ (.int .i64 (a : Int))) w2 := HA0.out.grown hg1 (hsz ▸ HA0.out.size) hoT
      have hlit : Row .i64 (w2.alloc (.cells #[.int .i64 (a : Int)] 3)) (.slice (some ⟨w2.heap.size, 0, none⟩) 1 1) [(a : Int)] := Row.made w2 [(a : Int)] _ _ rfl (fun i hi => by simp at hi; subst hi; exact WalkArith.wf_i64 (by simp; omega)) (by simp)
      have HLit := Lib.hid hlit
      have HB1 := Lib.hid hB1
      clear hg1 hB1 hlit cA
      go_wp2_with (at_builtin; refine wpList_append_ints _ rfl (.tmp 25) (.tmp 27) 32 rfl w.heap.size 3 i0 (.int .i64 0) Tryz.underlying32 hi0 hz0 hz1 hz2 rfl _ _ _ rfl (World.ownsRow.alloc ho1 _) _ [(a : Int)] rfl HLit.out (by have := HX.out.2; simp; omega) (by have := HB1.out.size; simp; omega) ?_)
      intro v2 w3 ho2 hg2 _
      have hB2 : Below w.heap.size (w.setCell ⟨g, 1, none⟩ (.int .i64 (a : Int))) w3 := (HB1.out.alloc (hsz ▸ HB1.out.size) _).grown hg2 (by have := HB1.out.size; simp; omega) (fun r hr => (ho1.lt r hr).1)
      obtain ⟨g2, cap2, rfl, hgg⟩ := own_open2 ho2 (by simp)
      have hblk3 := (hB2.block g hgl).trans HBk.out
      have f3 := Hea.frozen_block hblk3 0
      have c3 : w3.cell? ⟨g, 0, none⟩ = some u := (cell_block hblk3 0).trans rfl
      have hXl := HX.out.2
      have ho3 : w3.ownsRow w.heap.size 3 1 (.slice (some ⟨g2, 0, none⟩) (X.length + 1) cap2) (X.length + 1) (vals64 (X ++ [(a : Int)])) := by simpa using ho2
      rw [hXl] at ho3
      have hoI : OwnI n w3 (.slice (some ⟨g2, 0, none⟩) (L ++ [a]).length cap2) (L ++ [a]) := by
        rw [HLn.out]
        exact Sla.OwnI.lower (own_snoc ho3 HX.out.1 (by rw [← hlN])) (by omega)
      have HE : Hid (DrR n g (L ++ [a]) a (.int .i64 0) w (.returned (.int .i64 0)) (w3.setCell ⟨g, 0, none⟩ (.slice (some ⟨g2, 0, none⟩) (L ++ [a]).length cap2))) :=
        ⟨rfl, Dr.set0 hblk3 hoI (fun b hb => by simp only [Value.ownBlock, Option.some.injEq] at hb; omega) HL2.out.1 HL2.out.2.1 HL2.out.2.2 hng, (HFr.out.trans (Fr.of_below hB2)).setCell (S := fun b => b = g) (p := ⟨g, 0, none⟩) (.inr rfl) _⟩
      rw [HLn.out] at HE
      clear ho1 ho2 ho3 hg2 hB2 hgg hblk3 hoI HLit HB1 HA0 HL2 HFr HBk HR
      go_wp2
      go_ret
      first
        | exact HE.out
        | (rw [← HX.out.2] at HE; exact HE.out)
        | trace_state
  · have hz : ((L.length : Int) == 0) = false := by rw [beq_eq_false_iff_ne]; have := List.length_pos_iff.2 h0; omega
    have cS := c0
    have fS := f0
    rw [← hX] at hrow0
    have HR := Lib.hid hrow0
    have HBk := Lib.hid hblk0
    have HFr : Hid (Fr w.heap.size (fun b => b = g) w w) := Fr.refl _ _ _
    have hsz : w.heap.size = w.heap.size := rfl
    have HBr : Hid ((if L = [] then a else br) = br) := if_neg h0
    clear hblk0 hrow0 d hfd h0 hX hbd hnd ha
    have HLn : Hid ((L ++ [a]).length = L.length + 1) := by simp [Hid]
    generalize hlN : L.length = ln at *
    have hlN' := Lib.hid hlN
    have hal0 : Below w.heap.size w (w.alloc (.cells #[] 3)) := below_made w (.cells #[] 3)
    have cA := (hal0.cell (p := ⟨g, 0, none⟩) (by rw [hsz]; exact hgl)).trans cS
    have hoe := own_empty64 w 3
    have hoT : ∀ r, (Value.slice (some ⟨w.heap.size, 0, none⟩) 0 0).ownBlock = some r → w.heap.size ≤ r := fun r hr => by simp only [Value.ownBlock, Option.some.injEq] at hr; omega
    rw [hsz] at hoe hal0
    have HOe := Lib.hid hoe
    have HA0 := Lib.hid hal0
    clear hal0 hoe
    rw [HBr.out]
    go_enter Tryz.func55, Tryz.ntmps55
    go_wp2_with fail
    refine HF.out.mono ?_
    rintro e w1 ⟨rfl, rfl⟩
    go_wp2_with (at_builtin; refine wpList_append_ints _ rfl (.tmp 20) (.tmp 24) 32 rfl w.heap.size 3 i0 (.int .i64 0) Tryz.underlying32 hi0 hz0 hz1 hz2 rfl _ 0 [] rfl HOe.out _ X rfl (Row.mono HR.out HA0.out (Nat.le_refl _)) (by have := HX.out.2; omega) (by simp) ?_)
    all_goals
      intro v1 w2 ho1 hg1 _
      have hB1 : Below w.heap.size w w2 := HA0.out.grown hg1 (HA0.out.size) hoT
      have hlit : Row .i64 (w2.alloc (.cells #[.int .i64 (a : Int)] 3)) (.slice (some ⟨w2.heap.size, 0, none⟩) 1 1) [(a : Int)] := Row.made w2 [(a : Int)] _ _ rfl (fun i hi => by simp at hi; subst hi; exact WalkArith.wf_i64 (by simp; omega)) (by simp)
      have HLit := Lib.hid hlit
      have HB1 := Lib.hid hB1
      clear hg1 hB1 hlit cA
      go_wp2_with (at_builtin; refine wpList_append_ints _ rfl (.tmp 25) (.tmp 27) 32 rfl w.heap.size 3 i0 (.int .i64 0) Tryz.underlying32 hi0 hz0 hz1 hz2 rfl _ _ _ rfl (World.ownsRow.alloc ho1 _) _ [(a : Int)] rfl HLit.out (by have := HX.out.2; simp; omega) (by have := HB1.out.size; simp; omega) ?_)
      intro v2 w3 ho2 hg2 _
      have hB2 : Below w.heap.size w w3 := (HB1.out.alloc (HB1.out.size) _).grown hg2 (by have := HB1.out.size; simp; omega) (fun r hr => (ho1.lt r hr).1)
      obtain ⟨g2, cap2, rfl, hgg⟩ := own_open2 ho2 (by simp)
      have hblk3 := (hB2.block g hgl).trans HBk.out
      have f3 := Hea.frozen_block hblk3 0
      have c3 : w3.cell? ⟨g, 0, none⟩ = some (.slice p ln c) := (cell_block hblk3 0).trans rfl
      have hXl := HX.out.2
      have ho3 : w3.ownsRow w.heap.size 3 1 (.slice (some ⟨g2, 0, none⟩) (X.length + 1) cap2) (X.length + 1) (vals64 (X ++ [(a : Int)])) := by simpa using ho2
      rw [hXl] at ho3
      have hoI : OwnI n w3 (.slice (some ⟨g2, 0, none⟩) (L ++ [a]).length cap2) (L ++ [a]) := by
        rw [HLn.out]
        exact Sla.OwnI.lower (own_snoc ho3 HX.out.1 (by rw [← hlN])) (by omega)
      have HE : Hid (DrR n g (L ++ [a]) br (.int .i64 0) w (.returned (.int .i64 0)) (w3.setCell ⟨g, 0, none⟩ (.slice (some ⟨g2, 0, none⟩) (L ++ [a]).length cap2))) :=
        ⟨rfl, Dr.set0 hblk3 hoI (fun b hb => by simp only [Value.ownBlock, Option.some.injEq] at hb; omega) HL2.out.1 HL2.out.2.1 HL2.out.2.2 hng, (HFr.out.trans (Fr.of_below hB2)).setCell (S := fun b => b = g) (p := ⟨g, 0, none⟩) (.inr rfl) _⟩
      rw [HLn.out] at HE
      clear ho1 ho2 ho3 hg2 hB2 hgg hblk3 hoI HLit HB1 HA0 HL2 HFr HBk HR
      go_wp2
      go_ret
      first
        | exact HE.out
        | (rw [← HX.out.2] at HE; exact HE.out)
        | trace_state
end
end Go.Proofs.YtjjfihoplkddfaaGreatDoor.Rin

namespace Go.Proofs.YtjjfihoplkddfaaGreatDoor.Rin
open Go.RowKit Num
open Mem (Hm blkM)
open Lis (valsN ints cell_lt)
open Sla (Lo OwnI)
open Arn (wrL is64)
set_option linter.unusedVariables false

section
variable {n g : Nat} {L : List Nat} {br : Nat} {w W W' : World} {h : Hm}
theorem own_seti {A : List Nat} {m b k c i : Nat} (h : OwnI m W (.slice (some ⟨b, 0, none⟩) k c) A) (hi : i < A.length) (y : Nat) : OwnI m (W.setCell ⟨b, i, none⟩ (.int .i64 (y : Int))) (.slice (some ⟨b, 0, none⟩) k c) (A.set i y) := by
  obtain ⟨h1, h2⟩ := h
  unfold OwnI
  rw [List.length_set]
  have hv : valsN (A.set i y) = (valsN A).set i (.int .i64 (y : Int)) := by unfold valsN; rw [List.map_set]
  rw [hv]
  rcases h2 with ⟨e, h0⟩ | ⟨g', cap', cur, e, hg, hh, hle, hm, hsz, htk⟩
  · omega
  · injection e with e1 e2 e3
    injection e1 with e1
    injection e1 with e1
    subst e1 e2 e3
    refine ⟨by rw [List.length_set]; exact h1, .inr ⟨b, c, cur.setIfInBounds i (.int .i64 (y : Int)), rfl, hg, Hea.heap_setCell_own hh _, hle, hm, by rw [Array.size_setIfInBounds]; exact hsz, ?_⟩⟩
    rw [Array.toList_setIfInBounds, List.take_set, htk]
theorem own_frz {A : List Nat} {m b k c i : Nat} (h : OwnI m W (.slice (some ⟨b, 0, none⟩) k c) A) (hA : A ≠ []) : W.frozen? ⟨b, i, none⟩ = false := by
  obtain ⟨h1, h2⟩ := h
  rcases h2 with ⟨e, h0⟩ | ⟨g', cap', cur, e, hg, hh, hle, hm, hsz, htk⟩
  · exact absurd (List.length_eq_zero_iff.1 h0) hA
  · injection e with e1 e2 e3
    injection e1 with e1
    injection e1 with e1
    subst e1
    simp [World.frozen?, hh]
set_option maxRecDepth 100000 in
set_option maxHeartbeats 1000000 in
theorem move_ref (d : Dr n g L br w) {f t k : Nat} (hk : k < L.length) (hf : L.getD k 0 = f) (ht : t ∉ L) (htb : t ≤ 100000) : Calls Tryz.prog 53 #[.pointer (some ⟨g, 0, none⟩), .int .i64 (f : Int), .int .i64 (t : Int)] w (DrR n g (L.set k t) (mv f t br) (.tuple #[]) w) := by
  obtain ⟨i0, hi0, hz0, hz1, hz2⟩ := info_parts Lis.infoInt
  have hin : f ∈ L := hf ▸ get_in hk
  have hfd : fdI L f = (k : Int) := by unfold fdI; rw [if_pos hin, ← hf, idx_at d.nd hk]
  have HF := Lib.hid (find_any d f)
  rw [hfd] at HF
  have hbd : ∀ x ∈ L.set k t, x ≤ 100000 := fun x hx => (List.mem_or_eq_of_mem_set hx).elim (d.bd x) (fun q => by omega)
  have HL2 : Hid ((∀ x ∈ L.set k t, x ≤ 100000) ∧ (L.set k t).Nodup ∧ (L.set k t).length ≤ 500) := ⟨hbd, set_nd d.nd hk ht, by rw [List.length_set]; exact d.ln⟩
  have hng := d.hn
  have hln := d.ln
  obtain ⟨p, c, hblk, c0, c1, f0, f1, hrow, -, -⟩ := d.open
  have hgl := cell_lt c0
  obtain ⟨X, hX⟩ : ∃ X, X = ints L := ⟨_, rfl⟩
  have HX : Hid (X = ints L ∧ X.length = L.length) := ⟨hX, by rw [hX, Lis.ints_length]⟩
  rw [← hX] at hrow
  have HR := Lib.hid hrow
  have HBk := Lib.hid hblk
  have hal0 : Below w.heap.size w (w.alloc (.cells #[] 3)) := below_made w (.cells #[] 3)
  have HA0 := Lib.hid hal0
  have cA := (hal0.cell (p := ⟨g, 0, none⟩) hgl).trans c0
  have hk0 : (0 : Int) ≤ (k : Int) := by omega
  have hk1 : (k : Int) < (L.length : Int) := by omega
  clear hal0 hblk hrow d hfd hX hbd hin
  go_enter Tryz.func53, Tryz.ntmps53
  go_wp2_with fail
  refine HF.out.mono ?_
  rintro e w1 ⟨rfl, rfl⟩
  go_wp2_with (at_builtin; refine wpList_append_ints _ rfl (.tmp 11) (.tmp 15) 32 rfl w.heap.size 3 i0 (.int .i64 0) Tryz.underlying32 hi0 hz0 hz1 hz2 rfl _ 0 [] rfl (own_empty64 w 3) _ X rfl (Row.mono HR.out HA0.out (Nat.le_refl _)) (by have := HX.out.2; omega) (by simp) ?_)
  intro v1 w2 ho1 hg1 _
  have hB1 : Below w.heap.size w w2 := HA0.out.grown hg1 HA0.out.size (fun r hr => ((own_empty64 w 3).lt r hr).1)
  have hXl := HX.out.2
  obtain ⟨g2, cap2, rfl, hgg⟩ := own_open2 ho1 (by omega)
  have ho3 : w2.ownsRow w.heap.size 3 1 (.slice (some ⟨g2, 0, none⟩) L.length cap2) L.length (vals64 X) := by simpa [hXl] using ho1
  have hoI : OwnI w.heap.size w2 (.slice (some ⟨g2, 0, none⟩) L.length cap2) L := own_ints ho3 HX.out.1 rfl
  have x0 : w2.cell? ⟨g2, k, none⟩ = some (.int .i64 (f : Int)) := by rw [← hf]; exact hoI.cell_at hk
  have x1 : w2.frozen? ⟨g2, k, none⟩ = false := own_frz hoI (by rintro rfl; simp at hk)
  have hblk2 := (hB1.block g hgl).trans HBk.out
  have hblk3 : (w2.setCell ⟨g2, k, none⟩ (.int .i64 (t : Int))).heap[g]? = some (.cells #[.slice p L.length c, .int .i64 (br : Int)] 95 (0, 0)) := (Below.heap_setCell _ _ _ _ (by show g ≠ g2; omega)).trans hblk2
  have hoS := own_seti hoI hk t
  have d3 : Dr n g (L.set k t) br ((w2.setCell ⟨g2, k, none⟩ (.int .i64 (t : Int))).setCell ⟨g, 0, none⟩ (.slice (some ⟨g2, 0, none⟩) L.length cap2)) :=
    Dr.set0 hblk3 (Sla.OwnI.lower hoS (by omega)) (fun b hb => by simp only [Value.ownBlock, Option.some.injEq] at hb; omega) HL2.out.1 HL2.out.2.1 HL2.out.2.2 hng
  have f3 : Fr w.heap.size (fun b => b = g) w ((w2.setCell ⟨g2, k, none⟩ (.int .i64 (t : Int))).setCell ⟨g, 0, none⟩ (.slice (some ⟨g2, 0, none⟩) L.length cap2)) :=
    ((Fr.of_below hB1).setCell (S := fun b => b = g) (p := ⟨g2, k, none⟩) (.inl hgg) _).setCell (S := fun b => b = g) (p := ⟨g, 0, none⟩) (.inr rfl) _
  have y0 : (w2.setCell ⟨g2, k, none⟩ (.int .i64 (t : Int))).cell? ⟨g, 0, none⟩ = some (.slice p L.length c) := (cell_block hblk3 0).trans rfl
  have y1 : (w2.setCell ⟨g2, k, none⟩ (.int .i64 (t : Int))).frozen? ⟨g, 0, none⟩ = false := Hea.frozen_block hblk3 0
  have hbl4 := two_set0 hblk3 (.slice (some ⟨g2, 0, none⟩) L.length cap2)
  have z0 := (cell_block hbl4 1).trans (show _ = some (.int .i64 (br : Int)) from rfl)
  have z1 := Hea.frozen_block hbl4 1
  by_cases hb : br = f
  · have hq : ((br : Int) == (f : Int)) = true := by rw [beq_iff_eq]; omega
    have em : mv f t br = t := if_pos hb
    have HE : Hid (DrR n g (L.set k t) (mv f t br) (.tuple #[]) w (.returned (.tuple #[])) (((w2.setCell ⟨g2, k, none⟩ (.int .i64 (t : Int))).setCell ⟨g, 0, none⟩ (.slice (some ⟨g2, 0, none⟩) L.length cap2)).setCell ⟨g, 1, none⟩ (.int .i64 (t : Int)))) :=
      ⟨rfl, by rw [em]; exact d3.set1 t, f3.setCell (S := fun b => b = g) (p := ⟨g, 1, none⟩) (.inr rfl) _⟩
    clear ho1 ho3 hoI hoS d3 f3 hblk2 hblk3 hbl4 hB1 hg1 em
    go_wp2
    refine bodyPost_end (results_none rfl _ _ _) rfl HE.out
  · have hq : ((br : Int) == (f : Int)) = false := by rw [beq_eq_false_iff_ne]; omega
    have em : mv f t br = br := if_neg hb
    have HE : Hid (DrR n g (L.set k t) (mv f t br) (.tuple #[]) w (.returned (.tuple #[])) ((w2.setCell ⟨g2, k, none⟩ (.int .i64 (t : Int))).setCell ⟨g, 0, none⟩ (.slice (some ⟨g2, 0, none⟩) L.length cap2))) :=
      ⟨rfl, by rw [em]; exact d3, f3⟩
    clear ho1 ho3 hoI hoS d3 f3 hblk2 hblk3 hbl4 hB1 hg1 em
    go_wp2
    refine bodyPost_end (results_none rfl _ _ _) rfl HE.out
end
end Go.Proofs.YtjjfihoplkddfaaGreatDoor.Rin
