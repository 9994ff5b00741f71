/- Plain: runs joined by kind alone; prefixes of what tiles a memory. The document's slabs: runs with one more. The document's slabs: Runs. The walk of SlabPlays. -/
import Derived.Test.YthnjpmgfikhemaaGreatDoorJ21
import Derived.Test.YthnjpmgfikhemaaGreatDoorJ20
import Derived.Test.YthnjpmgfikhemaaGreatDoorJ16
import Derived.Deep.RegionHeld3
namespace Go.Proofs.YthnjpmgfikhemaaGreatDoor.Reg
open Go.RowKit
open Cls (szC blC pdC)
open Sla (pl aT lk Sl St Wd Ts pV)
open Wat (Rn)
open Mem (rd Hm blkM)
set_option linter.unusedVariables false

/-- Runs with one more, which joins the last one if that is of its kind. -/
def wi (P : List RZ) (r : RZ) : List RZ := match P.getLast? with
  | none => P ++ [r]
  | some q => if q.2.2 = r.2.2 then P.dropLast ++ [(q.1, q.2.1 + r.2.1, q.2.2)] else P ++ [r]
theorem wi_snoc (M : List RZ) (q r : RZ) : wi (M ++ [q]) r = if q.2.2 = r.2.2 then M ++ [(q.1, q.2.1 + r.2.1, q.2.2)] else M ++ [q] ++ [r] := by
  unfold wi
  simp
theorem til_inv {x : List Int} {p : Nat} {P : List RZ} {r : RZ} (h : Til x p (P ++ [r])) : ∃ (p' n : Nat) (k : Int), r = ((p' : Int), (n : Int), k) ∧ Til x p' P ∧ p = p' + n ∧ 1 ≤ n := by
  generalize hL : P ++ [r] = L at h
  cases h with
  | nil => simp at hL
  | snoc a b c =>
    obtain ⟨h1, h2⟩ := List.append_inj' hL rfl
    injection h2 with h2
    subst h1 h2
    exact ⟨_, _, _, rfl, a, rfl, b⟩
theorem til_pre_of {x : List Int} {A : List RZ} : ∀ (m : Nat) (B : List RZ), B.length = m → ∀ {p : Nat}, Til x p (A ++ B) → ∃ p', p' ≤ p ∧ Til x p' A := by
  intro m
  induction m with
  | zero =>
    intro B hB p h
    obtain rfl := List.eq_nil_of_length_eq_zero hB
    rw [List.append_nil] at h
    exact ⟨p, Nat.le_refl _, h⟩
  | succ m ih =>
    intro B hB p h
    rcases List.eq_nil_or_concat B with rfl | ⟨B', r, rfl⟩
    · simp at hB
    · rw [List.concat_eq_append] at *
      rw [List.length_append, List.length_singleton] at hB
      rw [← List.append_assoc] at h
      obtain ⟨p', n, k, -, h2, h3, -⟩ := til_inv h
      obtain ⟨p'', h4, h5⟩ := ih B' (by omega) h2
      exact ⟨p'', by omega, h5⟩
theorem til_pre {x : List Int} {A : List RZ} (B : List RZ) {p : Nat} (h : Til x p (A ++ B)) : ∃ p', p' ≤ p ∧ Til x p' A := til_pre_of _ B rfl h
theorem til_len {x : List Int} {p : Nat} {P : List RZ} (h : Til x p P) : P.length ≤ p := by
  induction h with
  | nil => exact Nat.le_refl _
  | snoc a b c ih =>
    rw [List.length_append, List.length_singleton]
    omega
theorem til_last {x : List Int} {p : Nat} {P : List RZ} (h : Til x p P) (hp : p ≤ 1000000) : ∀ q, (joinZ P).getLast? = some q → 0 ≤ q.2.1 ∧ q.2.1 ≤ 1000000 := by
  obtain ⟨L, hL, hg⟩ := til_join h hp
  rw [hL]
  rcases List.eq_nil_or_concat L with rfl | ⟨M, q, rfl⟩
  · simp
  · rw [List.concat_eq_append] at *
    obtain ⟨-, -, -, -, e⟩ := good_inv hg
    intro q' hq
    simp at hq
    subst hq
    unfold cstW
    simp only
    omega
theorem til_wi {x : List Int} {p : Nat} {A B : List RZ} {r : RZ} (h : Til x p (A ++ r :: B)) (hp : p ≤ 1000000) : joinZ (A ++ [r]) = wi (joinZ A) r := by
  rw [show A ++ r :: B = (A ++ [r]) ++ B by simp] at h
  obtain ⟨p1, h1, h2⟩ := til_pre B h
  obtain ⟨p', n, k, rfl, h3, rfl, h4⟩ := til_inv h2
  rw [joinZ_snoc]
  obtain ⟨L, hL, hg⟩ := til_join h3 (by omega)
  rw [hL]
  rcases List.eq_nil_or_concat L with rfl | ⟨M, q, rfl⟩
  · rfl
  · rw [List.concat_eq_append] at *
    obtain ⟨-, -, -, -, e⟩ := good_inv hg
    rw [List.map_append, List.map_cons, List.map_nil, jnZ_snoc, wi_snoc]
    have hc : cnZ (cstW q) ((p' : Int), (n : Int), k) = true ↔ (cstW q).2.2 = k := by
      rw [cnZ_iff, prZ_iff, prZ_iff]
      unfold cstW
      simp only
      constructor
      · rintro ⟨-, -, -, h⟩; exact h.symm
      · intro h; exact ⟨by omega, by omega, by omega, h.symm⟩
    by_cases hk : (cstW q).2.2 = k
    · rw [if_pos (hc.2 hk), if_pos hk]
    · rw [if_neg (fun h => hk (hc.1 h)), if_neg hk]
theorem join_head (S N : Nat) (h2 : N % 2 = 0) : joinZ (headR S N) = headR S N := by
  unfold headR Lay.runsT
  rcases Lay.pad_two (s := S) h2 with ⟨-, hp⟩ | ⟨-, hp⟩
  · rw [if_pos hp]
    simp [joinZ, jnZ, cnZ]
  · rw [if_neg (by omega)]
    simp [joinZ, jnZ, cnZ]
/-- What is ahead of something in a whole. -/
def Pre (W A : List RZ) : Prop := ∃ B, W = A ++ B
theorem Pre.left {W A B : List RZ} (h : Pre W (A ++ B)) : Pre W A := by
  obtain ⟨C, rfl⟩ := h
  exact ⟨B ++ C, by simp⟩
theorem pre_all (S N : Nat) (T : List Sl) : ∀ m j, j + m = S → Pre (headR S N ++ allT S N T S) (headR S N ++ allT S N T j) := by
  intro m
  induction m with
  | zero => intro j hj; rw [show j = S by omega]; exact ⟨[], by simp⟩
  | succ m ih =>
    intro j hj
    have := ih (j + 1) (by omega)
    rw [allT, ← List.append_assoc] at this
    exact this.left
theorem pre_slab {S N : Nat} {T : List Sl} {j : Nat} (hj : j < S) : Pre (headR S N ++ allT S N T S) (headR S N ++ allT S N T j ++ slT (aT S N j) (T.getD j Sl.zero)) := by
  have := pre_all S N T (S - (j + 1)) (j + 1) (by omega)
  rw [allT, ← List.append_assoc] at this
  exact this
theorem pre_wi {x : List Int} {p : Nat} {W A : List RZ} {r : RZ} (h : Til x p W) (hp : p ≤ 1000000) (hA : Pre W (A ++ [r])) : joinZ (A ++ [r]) = wi (joinZ A) r ∧ ∀ q, (joinZ A).getLast? = some q → 0 ≤ q.2.1 ∧ q.2.1 ≤ 1000000 := by
  obtain ⟨B, rfl⟩ := hA
  rw [List.append_assoc, List.singleton_append] at h
  refine ⟨til_wi h hp, ?_⟩
  obtain ⟨p', h1, h2⟩ := til_pre _ h
  exact til_last h2 (by omega)
/-- What a step of the joining needs and comes to. -/
theorem pre_step {x : List Int} {p : Nat} {W A : List RZ} {r : RZ} (h : Til x p W) (hp : p ≤ 1000000) (hA : Pre W (A ++ [r])) : joinZ (A ++ [r]) = wi (joinZ A) r ∧ (∀ q, (joinZ A).getLast? = some q → 0 ≤ q.2.1 ∧ q.2.1 ≤ 1000000) ∧ (joinZ A).length ≤ 1000000 ∧ 0 ≤ r.2.1 ∧ r.2.1 ≤ 1000000 := by
  obtain ⟨h1, h2⟩ := pre_wi h hp hA
  obtain ⟨B, rfl⟩ := hA
  obtain ⟨p1, h3, h4⟩ := til_pre B h
  obtain ⟨p', n, k, rfl, h5, h6, h7⟩ := til_inv h4
  have h8 := til_len h5
  have h9 := joinZ_len A A.length
  rw [List.take_length] at h9
  exact ⟨h1, h2, by omega, by simp only; omega, by simp only; omega⟩
theorem blk_take {A : Nat} {c : Int} {F : List Nat} {k n : Nat} (h : k ≤ n) : ∃ B, blkL A c F n = blkL A c F k ++ B := by
  obtain ⟨m, rfl⟩ : ∃ m, n = k + m := ⟨n - k, by omega⟩
  refine ⟨(List.range' k m).map (blkR A c F), ?_⟩
  unfold blkL
  rw [List.range_add, List.map_append, List.map_map, List.range'_eq_map_range, List.map_map]
end Go.Proofs.YthnjpmgfikhemaaGreatDoor.Reg

namespace Go.Proofs.YthnjpmgfikhemaaGreatDoor.Reg
open Go.RowKit
set_option linter.unusedVariables false

theorem valsZ_one (P : List RZ) : ∀ u ∈ valsA encZ P, u.oneCell' = true := by
  intro u hu
  unfold valsA at hu
  obtain ⟨r, hr, hu⟩ := List.mem_flatMap.1 hu
  simp [encZ] at hu
  rcases hu with rfl | rfl | rfl <;> rfl
theorem own_cells {w : World} {base n c g : Nat} {t : TypeId} {xs : List Value} (h : w.ownsRow base t 3 (.slice (some ⟨g, 0, none⟩) n c) n xs) : ∀ j u, xs[j]? = some u → w.cell? ((⟨g, 0, none⟩ : Addr).add j) = some u := by
  obtain ⟨h1, h2⟩ := h
  rcases h2 with ⟨e, h0⟩ | ⟨g', cap', cur, e, hg, hh, hle, hm, hsz, htk⟩
  · cases e
  · injection e with e1 e2 e3
    injection e1 with e1
    injection e1 with e1
    subst e1
    intro j u hj
    have hlt := (List.getElem?_eq_some_iff.1 hj).1
    rw [h1] at hlt
    rw [← htk, List.getElem?_take_of_lt hlt] at hj
    rw [Addr_add, Nat.zero_add, cell_block hh]
    simpa using hj
theorem own_weak {w : World} {base base' n k : Nat} {t : TypeId} {v : Value} {xs : List Value} (h : w.ownsRow base t k v n xs) (hb : base' ≤ base) : w.ownsRow base' t k v n xs := by
  obtain ⟨h1, h2⟩ := h
  rcases h2 with ⟨e, h0⟩ | ⟨g, cap, cur, e, hg, rest⟩
  · exact ⟨h1, .inl ⟨e, h0⟩⟩
  · exact ⟨h1, .inr ⟨g, cap, cur, e, Nat.le_trans hb hg, rest⟩⟩
set_option maxRecDepth 100000 in
set_option maxHeartbeats 4000000 in
theorem with_any (v : Value) (base : Nat) (P : List RZ) (x1 x2 x3 : Int) (w : World) (hO : w.ownsRow base 92 3 v P.length (valsA encZ P)) (hb : base ≤ w.heap.size) (hP : P.length ≤ 1000000) (hq : ∀ q, P.getLast? = some q → 0 ≤ q.2.1 ∧ q.2.1 ≤ 1000000) (hx : 0 ≤ x2 ∧ x2 ≤ 1000000) :
    Calls Tryz.prog 58 #[v, .agg #[.int .i64 x1, .int .i64 x2, .int .i64 x3]] w fun e w' => ∃ u, e = .returned u ∧ Below base w w' ∧ w'.ownsRow base 92 3 u (wi P (x1, x2, x3)).length (valsA encZ (wi P (x1, x2, x3))) := by
  obtain ⟨i0, hi, hz0, hz1, hz2⟩ := info_parts Lay.infoRun
  obtain ⟨g0, g1, g2⟩ := box_run w x1 x2 x3
  have HB1 : Hid (Below base w (w.alloc (.cells #[.int .i64 x1, .int .i64 x2, .int .i64 x3] 92))) := (Below.refl base w).alloc hb _
  have hO1 := World.ownsRow.alloc hO (.cells #[.int .i64 x1, .int .i64 x2, .int .i64 x3] 92)
  have hgl := size_alloc1 w (.cells #[.int .i64 x1, .int .i64 x2, .int .i64 x3] 92)
  rcases List.eq_nil_or_concat P with rfl | ⟨M, q, rfl⟩
  · obtain ⟨p, c, rfl⟩ := own_shape hO1
    have hd0 : decide ((0 : Int) < 0) = false := by decide
    have HO1 : Hid (∀ j, ((w.alloc (.cells #[.int .i64 x1, .int .i64 x2, .int .i64 x3] 92)).drewN j).ownsRow base 92 3 (.slice p 0 c) 0 []) := fun j => hO1
    have HBj : Hid (∀ j, Below base w ((w.alloc (.cells #[.int .i64 x1, .int .i64 x2, .int .i64 x3] 92)).drewN j)) := fun j => below_drewN HB1.out j
    clear hO1 HB1 hO hq hP
    go_enter Tryz.func58, Tryz.ntmps58
    go_wp2_with fail
    generalize w.alloc (.cells #[.int .i64 x1, .int .i64 x2, .int .i64 x3] 92) = W1 at *
    go_quiet (fail)
    have k0 : (W1.drewN nq).cell? ⟨w.heap.size, 0, none⟩ = some (.int .i64 x1) := g0
    have k1 : (W1.drewN nq).cell? ⟨w.heap.size, 1, none⟩ = some (.int .i64 x2) := g1
    have k2 : (W1.drewN nq).cell? ⟨w.heap.size, 2, none⟩ = some (.int .i64 x3) := g2
    have hO2 := HO1.out nq
    have hB2 := HBj.out nq
    have hb2 : base ≤ (W1.drewN nq).heap.size := Nat.le_trans hb hB2.size
    generalize W1.drewN nq = W2 at k0 k1 k2 hO2 hB2 hb2 ⊢
    clear g0 g1 g2 HO1 HBj hgl
    go_wp2_with (at_builtin; refine wpList_append_own _ rfl (.tmp 41) (.tmp 43) 53 rfl base 92 i0 (.agg #[.int .i64 0, .int .i64 0, .int .i64 0]) 3 24 Tryz.underlying53 hi hz0 hz1 hz2 rfl (by decide) _ _ _ rfl (World.ownsRow.alloc hO2 _) ⟨W2.heap.size, 0, none⟩ 1 1 [.int .i64 x1, .int .i64 x2, .int .i64 x3] rfl rfl (Lay.news_three _ _ _ _ _) (Lay.oneCell_three _ _ _) (by unfold maxLen; omega) (by omega) (le_alloc _ hb2) ?_)
    intro v3 w3 hown3 hgrow3 _
    have HN : Hid (w3.ownsRow base 92 3 v3 (([] : List RZ) ++ [(x1, x2, x3)]).length (valsA encZ (([] : List RZ) ++ [(x1, x2, x3)]))) := by
      unfold Hid
      rw [valsA_snoc, List.length_append]
      exact hown3
    have HB3 : Hid (Below base w w3) := (hB2.alloc hb2 _).grown hgrow3 (le_alloc _ hb2) (fun r hr => (hO2.lt r hr).1)
    clear hown3 hgrow3 hO2 hB2
    go_wp2
    go_ret
    exact ⟨_, rfl, HB3.out, HN.out⟩
  · rw [List.concat_eq_append] at *
    have hql := hq q (by simp)
    obtain ⟨q1, q2, q3⟩ := q
    simp only [] at hql
    obtain ⟨l, hl⟩ : ∃ l, l = M.length := ⟨_, rfl⟩
    have hwi := wi_snoc M (q1, q2, q3) (x1, x2, x3)
    simp only [] at hwi
    rw [List.length_append, List.length_singleton] at hO1 hP
    obtain ⟨g, c, rfl, hgc⟩ := own_some hO1
    obtain ⟨ho0, ⟨ho1, ho2, ho3⟩, ho4, ho5⟩ := own_three hO1
    simp only [] at ho1 ho2 ho3
    rw [← hl] at ho1 ho2 ho3 ho4
    have hnl : (l : Int) < ((M.length + 1 : Nat) : Int) := by omega
    have hl0 : (0 : Int) ≤ (l : Int) := by omega
    obtain ⟨n1, hn1⟩ : ∃ n1, n1 = M.length + 1 := ⟨_, rfl⟩
    rw [← hn1] at hnl hO1 hgc hP
    have hw1 : IntKind.i64.wrap ((n1 : Int) - 1) = (l : Int) := (wrap_id (by omega) (by omega)).trans (by omega)
    have hw2 : wrap64 ((n1 : Int) - 1) = (l : Int) := (IntWalk.wrap64_in _ (by omega)).trans (by omega)
    have hd0 : decide ((0 : Int) < (n1 : Int)) = true := by rw [decide_eq_true_iff]; omega
    have hd0' : decide (0 < n1) = true := by rw [decide_eq_true_iff]; omega
    have hu : Value.slice (some ⟨g, 0, none⟩) (M.length + 1) c = .slice (some ⟨g, 0, none⟩) n1 c := by rw [hn1]
    rw [hu]
    have HHl : Hid (l = M.length ∧ n1 = M.length + 1) := ⟨hl, hn1⟩
    have HO1 : Hid (∀ j, ((w.alloc (.cells #[.int .i64 x1, .int .i64 x2, .int .i64 x3] 92)).drewN j).ownsRow base 92 3 (.slice (some ⟨g, 0, none⟩) n1 c) n1 (valsA encZ (M ++ [(q1, q2, q3)]))) := fun j => hO1
    have HBj : Hid (∀ j, Below base w ((w.alloc (.cells #[.int .i64 x1, .int .i64 x2, .int .i64 x3] 92)).drewN j)) := fun j => below_drewN HB1.out j
    clear hl hn1 hu hO1 HB1 hO hq
    by_cases h3 : q3 = x3
    case neg =>
      have h3' : (q3 == x3) = false := by simp [h3]
      rw [if_neg h3] at hwi
      have HWi := Lib.hid hwi
      clear hwi h3
      go_enter Tryz.func58, Tryz.ntmps58
      go_wp2_with fail
      generalize w.alloc (.cells #[.int .i64 x1, .int .i64 x2, .int .i64 x3] 92) = W1 at *
      go_quiet (fail)
      have k0 : (W1.drewN nq).cell? ⟨w.heap.size, 0, none⟩ = some (.int .i64 x1) := g0
      have k1 : (W1.drewN nq).cell? ⟨w.heap.size, 1, none⟩ = some (.int .i64 x2) := g1
      have k2 : (W1.drewN nq).cell? ⟨w.heap.size, 2, none⟩ = some (.int .i64 x3) := g2
      have hO2 := HO1.out nq
      have hB2 := HBj.out nq
      have hb2 : base ≤ (W1.drewN nq).heap.size := Nat.le_trans hb hB2.size
      generalize W1.drewN nq = W2 at k0 k1 k2 hO2 hB2 hb2 ⊢
      clear g0 g1 g2 ho1 ho2 ho3 ho4 ho5 HO1 HBj hgl
      go_wp2_with (at_builtin; refine wpList_append_own _ rfl (.tmp 41) (.tmp 43) 53 rfl base 92 i0 (.agg #[.int .i64 0, .int .i64 0, .int .i64 0]) 3 24 Tryz.underlying53 hi hz0 hz1 hz2 rfl (by decide) _ _ _ rfl (World.ownsRow.alloc hO2 _) ⟨W2.heap.size, 0, none⟩ 1 1 [.int .i64 x1, .int .i64 x2, .int .i64 x3] rfl rfl (Lay.news_three _ _ _ _ _) (Lay.oneCell_three _ _ _) (by unfold maxLen; omega) (by omega) (le_alloc _ hb2) ?_)
      intro v3 w3 hown3 hgrow3 _
      have HN : Hid (w3.ownsRow base 92 3 v3 (M ++ [(q1, q2, q3)] ++ [(x1, x2, x3)]).length (valsA encZ (M ++ [(q1, q2, q3)] ++ [(x1, x2, x3)]))) := by
        unfold Hid
        rw [valsA_snoc, List.length_append, List.length_append, List.length_singleton, List.length_singleton, ← HHl.out.2]
        exact hown3
      have HB3 : Hid (Below base w w3) := (hB2.alloc hb2 _).grown hgrow3 (le_alloc _ hb2) (fun r hr => (hO2.lt r hr).1)
      clear hown3 hgrow3 hO2 hB2
      go_wp2
      go_ret
      refine ⟨_, rfl, HB3.out, ?_⟩
      rw [HWi.out]
      exact HN.out
    subst h3
    rw [if_pos rfl] at hwi
    obtain ⟨s, hs⟩ : ∃ s, s = q2 + x2 := ⟨_, rfl⟩
    rw [← hs] at hwi
    have hs1 : IntKind.i64.wrap (q2 + x2) = s := (wrap_id (by omega) (by omega)).trans hs.symm
    have hs2 : wrap64 (q2 + x2) = s := (IntWalk.wrap64_in _ (by omega)).trans hs.symm
    have HWi := Lib.hid hwi
    have hvl : (valsA encZ (M ++ [(q1, q2, q3)])).length = n1 * 3 := by rw [valsA_length (k := 3) encZ_length, List.length_append, List.length_singleton, ← HHl.out.2]
    have HV1 := Lib.hid (valsZ_one (M ++ [(q1, q2, q3)]))
    clear hwi hs
    go_enter Tryz.func58, Tryz.ntmps58
    go_wp2_with fail
    generalize w.alloc (.cells #[.int .i64 x1, .int .i64 x2, .int .i64 q3] 92) = W1 at *
    go_quiet (fail)
    have k1 : (W1.drewN nq).cell? ⟨w.heap.size, 1, none⟩ = some (.int .i64 x2) := g1
    have hO2 := HO1.out nq
    have hB2 := HBj.out nq
    have hb2 : base ≤ (W1.drewN nq).heap.size := Nat.le_trans hb hB2.size
    have hgl2 : w.heap.size < (W1.drewN nq).heap.size := hgl
    generalize W1.drewN nq = W2 at k1 hO2 hB2 hb2 hgl2 ⊢
    clear g0 g1 g2 ho1 ho2 ho3 ho4 ho5 HO1 HBj hgl
    have HOw : Hid ((W2.alloc (.cells #[] 92)).ownsRow W2.heap.size 92 3 (.slice (some ⟨W2.heap.size, 0, none⟩) 0 0) 0 (valsA encZ [])) :=
      ⟨rfl, .inr ⟨W2.heap.size, 0, #[], rfl, Nat.le_refl _, heap_alloc_new _ _, by omega, by unfold maxLen; omega, rfl, rfl⟩⟩
    have HBm := Lib.hid (below_made W2 (.cells #[] 92))
    have HCe := Lib.hid (own_cells (World.ownsRow.alloc hO2 (.cells #[] 92)))
    have hsz := size_alloc1 W2 (.cells #[] 92)
    have hB2' := Lib.hid hB2
    clear hO2 hB2
    go_wp2_with (at_builtin; refine wpList_append_own _ rfl (.tmp 21) (.tmp 22) 53 rfl W2.heap.size 92 i0 (.agg #[.int .i64 0, .int .i64 0, .int .i64 0]) 3 24 Tryz.underlying53 hi hz0 hz1 hz2 rfl (by decide) _ _ _ rfl HOw.out ⟨g, 0, none⟩ n1 c (valsA encZ (M ++ [(q1, q2, q3)])) rfl hvl HCe.out HV1.out (by unfold maxLen; omega) (by omega) (by omega) ?_)
    intro v3 w3 hown3 hgrow3 _
    have HB23 : Hid (Below W2.heap.size W2 w3) := HBm.out.grown hgrow3 (by omega) (fun r hr => by have : W2.heap.size = r := Option.some.inj hr; omega)
    have hO3 : w3.ownsRow W2.heap.size 92 3 v3 (M.length + 1) (valsA encZ (M ++ [(q1, q2, q3)])) := by
      rw [← HHl.out.2]
      exact hown3
    obtain ⟨g3, c3, rfl, hgc3⟩ := own_some hO3
    obtain ⟨ho0', ⟨-, ho2', -⟩, ho4', -⟩ := own_three hO3
    simp only [] at ho2'
    rw [← HHl.out.1] at ho2' ho4'
    have hu : Value.slice (some ⟨g3, 0, none⟩) (M.length + 1) c3 = .slice (some ⟨g3, 0, none⟩) n1 c3 := by rw [HHl.out.2]
    rw [hu]
    have k3 := (HB23.out.cell (p := ⟨w.heap.size, 1, none⟩) hgl2).trans k1
    have HN : Hid ((w3.setCell ⟨g3, l * 3 + 1, none⟩ (.int .i64 s)).ownsRow base 92 3 (.slice (some ⟨g3, 0, none⟩) n1 c3) (M ++ [(q1, s, q3)]).length (valsA encZ (M ++ [(q1, s, q3)]))) := by
      have := own_weak (own_set hO3 s) hb2
      unfold Hid
      rw [HHl.out.1, HHl.out.2, List.length_append, List.length_singleton]
      exact this
    have HB3 : Hid (Below base w (w3.setCell ⟨g3, l * 3 + 1, none⟩ (.int .i64 s))) := (hB2'.out.trans (HB23.out.mono hb2)).setCell (Nat.le_trans hb2 ho0') _
    clear hown3 hgrow3 hO3 hu HOw HBm HCe hB2' HB23 k1
    go_wp2_with fail
    go_region
    go_wp2
    go_ret
    refine ⟨_, rfl, HB3.out.drew, ?_⟩
    rw [HWi.out]
    exact HN.out
end Go.Proofs.YthnjpmgfikhemaaGreatDoor.Reg

namespace Go.Proofs.YthnjpmgfikhemaaGreatDoor.Reg
open Go.RowKit Num
open Cls (szC blC pdC)
open Sla (pl aT lk Sl St Wd Ts pV Dq Tk isV Lv)
open Wat (Rn)
open Mem (rd Hm blkM)
set_option linter.unusedVariables false

/-- A run more, of what tiles a memory. -/
theorem with_pre {x : List Int} {p : Nat} {W : List RZ} (h : Til x p W) (hp : p ≤ 1000000) (v : Value) (base : Nat) (A : List RZ) (x1 x2 x3 : Int) (hA : Pre W (A ++ [(x1, x2, x3)])) (w : World) (hO : w.ownsRow base 92 3 v (joinZ A).length (valsA encZ (joinZ A))) (hb : base ≤ w.heap.size) :
    Calls Tryz.prog 58 #[v, .agg #[.int .i64 x1, .int .i64 x2, .int .i64 x3]] w fun e w' => ∃ u, e = .returned u ∧ Below base w w' ∧ w'.ownsRow base 92 3 u (joinZ (A ++ [(x1, x2, x3)])).length (valsA encZ (joinZ (A ++ [(x1, x2, x3)]))) := by
  obtain ⟨h1, h2, h3, h4, h5⟩ := pre_step h hp hA
  rw [h1]
  exact with_any v base (joinZ A) x1 x2 x3 w hO hb h3 h2 ⟨h4, h5⟩
theorem encs_eq (P : List (Nat × Nat × Nat)) : valsA encZ (P.map fun r => ((r.1 : Int), (r.2.1 : Int), (r.2.2 : Int))) = valsA Lay.encR P := by
  unfold valsA
  rw [List.flatMap_map]
  rfl
theorem valsR_one (P : List (Nat × Nat × Nat)) : ∀ u ∈ valsA Lay.encR P, u.oneCell' = true := by
  rw [← encs_eq]
  exact valsZ_one _
theorem arow_cells {α : Type} {enc : α → List Value} {d : α} (hen : ∀ x, (enc x).length = 3) {w : World} {b off n c : Nat} {D : List α} {x : α} (h : ARow 3 enc d w (.slice (some ⟨b, off, none⟩) n c) (D ++ [x])) : ∀ j u, (valsA enc D)[j]? = some u → w.cell? ((⟨b, off, none⟩ : Addr).add j) = some u := by
  intro j u hj
  have hlt := (List.getElem?_eq_some_iff.1 hj).1
  rw [valsA_length (k := 3) hen] at hlt
  have hj2 : (valsA enc (D ++ [x]))[j]? = some u := by
    rw [valsA_snoc, List.getElem?_append_left (by rw [valsA_length (k := 3) hen]; exact hlt)]
    exact hj
  obtain ⟨a, cap, e, -, -, hc⟩ := h
  obtain ⟨b', off', rfl, -, hc⟩ := hc (by simp)
  injection e with e1 e2 e3
  injection e1 with e1
  injection e1 with e1 e4
  subst e1 e4
  have hi : j / 3 < (D ++ [x]).length := by rw [List.length_append, List.length_singleton]; omega
  have hg := valsA_get hen d (D ++ [x]) (j / 3) hi (j % 3) (by omega)
  rw [show j / 3 * 3 + j % 3 = j by omega, hj2] at hg
  have := hc (j / 3) hi (j % 3) u hg.symm
  rw [Addr_add]
  rw [show off + j / 3 * 3 + j % 3 = off + j by omega] at this
  exact this
theorem is_blk {S N : Nat} {T : List Sl} (ht : Tk S T) {j k : Nat} (hj : j < S) (hk : k < blC ((T.getD j Sl.zero).c : Int)) : isV S N T (pl (aT S N j) (T.getD j Sl.zero).c k : Int) ↔ k ∉ (T.getD j Sl.zero).f.reverse := by
  rw [Sla.isV_iff, List.mem_reverse]
  constructor
  · rintro ⟨y, e, j2, k2, hj2, hk2, e2⟩
    obtain ⟨h1, h2⟩ := (Sla.Sl.mem_v _ _).1 hk2
    obtain ⟨rfl, e3⟩ := Sla.pl_inj hk h1 (by omega : pl (aT S N j) (T.getD j Sl.zero).c k = pl (aT S N j2) (T.getD j2 Sl.zero).c k2)
    obtain rfl := e3 rfl
    exact h2
  · intro h
    exact ⟨_, rfl, j, k, hj, (Sla.Sl.mem_v _ _).2 ⟨hk, h⟩, rfl⟩
theorem pre_blk {S N : Nat} {T : List Sl} {j k : Nat} (hj : j < S) (h0 : (T.getD j Sl.zero).c ≠ 0) (hk : k < blC ((T.getD j Sl.zero).c : Int)) :
    Pre (headR S N ++ allT S N T S) (headR S N ++ allT S N T j ++ blkL (aT S N j) (T.getD j Sl.zero).c (T.getD j Sl.zero).f.reverse k ++ [blkR (aT S N j) (T.getD j Sl.zero).c (T.getD j Sl.zero).f.reverse k]) := by
  have h := pre_slab (N := N) (T := T) hj
  unfold slT dvR at h
  rw [if_neg h0, ← List.append_assoc] at h
  have h := h.left
  obtain ⟨B, hB⟩ := blk_take (A := aT S N j) (c := (T.getD j Sl.zero).c) (F := (T.getD j Sl.zero).f.reverse) (show k + 1 ≤ blC ((T.getD j Sl.zero).c : Int) by omega)
  unfold blkL at hB
  rw [hB, ← List.append_assoc] at h
  have h := h.left
  have e := blkL_succ (aT S N j) (T.getD j Sl.zero).c (T.getD j Sl.zero).f.reverse k
  unfold blkL at e
  rw [e, ← List.append_assoc] at h
  exact h
theorem pre_none {S N : Nat} {T : List Sl} {j : Nat} (hj : j < S) (h0 : (T.getD j Sl.zero).c = 0) : Pre (headR S N ++ allT S N T S) (headR S N ++ allT S N T j ++ [((aT S N j : Int), 1024, 7)]) ∧ headR S N ++ allT S N T (j + 1) = headR S N ++ allT S N T j ++ [((aT S N j : Int), 1024, 7)] := by
  have h := pre_slab (N := N) (T := T) hj
  have e : slT (aT S N j) (T.getD j Sl.zero) = [((aT S N j : Int), 1024, 7)] := by unfold slT; rw [if_pos h0]
  rw [e] at h
  exact ⟨h, by rw [allT, e, List.append_assoc]⟩
theorem all_dvd {S N : Nat} {T : List Sl} {j : Nat} (h0 : (T.getD j Sl.zero).c ≠ 0) : headR S N ++ allT S N T (j + 1) = headR S N ++ allT S N T j ++ blkL (aT S N j) (T.getD j Sl.zero).c (T.getD j Sl.zero).f.reverse (blC ((T.getD j Sl.zero).c : Int)) ++ padR (aT S N j) (T.getD j Sl.zero).c := by
  rw [allT, slT, if_neg h0, dvR, blkL]
  simp only [List.append_assoc]
theorem pre_pad {S N : Nat} {T : List Sl} {j : Nat} (hj : j < S) (h0 : (T.getD j Sl.zero).c ≠ 0) : Pre (headR S N ++ allT S N T S) (headR S N ++ allT S N T j ++ blkL (aT S N j) (T.getD j Sl.zero).c (T.getD j Sl.zero).f.reverse (blC ((T.getD j Sl.zero).c : Int)) ++ padR (aT S N j) (T.getD j Sl.zero).c) := by
  rw [← all_dvd h0]
  exact pre_all S N T (S - (j + 1)) (j + 1) (by omega)
theorem pdC_le (c : Int) : pdC c ≤ 1024 := by
  unfold pdC
  split <;> omega
theorem aT_bd {S N : Nat} (hr : Lay.rightC (S : Int) (N : Int) = true) {j : Nat} (hj : j < S) : aT S N j + 1024 ≤ 100000 := by
  obtain ⟨q1, q2, q3, q4, q5⟩ := Lay.right_out hr
  obtain ⟨b1, b2, b3⟩ := Lay.base_sixteen (s := S) (n := N) (by omega)
  unfold aT
  unfold Lay.endT at b3
  omega
/-- Runs that a call owns, in blocks from B on. -/
def OW (B : Nat) (w : World) (v : Value) (L : List RZ) : Prop := w.ownsRow B 92 3 v L.length (valsA encZ L)
theorem OW.stays {B : Nat} {w w' : World} {v : Value} {L : List RZ} (h : OW B w v L) (hb : Below w.heap.size w w') : OW B w' v L := ownsRow_stays h hb
/-- The runs joined ahead of slab k; ahead of its block t. -/
def JJ (S N : Nat) (T : List Sl) (k : Nat) : List RZ := joinZ (headR S N ++ allT S N T k)
def KK (S N : Nat) (T : List Sl) (k t : Nat) : List RZ := joinZ (headR S N ++ allT S N T k ++ blkL (aT S N k) (T.getD k Sl.zero).c (T.getD k Sl.zero).f.reverse t)
def Wth (B : Nat) (v : Value) (r1 r2 r3 : Int) (w : World) (L : List RZ) : Prop :=
  Calls Tryz.prog 58 #[v, .agg #[.int .i64 r1, .int .i64 r2, .int .i64 r3]] w fun e w' => ∃ u, e = .returned u ∧ Below B w w' ∧ OW B w' u L
section
variable {S N : Nat} {T : List Sl} {x : List Int} {p : Nat}
theorem st_none (h : Til x p (headR S N ++ allT S N T S)) (hp : p ≤ 1000000) {k : Nat} (hk : k < S) (h0 : (T.getD k Sl.zero).c = 0) (B : Nat) (v : Value) (w : World) (hO : OW B w v (JJ S N T k)) (hb : B ≤ w.heap.size) : Wth B v (aT S N k : Int) 1024 7 w (JJ S N T (k + 1)) := by
  obtain ⟨h1, h2⟩ := pre_none (N := N) (T := T) hk h0
  unfold JJ
  rw [h2]
  exact with_pre h hp v B _ _ _ _ h1 w hO hb
theorem st_blk (h : Til x p (headR S N ++ allT S N T S)) (hp : p ≤ 1000000) {k t : Nat} (hk : k < S) (h0 : (T.getD k Sl.zero).c ≠ 0) (ht : t < blC ((T.getD k Sl.zero).c : Int)) (B : Nat) (v : Value) (w : World) (hO : OW B w v (KK S N T k t)) (hb : B ≤ w.heap.size) :
    Wth B v (pl (aT S N k) (T.getD k Sl.zero).c t : Int) (szC ((T.getD k Sl.zero).c : Int) : Int) (if t ∈ (T.getD k Sl.zero).f.reverse then 6 else 5) w (KK S N T k (t + 1)) := by
  have h1 := pre_blk (N := N) (T := T) hk h0 ht
  unfold KK
  rw [blkL_succ, ← List.append_assoc]
  exact with_pre h hp v B _ _ _ _ h1 w hO hb
theorem st_pad (h : Til x p (headR S N ++ allT S N T S)) (hp : p ≤ 1000000) {k : Nat} (hk : k < S) (h0 : (T.getD k Sl.zero).c ≠ 0) (hq : 0 < pdC ((T.getD k Sl.zero).c : Int)) (B : Nat) (v : Value) (w : World) (hO : OW B w v (KK S N T k (blC ((T.getD k Sl.zero).c : Int)))) (hb : B ≤ w.heap.size) :
    Wth B v ((aT S N k + 1024 - pdC ((T.getD k Sl.zero).c : Int) : Nat) : Int) (pdC ((T.getD k Sl.zero).c : Int) : Int) 8 w (JJ S N T (k + 1)) := by
  have h1 := pre_pad (N := N) (T := T) hk h0
  unfold JJ
  rw [all_dvd h0]
  unfold padR at h1 ⊢
  rw [if_pos hq] at h1 ⊢
  exact with_pre h hp v B _ _ _ _ h1 w hO hb
theorem st_nopad {k : Nat} (h0 : (T.getD k Sl.zero).c ≠ 0) (hq : ¬ 0 < pdC ((T.getD k Sl.zero).c : Int)) : KK S N T k (blC ((T.getD k Sl.zero).c : Int)) = JJ S N T (k + 1) := by
  unfold JJ KK
  rw [all_dvd h0]
  unfold padR
  rw [if_neg hq, List.append_nil]
theorem st_zero (k : Nat) : KK S N T k 0 = JJ S N T k := by
  unfold JJ KK blkL
  rw [List.range_zero, List.map_nil, List.append_nil]
end
theorem st_end {S N : Nat} {T : List Sl} {W wr : World} {v : Value} (hb : Below W.heap.size W wr) (ho : OW W.heap.size wr v (JJ S N T S)) : ZOwn W (stJ S N T) (.returned v) wr := ⟨v, rfl, hb, ho⟩
section
variable {n : Nat × Nat} {q a S N : Nat} {T T' : List Sl} {W W' : World}
set_option maxRecDepth 100000 in
set_option maxHeartbeats 8000000 in
theorem refRuns15_any (d : Dq n W q a S N T) {x : List Int} {p : Nat} (ht : Til x p (headR S N ++ allT S N T S)) (hp : p ≤ 1000000) :
    Calls Tryz.prog 22 #[.pointer (some ⟨q, 0, none⟩)] W (ZOwn W (stJ S N T)) := by
  obtain ⟨i0, hi, hz0, hz1, hz2⟩ := info_parts Lay.infoRun
  obtain ⟨qs1, qs2, qs3, qs4, qs5⟩ := Lay.right_out d.right
  have hS := d.hi
  have hrt : Lay.runsC (S : Int) (N : Int) = Lay.runsT S N := by rw [Lay.runsC, if_pos d.right, Int.toNat_natCast, Int.toNat_natCast]
  have hR0 := Lay.refRuns_any (S : Int) (N : Int) W
  rw [hrt] at hR0
  obtain ⟨D, y, hD⟩ : ∃ D y, Lay.runsT S N = D ++ [y] := by
    rcases List.eq_nil_or_concat (Lay.runsT S N) with h | ⟨D, y, h⟩
    · have := (Lay.runsT_last S N).1
      rw [h] at this
      simp at this
    · exact ⟨D, y, by rw [h, List.concat_eq_append]⟩
  have hHd : headR S N = D.map fun r => ((r.1 : Int), (r.2.1 : Int), (r.2.2 : Int)) := by
    unfold headR
    rw [hD, List.dropLast_concat]
  have hDl : D.length + 1 ≤ 6 := by
    have := (Lay.runsT_last S N).2.1
    rw [hD, List.length_append, List.length_singleton] at this
    exact this
  rw [hD] at hR0
  have HR0 := Lib.hid hR0
  have HSl := Lib.hid (fun j (hj : j < S) w => Sla.refSlabAt d.right hj w)
  have HCe := Lib.hid (fun W' (hb : Below W.heap.size W W') => (⟨(hb.cell (p := ⟨q, 0, none⟩) d.lt.1).trans d.cells.1, (hb.cell (p := ⟨q, 1, none⟩) d.lt.1).trans d.cells.2.1, (hb.cell (p := ⟨q, 2, none⟩) d.lt.1).trans d.cells.2.2⟩ : W'.cell? ⟨q, 0, none⟩ = some (.int .i64 (S : Int)) ∧ W'.cell? ⟨q, 1, none⟩ = some (.int .i64 (N : Int)) ∧ W'.cell? ⟨q, 2, none⟩ = some (.slice (some ⟨a, 0, none⟩) S S)))
  have HCl := Lib.hid (fun W' (hb : Below W.heap.size W W') k (hk : k < S) => (show W'.cell? ⟨a, k * 3, none⟩ = some (.int .i64 ((T.getD k Sl.zero).c : Int)) by obtain ⟨u, v, c0, -⟩ := d.at hk; exact (hb.cell (p := ⟨a, k * 3, none⟩) d.lt.2).trans c0))
  have HIs := Lib.hid (fun W' (hb : Below W.heap.size W W') z => Sla.refIs_any (d.below hb) z)
  have HBl := Lib.hid (fun j (hj : j < S) k (hk : k < blC ((T.getD j Sl.zero).c : Int)) => is_blk (N := N) d.tk hj hk)
  have HS0 := Lib.hid (fun k (hk : k < S) h0 v w hO hb => st_none ht hp hk h0 W.heap.size v w hO hb)
  have HS1 := Lib.hid (fun k t (hk : k < S) h0 hq v w hO hb => st_blk (t := t) ht hp hk h0 hq W.heap.size v w hO hb)
  have HS2 := Lib.hid (fun k (hk : k < S) h0 hq v w hO hb => st_pad ht hp hk h0 hq W.heap.size v w hO hb)
  have HSz := Lib.hid (fun c w => Cls.refSize_any c w)
  have HBk := Lib.hid (fun c w => Cls.refBlocks_any c w)
  have HPd := Lib.hid (fun c w => Cls.refPad_any c w)
  have HJ0 : Hid (JJ S N T 0 = headR S N) := by
    unfold Hid JJ
    rw [allT, List.append_nil, join_head S N (by omega)]
  have HAt := Lib.hid (fun j (hj : j < S) => aT_bd (N := N) d.right hj)
  obtain ⟨e0, e1, e2⟩ := HCe.out _ (Below.refl _ _)
  clear d ht hR0 hrt hD
  go_enter Tryz.func22, Tryz.ntmps22
  go_wp2_with fail
  refine HR0.out.mono ?_
  rintro e w1 ⟨u, rfl, hb1, hA⟩
  obtain ⟨ad, cap, rfl, r2, r3, r5⟩ := id hA
  obtain ⟨b, off, rfl, hbl, -⟩ := r5 (by simp)
  have HAc := Lib.hid hA
  have hm : (D ++ [y]).length = D.length + 1 := by rw [List.length_append, List.length_singleton]
  rw [hm] at r2 ⊢
  have HB1 := Lib.hid hb1
  have HOw : Hid ((w1.alloc (.cells #[] 92)).ownsRow W.heap.size 92 3 (.slice (some ⟨w1.heap.size, 0, none⟩) 0 0) 0 (valsA Lay.encR [])) :=
    ⟨rfl, .inr ⟨w1.heap.size, 0, #[], rfl, HB1.out.size, heap_alloc_new _ _, by omega, by unfold maxLen; omega, rfl, rfl⟩⟩
  have HB2 := Lib.hid (HB1.out.alloc HB1.out.size (.cells #[] 92))
  have HCs := Lib.hid (arow_cells Lay.encR_length (HAc.out.mono (below_made w1 (.cells #[] 92)) (Nat.le_refl _)))
  have HVl : (valsA Lay.encR D).length = D.length * 3 := valsA_length (k := 3) Lay.encR_length D
  have HV1 := Lib.hid (valsR_one D)
  have hsz := size_alloc1 w1 (.cells #[] 92)
  have hsz1 := HB1.out.size
  clear r5 hA hb1
  go_wp2_with (at_builtin; refine wpList_append_own _ rfl (.tmp 16) (.tmp 21) 53 rfl W.heap.size 92 i0 (.agg #[.int .i64 0, .int .i64 0, .int .i64 0]) 3 24 Tryz.underlying53 hi hz0 hz1 hz2 rfl (by decide) _ _ _ rfl HOw.out ⟨b, off, none⟩ D.length cap (valsA Lay.encR D) rfl HVl HCs.out HV1.out (by unfold maxLen; omega) (by omega) (by omega) ?_)
  intro v3 w3 hown3 hgrow3 _
  have HO3 : Hid (OW W.heap.size w3 v3 (JJ S N T 0)) := by
    unfold Hid OW
    rw [HJ0.out, hHd, encs_eq, List.length_map]
    exact hown3
  have HB3 : Hid (Below W.heap.size W w3) := HB2.out.grown hgrow3 (by omega) (fun r hr => by have : w1.heap.size = r := Option.some.inj hr; omega)
  clear hown3 hgrow3 HOw HB2 HCs HVl HV1 hsz hsz1 HB1 HAc HR0 HJ0 hHd r2 r3 hbl hm e0 e1 e2 hi hz0 hz1 hz2
  go_wp2_with fail
  go_loopw [3, 4] (fun u i wr => ∃ k : Nat, k ≤ S ∧ i = .int .i64 k ∧ Hid (OW W.heap.size wr u (JJ S N T k)) ∧ Hid (Below W.heap.size W wr)) (fun _ i _ => S - (intOf i).toNat)
  case atStart => exact ⟨0, Nat.zero_le _, rfl, HO3, HB3⟩
  case round =>
    clear HO3 HB3
    obtain ⟨k, hk, rfl, HO, HB⟩ := hrel
    obtain ⟨e0, e1, e2⟩ := HCe.out _ HB.out
    by_cases hlt : k < S
    · have hlt1 : (k : Int) < (S : Int) := by omega
      have hlt0 : (0 : Int) ≤ (k : Int) := by omega
      have hkw : IntKind.i64.wrap ((k : Int) + 1) = ((k + 1 : Nat) : Int) := (wrap_id (by omega) (by omega)).trans (by omega)
      have hA := HAt.out k hlt
      go_wp2_with fail
      refine (HSl.out k hlt _).mono ?_
      rintro e w4 ⟨rfl, hb4⟩
      have HB4 := Lib.hid (HB.out.trans (hb4.mono HB.out.size))
      have HO4 := Lib.hid (HO.out.stays hb4)
      have hsz4 := HB4.out.size
      clear e0 e1 e2 hb4 HO HB
      obtain ⟨e0, e1, e2⟩ := HCe.out _ HB4.out
      have e3 := HCl.out _ HB4.out k hlt
      by_cases h0 : (T.getD k Sl.zero).c = 0
      · have HWt := Lib.hid (HS0.out k hlt h0)
        rw [h0] at e3
        clear hA
        go_wp2_with fail
        refine Calls.mono (HWt.out _ _ HO4.out hsz4) ?_
        rintro e w5 ⟨u5, rfl, hb5, ho5⟩
        have HB5 := Lib.hid (HB4.out.trans hb5)
        have HO5 := Lib.hid ho5
        clear hb5 ho5 HO4 HB4 e0 e1 e2 e3
        go_wp2
        go_roundw
        case rel => exact ⟨k + 1, by omega, by go_num, HO5, HB5⟩
        case measure => simp [intOf]; omega
      · have h0' : ¬ ((T.getD k Sl.zero).c : Int) = 0 := by omega
        have h0'' : (((T.getD k Sl.zero).c : Int) == 0) = false := by simpa using h0
        have HW1 := Lib.hid (fun t => HS1.out k t hlt h0)
        have HW2 := Lib.hid (HS2.out k hlt h0)
        have HW3 := Lib.hid (fun hq => st_nopad (S := S) (N := N) h0 hq)
        have HBt := Lib.hid (HBl.out k hlt)
        have hbd := Cls.blC_bd ((T.getD k Sl.zero).c : Int)
        have hsd := Cls.szC_bd ((T.getD k Sl.zero).c : Int)
        have hpd := pdC_le ((T.getD k Sl.zero).c : Int)
        generalize (T.getD k Sl.zero).c = g at *
        generalize (T.getD k Sl.zero).f.reverse = F at *
        generalize aT S N k = A at *
        go_wp2_with fail
        refine (HSz.out _ _).mono ?_
        rintro e w5 ⟨rfl, rfl⟩
        go_wp2_with fail
        go_loopw [3, 8] (fun u i wr2 => ∃ t : Nat, t ≤ blC (g : Int) ∧ i = .int .i64 t ∧ Hid (OW W.heap.size wr2 u (KK S N T k t)) ∧ Hid (Below W.heap.size W wr2)) (fun _ i _ => blC (g : Int) - (intOf i).toNat)
        case atStart => exact ⟨0, Nat.zero_le _, rfl, (by rw [st_zero]; exact HO4), HB4⟩
        case round =>
          clear HO4 HB4 e0 e1 e2 e3 hsz4
          obtain ⟨t, ht, rfl, HO, HB⟩ := hrel
          by_cases htl : t < blC (g : Int)
          · have htl1 : (t : Int) < (blC (g : Int) : Int) := by omega
            have htw : IntKind.i64.wrap ((t : Int) + 1) = ((t + 1 : Nat) : Int) := (wrap_id (by omega) (by omega)).trans (by omega)
            have hm0 : t * szC (g : Int) ≤ 32 * 512 := Nat.mul_le_mul (by omega) (by omega)
            have hpl : pl A g t = A + t * szC (g : Int) := rfl
            have hmc : ((t * szC (g : Int) : Nat) : Int) = (t : Int) * (szC (g : Int) : Int) := Int.natCast_mul _ _
            have HWt := Lib.hid (HW1.out t htl)
            have hbt := HBt.out t htl
            have hsz6 := HB.out.size
            generalize pl A g t = P at *
            generalize t * szC (g : Int) = m at *
            have hw1 : IntKind.i64.wrap ((t : Int) * (szC (g : Int) : Int)) = (m : Int) := by rw [← hmc]; exact wrap_id (by omega) (by omega)
            have hw2 : IntKind.i64.wrap ((A : Int) + (m : Int)) = (P : Int) := (wrap_id (by omega) (by omega)).trans (by omega)
            have HBb := Lib.hid hbt
            clear hmc hpl hm0 hbt
            go_wp2_with fail
            refine (HBk.out _ _).mono ?_
            rintro e w6 ⟨rfl, rfl⟩
            go_wp2_with fail
            refine (HIs.out _ HB.out _).mono ?_
            rintro e w7 ⟨bb, rfl, hbb, rfl⟩
            cases bb with
            | true =>
              have hF := HBb.out.1 (hbb.1 rfl)
              have HWu := HWt.out
              rw [if_neg hF] at HWu
              have HWv := Lib.hid HWu
              clear HWu HWt hbb hF
              go_wp2_with fail
              refine Calls.mono (HWv.out _ _ HO.out hsz6) ?_
              rintro e w8 ⟨u8, rfl, hb8, ho8⟩
              have HB8 := Lib.hid (HB.out.trans hb8)
              have HO8 := Lib.hid ho8
              clear hb8 ho8 HO HB
              go_wp2
              go_roundw
              case rel => exact ⟨t + 1, by omega, by go_num, HO8, HB8⟩
              case measure => simp [intOf]; omega
            | false =>
              have hF : t ∈ F := Decidable.byContradiction fun h => by
                have := hbb.2 (HBb.out.2 h)
                cases this
              have HWu := HWt.out
              rw [if_pos hF] at HWu
              have HWv := Lib.hid HWu
              clear HWu HWt hbb hF
              go_wp2_with fail
              refine Calls.mono (HWv.out _ _ HO.out hsz6) ?_
              rintro e w8 ⟨u8, rfl, hb8, ho8⟩
              have HB8 := Lib.hid (HB.out.trans hb8)
              have HO8 := Lib.hid ho8
              clear hb8 ho8 HO HB
              go_wp2
              go_roundw
              case rel => exact ⟨t + 1, by omega, by go_num, HO8, HB8⟩
              case measure => simp [intOf]; omega
          · obtain rfl : t = blC (g : Int) := by omega
            have hsz6 := HB.out.size
            go_wp2_with fail
            refine (HBk.out _ _).mono ?_
            rintro e w6 ⟨rfl, rfl⟩
            go_wp2_with fail
            refine (HPd.out _ _).mono ?_
            rintro e w7 ⟨rfl, rfl⟩
            by_cases hq : 0 < pdC (g : Int)
            · have hq1 : (0 : Int) < (pdC (g : Int) : Int) := by omega
              have HWv := Lib.hid (HW2.out hq)
              have hA2 : ((A + 1024 - pdC (g : Int) : Nat) : Int) = (A : Int) + 1024 - (pdC (g : Int) : Int) := by omega
              rw [hA2] at HWv
              generalize pdC (g : Int) = pd at *
              go_wp2_with fail
              refine Calls.mono (HWv.out _ _ HO.out hsz6) ?_
              rintro e w8 ⟨u8, rfl, hb8, ho8⟩
              have HB8 := Lib.hid (HB.out.trans hb8)
              have HO8 := Lib.hid ho8
              clear hb8 ho8 HO HB
              go_wp2
              go_roundw
              case rel => exact ⟨k + 1, by omega, by go_num, HO8, HB8⟩
              case measure => simp [intOf]; omega
            · have hq0 : pdC (g : Int) = 0 := by omega
              have HO8 := HO.out
              rw [HW3.out hq] at HO8
              have HO8 := Lib.hid HO8
              rw [hq0]
              go_wp2
              go_roundw
              case rel => exact ⟨k + 1, by omega, by go_num, HO8, HB⟩
              case measure => simp [intOf]; omega
    · obtain rfl : k = S := by omega
      have HF := Lib.hid (st_end HB.out HO.out)
      go_wp2
      go_ret
      exact HF.out
end
end Go.Proofs.YthnjpmgfikhemaaGreatDoor.Reg

namespace Go.Proofs.YthnjpmgfikhemaaGreatDoor.Sla
open Go.RowKit Num
open Mem (Mm MemC MRet Hm rd blkM)
open Lis (Cf LM LR Tb at_ Nx Pv Rep Hx valsN)
open Cls (szC blC pdC)
open Arn (wrL is64)
open Reg (stJ ZRow RZ)
set_option linter.unusedVariables false

section
variable {w W W' : World} {h : Hm} {n q a S N m : Nat} {l0 : List Int} {T : List Sl} {A : List Nat} {v : Value}
theorem Zs.runs (z : Zs w h n q a S N m l0 T T A v W) : Calls Tryz.prog 21 #[pV h] W fun e W' => ∃ u, e = .returned u ∧ Zs w h n q a S N m l0 T T A v W' ∧ ZRow W' u (stJ S N T) := by
  obtain ⟨l, hd⟩ := id z.d
  refine (Reg.st_runs_any hd.st).mono ?_
  rintro e W' ⟨u, rfl, hr, hb⟩
  exact ⟨u, rfl, z.below hb, hr⟩
theorem Zs.rruns (z : Zs w h n q a S N m l0 T T A v W) : Calls Tryz.prog 22 #[.pointer (some ⟨q, 0, none⟩)] W fun e W' => ∃ u, e = .returned u ∧ Below W.heap.size W W' ∧ ZRow W' u (stJ S N T) := by
  obtain ⟨l, hd⟩ := id z.d
  obtain ⟨x, hx, hv⟩ := id z.g
  obtain ⟨C, H, L, lk, -, -, -, -, -, -, -, -, ht, hl⟩ := Reg.st_mapx hd.st
  refine (Reg.refRuns15_any hx ht (by omega)).mono ?_
  rintro e W' ⟨u, rfl, hb, ho⟩
  exact ⟨u, rfl, hb, arow_of_owns Reg.encZ_length _ ho rfl⟩
theorem Zs.place (z : Zs w h n q a S N m l0 T T A v W) (hA : A.length ≤ 200) (hb : ∀ x ∈ A, x ≤ 100000) (yk yn : Int) (h64 : is64 yn) : Calls Tryz.prog 10 #[.agg #[.int .i64 yk, .int .i64 yn], v] W fun e W' => ∃ b, e = .returned (.int .i64 b) ∧ is64 b ∧ Zs w h n q a S N m l0 T T A v W' := by
  refine (place_any yk yn v A W (z.o.row hb).1 hA hb h64).mono ?_
  rintro e W' ⟨b, rfl, h1, h2⟩
  exact ⟨b, rfl, h1, z.below h2⟩
/-- What is taken lies low. -/
theorem Zs.low (z : Zs w h n q a S N m l0 T T A v W) (c : Int) (h0 : (tkF S N T c).1.2 = 0) : ∃ y : Nat, (tkF S N T c).1.1 = (y : Int) ∧ y ≤ 100000 := by
  obtain ⟨l, hd⟩ := id z.d
  obtain ⟨x, hx, hv⟩ := id z.g
  rcases tk_spec (N := N) hd.st.tk c with ⟨h1, h2⟩ | ⟨h1, j, k, h2, h3⟩
  · exact absurd h0 h1
  · refine ⟨_, h2, ?_⟩
    exact fA_bd hx.right h3.hj (A := [k]) (c := c) (fun i hi => by obtain rfl := List.mem_singleton.1 hi; exact h3.hk) _ (by simp)
end
/-- What both sides begin with, whatever the slabs. -/
structure Start2 (w : World) (h : Hm) (q a n S N : Nat) (wc : World) : Prop where
  bg : Calls Tryz.prog 7 #[pV h] wc fun e W' => ∃ l0, e = .returned (.int .i64 0) ∧ Wd w h n S N l0 l0 (List.replicate S Sl.zero) W' ∧ Fr wc.heap.size (blkM h) wc W'
  dq : Dq (n, q) wc q a S N (List.replicate S Sl.zero)
  nq : ¬ blkM h q
  na : ¬ blkM h a
  a0 : w.heap.size ≤ a
  nn : n ≤ wc.heap.size
theorem Start2.a {w w1 w2 : World} {h : Hm} {q a S N : Nat} (hB1 : Below w.heap.size w w1) (hb2 : Below w1.heap.size w1 w2)
    (hbg : ∀ W, Below w1.heap.size w1 W → Calls Tryz.prog 7 #[pV h] W fun e W' => ∃ l0, e = .returned (.int .i64 0) ∧ Wd w h w1.heap.size S N l0 l0 (List.replicate S Sl.zero) W' ∧ Fr W.heap.size (blkM h) W W')
    (hk1 : ∀ k, blkM h k → k < w1.heap.size) (hq0 : w1.heap.size ≤ q) (hq1 : q < w2.heap.size) (ha0 : w1.heap.size ≤ a) (hdq : ∀ W', Below w2.heap.size w2 W' → ∀ n : Nat × Nat, n.1 ≤ W'.heap.size → n.2 < W'.heap.size → Dq n W' q a S N (List.replicate S Sl.zero)) : Start2 w h q a w1.heap.size S N w2 := by
  have := hB1.size
  exact ⟨hbg _ hb2, hdq _ (Below.refl _ _) (w1.heap.size, q) hb2.size hq1, fun z => by have := hk1 _ z; omega, fun z => by have := hk1 _ z; omega, by omega, hb2.size⟩
theorem Start2.b {w w1 w2 : World} {h : Hm} {q a S N : Nat} (hb1 : Below w2.heap.size w2 w1)
    (hbg : ∀ W, Below w1.heap.size w1 W → Calls Tryz.prog 7 #[pV h] W fun e W' => ∃ l0, e = .returned (.int .i64 0) ∧ Wd w h w1.heap.size S N l0 l0 (List.replicate S Sl.zero) W' ∧ Fr W.heap.size (blkM h) W W')
    (hk1 : ∀ k, blkM h k → w2.heap.size ≤ k) (hq1 : q < w2.heap.size) (ha1 : a < w2.heap.size) (h0 : w.heap.size ≤ a) (hdq : ∀ W', Below w2.heap.size w2 W' → ∀ n : Nat × Nat, n.1 ≤ W'.heap.size → n.2 < W'.heap.size → Dq n W' q a S N (List.replicate S Sl.zero)) : Start2 w h q a w1.heap.size S N w1 := by
  exact ⟨hbg _ (Below.refl _ _), hdq _ hb1 (w1.heap.size, q) (Nat.le_refl _) (Nat.lt_of_lt_of_le hq1 hb1.size), fun z => by have := hk1 _ z; omega, fun z => by have := hk1 _ z; omega, h0, Nat.le_refl _⟩
theorem Start2.zs {w wc W' : World} {h : Hm} {q a n S N : Nat} {l0 : List Int} (st : Start2 w h q a n S N wc) (ht : Ts w) (hd : Wd w h n S N l0 l0 (List.replicate S Sl.zero) W') (hf : Fr wc.heap.size (blkM h) wc W') : Zs w h n q a S N W'.heap.size l0 (List.replicate S Sl.zero) (List.replicate S Sl.zero) [] (.slice none 0 0) W' := by
  have h1 := st.dq.lt
  have h2 := hf.size
  exact ⟨⟨_, hd⟩, ⟨q, st.dq.mem hf hd.lo st.nq st.na, .inl rfl⟩, OwnI.nil _ _, ⟨st.nq, st.na, st.a0⟩, ⟨hd.nn, by omega, by omega, Nat.le_refl _⟩, ht⟩
theorem cell_keep {W W' : World} (hb : Below W.heap.size W W') {b o : Nat} {u : Value} (hc : W.cell? ⟨b, o, none⟩ = some u) : W'.cell? ⟨b, o, none⟩ = some u := (hb.cell (p := ⟨b, o, none⟩) (cell_lt hc)).trans hc
set_option maxRecDepth 100000 in
set_option maxHeartbeats 8000000 in
theorem slabPlays_walk (v : Value) (B : List Act) (s : Int) (w : World) (ht : Ts w) (hs64 : is64 s) (hr : ActRow w v B) :
    Calls Tryz.prog 3 #[.int .i64 s, v] w fun e w' => e = .returned (.bool true) ∧ Below w.heap.size w w' := by
  obtain ⟨i0, hi0, hz0, hz1, hz2⟩ := info_parts Lis.infoInt
  have HW := Lib.hid (fun V (hv : Ts V) => takes_any V hv)
  have HTs := Lib.hid ht
  obtain ⟨ad, cap, U, rfl, q2, q3, q4, q5⟩ := hr
  have HC := Lib.hid q5
  have HS := Lib.hid q4
  clear q4 q5
  by_cases hbad : s < 7 ∨ (¬ s < 7 ∧ (16 < s ∨ (¬ 16 < s ∧ 200 < B.length)))
  · have HWt := Lib.hid (HW.out _ HTs.out)
    clear HW HTs HC HS hi0 hz0 hz1 hz2 ht
    rcases hbad with h1 | ⟨h1, h2 | ⟨h2, h3⟩⟩
    · go_enter Tryz.func3, Tryz.ntmps3
      go_wp2_with fail
      refine HWt.out.mono ?_
      rintro e w1 ⟨rfl, hb⟩
      go_wp2
      go_ret
      exact ⟨rfl, hb⟩
    · go_enter Tryz.func3, Tryz.ntmps3
      go_wp2_with fail
      refine HWt.out.mono ?_
      rintro e w1 ⟨rfl, hb⟩
      go_wp2
      go_ret
      exact ⟨rfl, hb⟩
    · have h3' : (200 : Int) < (B.length : Int) := by omega
      go_enter Tryz.func3, Tryz.ntmps3
      go_wp2_with fail
      refine HWt.out.mono ?_
      rintro e w1 ⟨rfl, hb⟩
      go_wp2
      go_ret
      exact ⟨rfl, hb⟩
  obtain ⟨S, rfl⟩ : ∃ S : Nat, s = S := ⟨s.toNat, by omega⟩
  have hS1 : ¬ (S : Int) < 7 := by omega
  have hS2 : ¬ (16 : Int) < (S : Int) := by omega
  have hL0 : ¬ (200 : Int) < (B.length : Int) := by omega
  obtain ⟨N, hN⟩ : ∃ N, N = 32 * S := ⟨_, rfl⟩
  have hNI : (N : Int) = 32 * (S : Int) := by omega
  have hright : Lay.rightC (S : Int) (N : Int) = true := by simp [Lay.rightC]; omega
  have hn2 := fun w1 hb => start2 S N w w1 hright hb (ht.keep hb)
  have hr2 := fun w1 => refBegin_any S N w1 hright
  rw [hNI] at hn2 hr2
  have HN := Lib.hid hn2
  have HR := Lib.hid hr2
  clear ht hn2 hr2 hright hbad
  unfold pV at HN
  have HB0 := Lib.hid (below_made w (.cells #[.int .i64 (S : Int), .int .i64 (32 * (S : Int))] 25))
  have hbx := heap_alloc_new w (.cells #[.int .i64 (S : Int), .int .i64 (32 * (S : Int))] 25)
  have HBox : Hid (∀ V W, (V = w.alloc (.cells #[.int .i64 (S : Int), .int .i64 (32 * (S : Int))] 25) ∨ V = (w.alloc (.cells #[.int .i64 (S : Int), .int .i64 (32 * (S : Int))] 25)).drew) → Below V.heap.size V W → W.cell? ⟨w.heap.size, 0, none⟩ = some (.int .i64 (S : Int)) ∧ W.cell? ⟨w.heap.size, 1, none⟩ = some (.int .i64 (32 * (S : Int)))) := by
    rintro V W (rfl | rfl) hb
    · have := (hb.block w.heap.size (by simp)).trans hbx
      exact ⟨(cell_block this 0).trans rfl, (cell_block this 1).trans rfl⟩
    · have := (hb.block w.heap.size (by show w.heap.size < (w.alloc _).heap.size; simp)).trans hbx
      exact ⟨(cell_block this 0).trans rfl, (cell_block this 1).trans rfl⟩
  have c0 := (cell_block hbx 0).trans (show _ = some (Value.int .i64 (S : Int)) from rfl)
  have c1 := (cell_block hbx 1).trans (show _ = some (Value.int .i64 (32 * (S : Int))) from rfl)
  clear hbx
  go_enter Tryz.func3, Tryz.ntmps3
  go_upto_region 4 with fail
  go_cut [6, 7] (fun s6 s7 wc => ∃ (h : Hm) (q a n : Nat), s6 = .pointer (some ⟨h.g, 0, none⟩) ∧ s7 = .pointer (some ⟨q, 0, none⟩) ∧ Hid (Start2 w h q a n S N wc))
  case first =>
    go_region_with (first
      | (go_at_call 5
         refine (HN.out _ (by first | exact HB0.out | exact HB0.out.drew | exact hB2)).mono ?_
         rintro e w1 ⟨h, rfl, hbg, hb1, hk1⟩
         have hB1 : Below w.heap.size w w1 := (by first | exact HB0.out.drew.trans (hb1.mono HB0.out.size) | exact HB0.out.trans (hb1.mono HB0.out.size) | exact hB2.trans (hb1.mono hB2.size))
         first | (have hq9 := hB2) | (obtain ⟨x0, x1⟩ := HBox.out _ _ (by first | exact .inl rfl | exact .inr rfl) hb1))
      | (go_at_call 6
         refine (HR.out _).mono ?_
         rintro e w2 ⟨q, a, rfl, hb2, hq0, ha0, hq1, ha1, hdq⟩
         have hB2 : Below w.heap.size w w2 := (by first | exact HB0.out.drew.trans (hb2.mono HB0.out.size) | exact HB0.out.trans (hb2.mono HB0.out.size) | exact hB1.trans (hb2.mono hB1.size))
         first | (have hq9 := hB1) | (obtain ⟨x0, x1⟩ := HBox.out _ _ (by first | exact .inl rfl | exact .inr rfl) hb2)))
    all_goals go_wp2_with fail
    all_goals go_meet
    all_goals first
      | exact ⟨_, _, _, _, rfl, rfl, Start2.a hB1 hb2 hbg (fun k hk => (hk1 k hk).2) hq0 hq1 ha0 hdq⟩
      | exact ⟨_, _, _, _, rfl, rfl, Start2.b hb1 hbg (fun k hk => (hk1 k hk).1) hq1 ha1 (Nat.le_trans HB0.out.size ha0) hdq⟩
  case rest =>
    obtain ⟨h, q, a, n, rfl, rfl, HSt⟩ := hcut
    have HBg := Lib.hid HSt.out.bg
    unfold pV at HBg
    clear HN HR HB0 HBox c0 c1
    go_wp2_with fail
    refine HBg.out.mono ?_
    rintro e w2 ⟨l0, rfl, hd2, hf2⟩
    have HZ2 := Lib.hid (HSt.out.zs HTs.out hd2 hf2)
    clear hd2 hf2 HSt HBg hNI hN
    obtain ⟨m, hm⟩ : ∃ m, m = w2.heap.size := ⟨_, rfl⟩
    rw [← hm] at HZ2
    clear hm
    go_wp2
    go_loopw [8, 9] (fun v i wr => ∃ (j : Nat) (A : List Nat) (T : List Sl), j ≤ B.length ∧ A.length ≤ j ∧ i = .int .i64 j ∧ Hid (Zs w h n q a S N m l0 T T A v wr) ∧ Hid (∀ x ∈ A, x ≤ 100000)) (fun _ i _ => B.length - (intOf i).toNat)
    case atStart => exact ⟨0, [], _, Nat.zero_le _, Nat.le_refl _, rfl, HZ2.out, (fun _ q => by cases q)⟩
    case round =>
      clear HZ2
      obtain ⟨j, A, T, hj, hjA, rfl, HZ, HB⟩ := hrel
      by_cases hlt : j < B.length
      · have hlt1 : (j : Int) < (B.length : Int) := by omega
        have hlt0 : (0 : Int) ≤ (j : Int) := by omega
        have hjw : IntKind.i64.wrap ((j : Int) + 1) = ((j + 1 : Nat) : Int) := (Arn.wrap_id (by omega) (by omega)).trans (by omega)
        obtain ⟨rb, off, rfl, hlb, hc⟩ := HC.out (by rintro rfl; simp at hlt)
        obtain ⟨hs1, hs2, hs3⟩ := HS.out j hlt
        have hcw : ∀ W, Below w.heap.size w W → W.cell? ⟨rb, off + j * 2, none⟩ = some (.int .i64 (B.getD j Act.zero).k) ∧ W.cell? ⟨rb, off + j * 2 + 1, none⟩ = some (.int .i64 (B.getD j Act.zero).n) := fun W hb => by
          have g0 := hc j hlt 0 (.int .i64 (B.getD j Act.zero).k) (by rw [hs2]; rfl)
          have g1 := hc j hlt 1 (.int .i64 (B.getD j Act.zero).n) (by rw [hs2]; rfl)
          exact ⟨(hb.cell (p := ⟨rb, off + j * 2, none⟩) hlb).trans g0, (hb.cell (p := ⟨rb, off + j * 2 + 1, none⟩) hlb).trans g1⟩
        have h64 := hs3.2
        generalize (B.getD j Act.zero).k = yk at hcw hs3
        generalize (B.getD j Act.zero).n = yn at hcw h64
        obtain ⟨l, hd⟩ := HZ.out.d
        obtain ⟨d0, d1⟩ := hcw _ hd.b
        have hnm := Nat.le_trans HZ.out.m.1 HZ.out.m.2.2.2
        have HZ1 := Lib.hid (HZ.out.below (below_made wr (.cells #[.int .i64 yk, .int .i64 yn] 34)))
        have hbx := heap_alloc_new wr (.cells #[.int .i64 yk, .int .i64 yn] 34)
        have b0 := (cell_block hbx 0).trans (show _ = some (Value.int .i64 yk) from rfl)
        have b1 := (cell_block hbx 1).trans (show _ = some (Value.int .i64 yn) from rfl)
        have H64 := Lib.hid h64
        clear hd hs1 hs2 hs3 hc hcw HZ hbx h64
        by_cases hk3 : yk < 3
        · have htk := HZ1.out.take yn
          have hrk := fun W T1 (z : Zs w h n q a S N m l0 T1 T A u8 W) => z.rtake yn
          have hlow := HZ1.out.low yn
          obtain ⟨⟨⟨x, er⟩, T'⟩, hp⟩ : ∃ p, p = tkF S N T yn := ⟨_, rfl⟩
          rw [← hp] at htk hrk hlow
          simp only at htk hrk hlow
          have HTk := Lib.hid htk
          have HRk := Lib.hid hrk
          unfold pV at HTk
          clear htk hrk hp
          go_wp2_with fail
          refine HTk.out.mono ?_
          rintro e w4 ⟨rfl, hz4, hk4⟩
          have HZ4 := Lib.hid hz4
          have k1 := hk4 _ _ _ hnm b1
          clear hz4 hk4 b0 b1 d0 d1 HTk HZ1
          go_wp2_with fail
          refine (HRk.out _ _ HZ4.out).mono ?_
          rintro e w5 ⟨rfl, hz5⟩
          have HZ5 := Lib.hid hz5
          clear hz5 HZ4 HRk k1
          by_cases he : er = 0
          · subst he
            obtain ⟨y, rfl, hy⟩ := hlow rfl
            have hO5 := HZ5.out.o
            have hmw := HZ5.out.m.2.2.2
            have HPu := Lib.hid (fun v' W' => HZ5.out.push (v' := v') (W' := W') (y := y))
            have HB6 : Hid (∀ x ∈ A ++ [y], x ≤ 100000) := fun x hx => by
              rcases List.mem_append.1 hx with hx | hx
              · exact HB.out x hx
              · obtain rfl := List.mem_singleton.1 hx
                exact hy
            go_wp2_with (at_builtin; refine wpList_append_own_at _ rfl (.tmp 78) (.tmp 80) 32 rfl m 3 i0 (.int .i64 0) 1 8 Tryz.underlying32 hi0 hz0 hz1 hz2 rfl (by decide) _ _ _ rfl (World.ownsRow.alloc hO5 _) ⟨w5.heap.size, 0, none⟩ 1 1 [.int .i64 (y : Int)] rfl rfl (news_one _ _ _ _) (oneCell_one _ _) (by unfold maxLen; omega) (by omega) (by simp; omega) ?_)
            intro v6 w6 hown6 hgrow6 _ hat6
            have HZ6 := Lib.hid (HPu.out _ _ hown6 hgrow6 (by rw [Lay.size_alloc]; exact hat6))
            clear hown6 hgrow6 hat6 HPu HZ5 hO5 hlow
            have HFr := Lib.hid (fun W (z : Zs w h n q a S N m l0 T' T' (A ++ [y]) v6 W) => z.free)
            have HRf := Lib.hid (fun W (z : Zs w h n q a S N m l0 T' T' (A ++ [y]) v6 W) => z.rfree)
            have HFa := Lib.hid (fun W (z : Zs w h n q a S N m l0 T' T' (A ++ [y]) v6 W) => z.faults)
            unfold pV at HFr HFa
            generalize (czL T').length = cz at HFr HRf
            go_wp2_with fail
            refine (HFr.out _ HZ6.out).mono ?_
            rintro e wf ⟨rfl, hzf⟩
            have HZf := Lib.hid hzf
            clear hzf HZ6
            go_wp2_with fail
            refine (HRf.out _ HZf.out).mono ?_
            rintro e wg ⟨rfl, hzg⟩
            have HZg := Lib.hid hzg
            clear hzg HZf
            go_wp2_with fail
            refine (HFa.out _ HZg.out).mono ?_
            rintro e wh ⟨rfl, hzh⟩
            have HZh := Lib.hid hzh
            clear hzh HZg
            go_wp2
            go_roundw
            case rel => exact ⟨j + 1, A ++ [y], T', by omega, by rw [List.length_append, List.length_singleton]; omega, by go_num, HZh.out, HB6.out⟩
            case measure => simp [intOf]; omega
          · have he1 : (er == 0) = false := by simpa using he
            clear hlow
            have HFr := Lib.hid (fun W (z : Zs w h n q a S N m l0 T' T' A u8 W) => z.free)
            have HRf := Lib.hid (fun W (z : Zs w h n q a S N m l0 T' T' A u8 W) => z.rfree)
            have HFa := Lib.hid (fun W (z : Zs w h n q a S N m l0 T' T' A u8 W) => z.faults)
            unfold pV at HFr HFa
            generalize (czL T').length = cz at HFr HRf
            go_wp2_with fail
            refine (HFr.out _ HZ5.out).mono ?_
            rintro e wf ⟨rfl, hzf⟩
            have HZf := Lib.hid hzf
            clear hzf HZ5
            go_wp2_with fail
            refine (HRf.out _ HZf.out).mono ?_
            rintro e wg ⟨rfl, hzg⟩
            have HZg := Lib.hid hzg
            clear hzg HZf
            go_wp2_with fail
            refine (HFa.out _ HZg.out).mono ?_
            rintro e wh ⟨rfl, hzh⟩
            have HZh := Lib.hid hzh
            clear hzh HZg
            go_wp2
            go_roundw
            case rel => exact ⟨j + 1, A, T', by omega, by omega, by go_num, HZh.out, HB.out⟩
            case measure => simp [intOf]; omega
        · have HPl := Lib.hid (HZ1.out.place (by omega) HB.out yk yn H64.out)
          go_wp2_with fail
          refine HPl.out.mono ?_
          rintro e w4 ⟨b, rfl, hb64, hz4⟩
          have hgv := hz4.give hb64
          have hrg := fun W T1 (z : Zs w h n q a S N m l0 T1 T A u8 W) => z.rgive b
          obtain ⟨⟨r, T'⟩, hp⟩ : ∃ p, p = gvF S N T b := ⟨_, rfl⟩
          rw [← hp] at hgv hrg
          simp only at hgv hrg
          have HGv := Lib.hid hgv
          have HRg := Lib.hid hrg
          unfold pV at HGv
          clear hgv hrg hp hz4 hb64 HPl HZ1 b0 b1 d0 d1
          go_wp2_with fail
          refine HGv.out.mono ?_
          rintro e w5 ⟨rfl, hz5⟩
          have HZ5 := Lib.hid hz5
          clear hz5 HGv
          go_wp2_with fail
          refine (HRg.out _ _ HZ5.out).mono ?_
          rintro e w6 ⟨rfl, hz6⟩
          have HZ6 := Lib.hid hz6
          clear hz6 HRg HZ5
          have HFr := Lib.hid (fun W (z : Zs w h n q a S N m l0 T' T' A u8 W) => z.free)
          have HRf := Lib.hid (fun W (z : Zs w h n q a S N m l0 T' T' A u8 W) => z.rfree)
          have HFa := Lib.hid (fun W (z : Zs w h n q a S N m l0 T' T' A u8 W) => z.faults)
          unfold pV at HFr HFa
          generalize (czL T').length = cz at HFr HRf
          go_wp2_with fail
          refine (HFr.out _ HZ6.out).mono ?_
          rintro e wf ⟨rfl, hzf⟩
          have HZf := Lib.hid hzf
          clear hzf HZ6
          go_wp2_with fail
          refine (HRf.out _ HZf.out).mono ?_
          rintro e wg ⟨rfl, hzg⟩
          have HZg := Lib.hid hzg
          clear hzg HZf
          go_wp2_with fail
          refine (HFa.out _ HZg.out).mono ?_
          rintro e wh ⟨rfl, hzh⟩
          have HZh := Lib.hid hzh
          clear hzh HZg
          go_wp2
          go_roundw
          case rel => exact ⟨j + 1, A, T', by omega, by omega, by go_num, HZh.out, HB.out⟩
          case measure => simp [intOf]; omega
      · obtain rfl : j = B.length := by omega
        clear HB hlt
        have HLv := Lib.hid (fun k (hk : k < S) lv W (z : Zs w h n q a S N m l0 T T A u8 W) (hc : W.cell? ⟨a, k * 3 + 2, none⟩ = some lv) => z.live hk hc)
        unfold pV at HLv
        have HSm := Lib.hid (fun u v L W (hu : Row .i64 W u L) (hv : Row .i64 W v L) => Lis.refSame_any u v L W hu hv)
        go_wp2
        go_loopw [16] (fun i wr => ∃ k : Nat, k ≤ S ∧ i = .int .i64 k ∧ Hid (Zs w h n q a S N m l0 T T A u8 wr)) (fun i _ => S - (intOf i).toNat)
        case atStart => exact ⟨0, Nat.zero_le _, rfl, HZ⟩
        case round =>
          clear HZ
          obtain ⟨k, hk, rfl, HZ⟩ := hrel
          by_cases hlt : k < S
          · have hlt1 : (k : Int) < (S : Int) := by omega
            have hlt0 : (0 : Int) ≤ (k : Int) := by omega
            have hkw : IntKind.i64.wrap ((k : Int) + 1) = ((k + 1 : Nat) : Int) := (Arn.wrap_id (by omega) (by omega)).trans (by omega)
            obtain ⟨lv, d0, d1⟩ := HZ.out.cells hlt
            have HLk := Lib.hid (HLv.out k hlt lv)
            have hz := HZ.out
            generalize Lis.ints (vA S N T k) = X at HLk
            clear HZ HLv
            go_wp2
            go_region_held3 (fun w' => w'.cell? ⟨q, 2, none⟩ = some (.slice (some ⟨a, 0, none⟩) S S) ∧ w'.cell? ⟨a, k * 3 + 2, none⟩ = some lv) (first | exact ⟨d0, d1⟩ | go_keep) ((first | (go_at_call 17; refine (HLk.out _ (by first | exact hz | exact hz.below (Below.refl _ _).drew) (by exact d1)).mono ?_; rintro e wa ⟨ua, rfl, hza, k0, k1, hra, hrl⟩; replace hz := hza; have d0 := k0; have d1 := k1) | (go_at_call 16; refine (HSm.out _ _ _ _ (by first | exact hra | exact hra.mono (Below.refl _ _).drew (Nat.le_refl _)) (by first | exact hrl | exact hrl.mono (Below.refl _ _).drew (Nat.le_refl _))).mono ?_; rintro e wb ⟨rfl, hbb⟩; replace hz := (by first | exact hz.below hbb | exact (hz.below (Below.refl _ _).drew).below hbb); have d0 := (by first | exact cell_keep hbb k0 | exact cell_keep (W := wa.drew) hbb k0 : wb.cell? ⟨q, 2, none⟩ = some (.slice (some ⟨a, 0, none⟩) S S)); have d1 := (by first | exact cell_keep hbb k1 | exact cell_keep (W := wa.drew) hbb k1 : wb.cell? ⟨a, k * 3 + 2, none⟩ = some lv))))
            all_goals
              have HZ9 := Lib.hid hz
              clear hz d0 d1
              go_wp2
              go_roundw
              case rel => exact ⟨k + 1, by omega, by go_num, HZ9.out⟩
              case measure => simp [intOf]; omega
          · obtain rfl : k = S := by omega
            have HRm := Lib.hid (fun (c : Int) W (z : Zs w h n q a k N m l0 T T A u8 W) => z.room c)
            have HRr := Lib.hid (fun (c : Int) W (z : Zs w h n q a k N m l0 T T A u8 W) => z.rroom c)
            unfold pV at HRm
            clear HLv hlt
            go_wp2
            go_loopw [17] (fun i wr => ∃ c : Nat, c ≤ 11 ∧ i = .int .i64 c ∧ Hid (Zs w h n q a k N m l0 T T A u8 wr)) (fun i _ => 11 - (intOf i).toNat)
            case atStart => exact ⟨0, Nat.zero_le _, rfl, HZ⟩
            case round =>
              clear HZ
              obtain ⟨c, hc, rfl, HZ⟩ := hrel
              by_cases hlt : c < 11
              · have hlt1 : (c : Int) ≤ 10 := by omega
                have hkw : IntKind.i64.wrap ((c : Int) + 1) = ((c + 1 : Nat) : Int) := (Arn.wrap_id (by omega) (by omega)).trans (by omega)
                have HR1 := Lib.hid (HRm.out (c : Int))
                have HR2 := Lib.hid (HRr.out (c : Int))
                generalize rmF T (c : Int) k = rr at HR1 HR2
                go_wp2_with fail
                refine (HR1.out _ HZ.out).mono ?_
                rintro e w7 ⟨rfl, hz7⟩
                have HZ7 := Lib.hid hz7
                clear hz7 HZ
                go_wp2_with fail
                refine (HR2.out _ HZ7.out).mono ?_
                rintro e w8 ⟨rfl, hz8⟩
                have HZ8 := Lib.hid hz8
                clear hz8 HZ7
                go_wp2
                go_roundw
                case rel => exact ⟨c + 1, by omega, by go_num, HZ8.out⟩
                case measure => simp [intOf]; omega
              · obtain rfl : c = 11 := by omega
                have HRu := Lib.hid HZ.out.runs
                have HRr2 := Lib.hid (fun W (z : Zs w h n q a k N m l0 T T A u8 W) => z.rruns)
                have HSz := Lib.hid (fun v1 v2 P W (h1 : ZRow W v1 P) (h2 : ZRow W v2 P) => Reg.sameZ_any v1 v2 P W h1 h2)
                unfold pV at HRu
                generalize stJ k N T = J at HRu HRr2
                clear HRm HRr HZ HSm
                go_wp2_with fail
                refine HRu.out.mono ?_
                rintro e w7 ⟨u1, rfl, hz7, hr7⟩
                have HZ7 := Lib.hid hz7
                have HR7 := Lib.hid hr7
                clear hz7 hr7 HRu
                go_wp2_with fail
                refine (HRr2.out _ HZ7.out).mono ?_
                rintro e w8 ⟨u2, rfl, hb8, hr8⟩
                have HZ8 := Lib.hid (HZ7.out.below hb8)
                have HS8 := Lib.hid (HSz.out _ _ _ _ (HR7.out.mono hb8 (Nat.le_refl _)) hr8)
                clear hb8 hr8 HR7 HZ7 HRr2 HSz
                go_wp2_with fail
                refine HS8.out.mono ?_
                rintro e w9 ⟨rfl, hm9⟩
                have HB9 : Hid (Below w.heap.size w w9) := by
                  obtain ⟨l, hd⟩ := HZ8.out.d
                  exact Lay.below_drawn hd.b hm9
                clear hm9 HS8 HZ8
                go_wp2_with fail
                refine (HW.out _ (HTs.out.keep HB9.out)).mono ?_
                rintro e w10 ⟨rfl, hb10⟩
                have HBx := Lib.hid (HB9.out.trans (hb10.mono HB9.out.size))
                clear hb10 HB9
                go_wp2
                go_ret
                exact ⟨rfl, HBx.out⟩
end Go.Proofs.YthnjpmgfikhemaaGreatDoor.Sla
