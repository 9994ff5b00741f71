/- Contracts of the document's watch: sums and runs. -/
import Derived.Test.YtnpnigeghhcncaaWatF
namespace Go.Proofs.Ytnpnigeghhcncaa.Wat
open Go.RowKit Num Arn
set_option linter.unusedVariables false

theorem count_take (x : List Int) (k : Int) (m : Nat) (h : m < x.length) : (x.take (m + 1)).count k = (x.take m).count k + (if x.getD m 0 = k then 1 else 0) := by
  rw [List.take_succ_eq_append_getElem h, List.count_append]
  have : x.getD m 0 = x[m] := by simp [List.getD, h]
  rw [this, List.count_singleton]
  simp

set_option maxRecDepth 100000 in
set_option maxHeartbeats 2000000 in
theorem refSum_any (h : Hw) (v : Value) (x : List Int) (lk ft : Nat) (k : Int) (w : World) (ha : WaR h w v x lk ft) :
    Calls Try.prog 16 #[v, .int .i64 k] w fun e w' => e = .returned (.int .i64 (cntA x k : Int)) ∧ w = w' := by
  have hl := ha.len
  have HBy := Lib.hid ha.2.2.2.2
  obtain ⟨c0, -, -⟩ := ha.cells
  have HB := Lib.hid ha.2.2.1
  have hv := ha.1
  subst hv
  clear ha
  go_enter Try.func16, Try.ntmps16
  go_wp2
  go_loop [5, 6] (fun s i => ∃ (c m : Nat), m ≤ x.length ∧ c ≤ m ∧ s = .int .i64 c ∧ i = .int .i64 m ∧ Hid ((x.take m).count k = c)) (fun _ i => x.length - (intOf i).toNat)
  case atStart => exact ⟨0, 0, Nat.zero_le _, Nat.le_refl _, rfl, rfl, rfl⟩
  case round =>
    obtain ⟨c, m, hm, hc, rfl, rfl, HC⟩ := hrel
    by_cases hlt : m < x.length
    · have hlt1 : (m : Int) < (x.length : Int) := by omega
      have hlt0 : (0 : Int) ≤ (m : Int) := by omega
      have hcell : w.cell? ⟨h.b, m, none⟩ = some (.int .u8 (x.getD m 0)) := by
        rw [cell_block HB.out, List.getElem?_toArray, vals_get _ _ hlt]
      have hzb := HBy.out m
      have hct := count_take x k m hlt
      rw [HC.out] at hct
      obtain ⟨z, hz⟩ : ∃ z, z = x.getD m 0 := ⟨_, rfl⟩
      rw [← hz] at hcell hzb hct
      have hr64 : wrap64 z = z := IntWalk.wrap64_in _ (by omega)
      clear hz HC
      by_cases he : z = k
      · subst he
        rw [if_pos rfl] at hct
        have HCT := Lib.hid hct
        clear hct
        go_wp2
        go_round
        case rel => exact ⟨c + 1, m + 1, by omega, by omega, by go_num, by go_num, HCT.out⟩
        case measure => simp [intOf]; omega
      · rw [if_neg he] at hct
        have HCT := Lib.hid hct
        have he2 : (z == k) = false := by simpa using he
        clear hct
        go_wp2
        go_round
        case rel => exact ⟨c, m + 1, by omega, by omega, by go_num, by go_num, HCT.out⟩
        case measure => simp [intOf]; omega
    · obtain rfl : m = x.length := by omega
      have HE : Hid (cntA x k = c) := by
        have := HC.out
        rw [List.take_length] at this
        exact this
      clear HC hlt
      go_wp2
      go_ret
      exact ⟨ret_int (by rw [HE.out]), rfl⟩

/-- The last run of a row that a call owns, one longer. -/
theorem own_bump {w : World} {base cap g p m : Nat} {q : Int} {t : TypeId} {M : List Rn} (h : w.ownsRow base t 3 (.slice (some ⟨g, 0, none⟩) (M.length + 1) cap) (M.length + 1) (valsA encW (M ++ [(p, m, q)]))) (y : Nat) :
    (w.setCell ⟨g, M.length * 3 + 1, none⟩ (.int .i64 (y : Int))).ownsRow base t 3 (.slice (some ⟨g, 0, none⟩) (M.length + 1) cap) (M.length + 1) (valsA encW (M ++ [(p, y, q)])) := by
  obtain ⟨h1, h2⟩ := h
  rcases h2 with ⟨e, h0⟩ | ⟨g', cap', cur, e, hg, hh, hle, hm, hsz, htk⟩
  · omega
  · injection e with e1 e2 e3
    injection e1 with e1
    injection e1 with e1
    subst e1 e3
    have hvl : (valsA encW M).length = M.length * 3 := valsA_length (k := 3) (enc := encW) (fun _ => rfl) M
    refine ⟨?_, .inr ⟨g, cap, cur.setIfInBounds (M.length * 3 + 1) (.int .i64 (y : Int)), rfl, hg, heap_setCell_own hh _, hle, hm, by rw [Array.size_setIfInBounds]; exact hsz, ?_⟩⟩
    · rw [valsA_length (k := 3) (fun _ => rfl)]
      simp
    · rw [Array.toList_setIfInBounds, List.take_set, htk, valsA_snoc, valsA_snoc, List.set_append_right _ _ (by omega), hvl]
      simp [encW]
theorem own_cells {w : World} {base cap g p m : Nat} {q : Int} {t : TypeId} {M : List Rn} (h : w.ownsRow base t 3 (.slice (some ⟨g, 0, none⟩) (M.length + 1) cap) (M.length + 1) (valsA encW (M ++ [(p, m, q)]))) :
    base ≤ g ∧ w.cell? ⟨g, M.length * 3 + 1, none⟩ = some (.int .i64 (m : Int)) ∧ w.frozen? ⟨g, M.length * 3 + 1, none⟩ = false := by
  obtain ⟨h1, h2⟩ := h
  rcases h2 with ⟨e, h0⟩ | ⟨g', cap', cur, e, hg, hh, hle, hm, hsz, htk⟩
  · omega
  · injection e with e1 e2 e3
    injection e1 with e1
    injection e1 with e1
    subst e1 e3
    have hvl : (valsA encW M).length = M.length * 3 := valsA_length (k := 3) (enc := encW) (fun _ => rfl) M
    refine ⟨hg, ?_, frozen_block hh _⟩
    have e : (valsA encW (M ++ [(p, m, q)]))[M.length * 3 + 1]? = some (.int .i64 (m : Int)) := by
      rw [valsA_snoc, List.getElem?_append_right (by omega), hvl]
      simp [encW]
    rw [← htk, List.getElem?_take_of_lt (by omega)] at e
    rw [cell_block hh]
    simpa using e
theorem rl_ne {x : List Int} {i : Nat} (h : 0 < i) : rl x i ≠ [] := by
  have key : ∀ p L, Good x p L → 0 < p → L ≠ [] := by
    intro p L hg hp
    cases hg with
    | nil => omega
    | snoc a b c d => simp
  exact key _ _ (rl_good x i) h

set_option maxRecDepth 100000 in
set_option maxHeartbeats 4000000 in
theorem refRuns_any (h : Hw) (v : Value) (x : List Int) (lk ft : Nat) (w : World) (ha : WaR h w v x lk ft) :
    Calls Try.prog 23 #[v] w fun e w' => ∃ u, e = .returned u ∧ RowR w' u (rl x x.length) ∧ Below w.heap.size w w' := by
  obtain ⟨i0, hi, hz0, hz1, hz2⟩ := info_parts infoRun
  have hl := ha.len
  have HBy := Lib.hid ha.2.2.2.2
  obtain ⟨c0, -, -⟩ := ha.cells
  have HB := Lib.hid ha.2.2.1
  have hlg := ha.lt h.g (.inl rfl)
  have hlb := ha.lt h.b (.inr rfl)
  have hv := ha.1
  subst hv
  clear ha
  go_enter Try.func23, Try.ntmps23
  go_wp2
  go_loopw [3, 4] (fun u i wr => ∃ m : Nat, m ≤ x.length ∧ i = .int .i64 m ∧ Hid (wr.ownsRow w.heap.size 48 3 u (rl x m).length (valsA encW (rl x m))) ∧ Hid (Below w.heap.size w wr)) (fun _ i _ => x.length - (intOf i).toNat)
  case atStart => exact ⟨0, Nat.zero_le _, rfl, World.ownsRow_nil _ _ _ _, Below.refl _ _⟩
  case round =>
    obtain ⟨m, hm, rfl, HO, HBl⟩ := hrel
    have e0 := (HBl.out.cell (p := ⟨h.g, 0, none⟩) hlg).trans c0
    by_cases hlt : m < x.length
    · have hlt1 : (m : Int) < (x.length : Int) := by omega
      have hlt0 : (0 : Int) ≤ (m : Int) := by omega
      have hcell : wr.cell? ⟨h.b, m, none⟩ = some (.int .u8 (x.getD m 0)) := by
        refine (HBl.out.cell (p := ⟨h.b, m, none⟩) hlb).trans ?_
        rw [cell_block HB.out, List.getElem?_toArray, vals_get _ _ hlt]
      have hzb := HBy.out m
      have hstep : rl x (m + 1) = if 0 < m ∧ x.getD m 0 = x.getD (m - 1) 0 then bump (rl x m) else rl x m ++ [(m, 1, x.getD m 0)] := rfl
      have hll := rl_length x m
      have hkinds := rl_kinds HBy.out (rl_good x m)
      obtain ⟨z, hz⟩ : ∃ z, z = x.getD m 0 := ⟨_, rfl⟩
      rw [← hz] at hcell hzb hstep
      have hr64 : wrap64 z = z := IntWalk.wrap64_in _ (by omega)
      have hr64' : IntKind.i64.wrap z = z := wrap_id (by omega) (by omega)
      by_cases h0 : m = 0
      · subst h0
        have HS : Hid (rl x 1 = [(0, 1, z)]) := by
          unfold Hid
          rw [hstep, if_neg (by omega)]
          rfl
        have hd0 : decide ((0 : Int) < ((0 : Nat) : Int)) = false := by decide
        have HOj : Hid (∀ j, (wr.drewN j).ownsRow w.heap.size 48 3 u3 0 []) := fun j => ⟨HO.out.1, HO.out.2⟩
        have HBj : Hid (∀ j, Below w.heap.size w (wr.drewN j)) := fun j => below_drewN HBl.out j
        clear hstep hz hkinds hll HO HBl
        go_wp2_with fail
        go_quiet (fail)
        go_wp2_with (at_builtin; refine wpList_append_own _ rfl (.tmp 44) (.tmp 55) 41 rfl w.heap.size 48 i0 (.agg #[.int .i64 0, .int .i64 0, .int .i64 0]) 3 24 Try.underlying41 hi hz0 hz1 hz2 rfl (by decide) _ _ _ rfl ((HOj.out _).alloc _) ⟨wr.heap.size, 0, none⟩ 1 1 [.int .i64 0, .int .i64 1, .int .i64 z] rfl rfl (news_three _ _ _ _ _) (oneCell_three _ _ _) (by unfold maxLen; omega) (by omega) (le_alloc _ (HBj.out _).size) ?_)
        intro v3 w3 hown3 hgrow3 _
        have HN : Hid (w3.ownsRow w.heap.size 48 3 v3 (rl x 1).length (valsA encW (rl x 1))) := by rw [HS.out]; exact hown3
        have HB3 : Hid (Below w.heap.size w w3) := ((HBj.out nq).alloc (HBj.out nq).size _).grown hgrow3 (le_alloc _ (HBj.out nq).size) (fun r hr => ((HOj.out nq).lt r hr).1)
        clear hown3 hgrow3
        go_wp2
        go_roundw
        case rel => exact ⟨1, by omega, by go_num, HN.out, HB3.out⟩
        case measure => simp [intOf]; omega
      · have hm0 : (0 : Int) < (m : Int) := by omega
        have hd0 : decide ((0 : Int) < (m : Int)) = true := by simpa using hm0
        have hd0' : decide (0 < m) = true := by rw [decide_eq_true_eq]; omega
        obtain ⟨s, hs⟩ : ∃ s : Nat, s = m - 1 := ⟨_, rfl⟩
        have hs1 : (s : Int) < (x.length : Int) := by omega
        have hs0 : (0 : Int) ≤ (s : Int) := by omega
        have hcs : wr.cell? ⟨h.b, s, none⟩ = some (.int .u8 (x.getD s 0)) := by
          refine (HBl.out.cell (p := ⟨h.b, s, none⟩) hlb).trans ?_
          rw [cell_block HB.out, List.getElem?_toArray, vals_get _ _ (by omega)]
        rw [← hs] at hstep
        obtain ⟨y, hy⟩ : ∃ y, y = x.getD s 0 := ⟨_, rfl⟩
        rw [← hy] at hcs hstep
        by_cases he : z = y
        · subst he
          rw [if_pos ⟨by omega, rfl⟩] at hstep
          rcases List.eq_nil_or_concat (rl x m) with e | ⟨M, ⟨p, c, q⟩, e⟩
          · exact absurd e (rl_ne (by omega))
          rw [List.concat_eq_append] at e
          obtain ⟨hgl, -, -⟩ := (rl_good x m).last (r := (p, c, q)) (by rw [e]; simp)
          rw [e, bump_snoc] at hstep
          rw [e, List.length_append, List.length_singleton] at hll
          have hO := HO.out
          rw [e, List.length_append, List.length_singleton] at hO
          obtain ⟨g, cap, rfl⟩ := ownsRow_succ hO
          obtain ⟨hg, hc1, hf1⟩ := own_cells hO
          simp only [] at hgl hstep
          have hob := own_bump hO (c + 1)
          obtain ⟨c1, hc1e⟩ : ∃ c1, c1 = c + 1 := ⟨_, rfl⟩
          obtain ⟨l, hle⟩ : ∃ l, l = M.length := ⟨_, rfl⟩
          obtain ⟨n1, hn1⟩ : ∃ n1, n1 = M.length + 1 := ⟨_, rfl⟩
          have HN : Hid (∀ j, ((wr.drewN j).setCell ⟨g, l * 3 + 1, none⟩ (.int .i64 (c1 : Int))).ownsRow w.heap.size 48 3 (.slice (some ⟨g, 0, none⟩) n1 cap) (rl x (m + 1)).length (valsA encW (rl x (m + 1)))) := fun j => by
            rw [hstep, List.length_append, List.length_singleton, hc1e, hle, hn1]
            exact ⟨hob.1, hob.2⟩
          have HBj : Hid (∀ j, Below w.heap.size w ((wr.drewN j).setCell ⟨g, l * 3 + 1, none⟩ (.int .i64 (c1 : Int)))) := fun j => (below_drewN HBl.out j).setCell hg _
          rw [← hle] at hc1 hf1
          have hnl : (l : Int) < (n1 : Int) := by omega
          have hl0 : (0 : Int) ≤ (l : Int) := by omega
          obtain ⟨hw1, hw2, hw3, hw4⟩ : IntKind.i64.wrap ((n1 : Int) - 1) = (l : Int) ∧ wrap64 ((n1 : Int) - 1) = (l : Int) ∧ wrap64 ((c : Int) + 1) = (c1 : Int) ∧ IntKind.i64.wrap ((m : Int) - 1) = (s : Int) := ⟨(wrap_id (by omega) (by omega)).trans (by omega), (IntWalk.wrap64_in _ (by omega)).trans (by omega), (IntWalk.wrap64_in _ (by omega)).trans (by omega), (wrap_id (by omega) (by omega)).trans (by omega)⟩
          have hu : Value.slice (some ⟨g, 0, none⟩) (M.length + 1) cap = .slice (some ⟨g, 0, none⟩) n1 cap := by rw [hn1]
          rw [hu]
          clear hu hO hob hstep hz hkinds hll HO HBl hs hy hgl hc1e hle hn1 e
          go_wp2_with fail
          go_quiet (fail)
          go_wp2
          go_roundw
          case rel => exact ⟨m + 1, by omega, by go_num, HN.out _, HBj.out _⟩
          case measure => simp [intOf]; omega
        · rw [if_neg (fun hh => he hh.2)] at hstep
          have hzy : (z == y) = false := by simpa using he
          have hk : (rl x m).length ≤ 1048576 := by omega
          obtain ⟨L, hL⟩ : ∃ L, L = rl x m := ⟨_, rfl⟩
          rw [← hL] at hstep hk
          have HOj : Hid (∀ j, (wr.drewN j).ownsRow w.heap.size 48 3 u3 L.length (valsA encW L)) := fun j => by rw [hL]; exact ⟨HO.out.1, HO.out.2⟩
          have HBj : Hid (∀ j, Below w.heap.size w (wr.drewN j)) := fun j => below_drewN HBl.out j
          have HS : Hid (rl x (m + 1) = L ++ [(m, 1, z)]) := hstep
          have hw4 : IntKind.i64.wrap ((m : Int) - 1) = (s : Int) := (wrap_id (by omega) (by omega)).trans (by omega)
          clear hstep hz hkinds hll HO HBl hs hy hL
          go_wp2_with fail
          go_quiet (fail)
          go_wp2_with (at_builtin; refine wpList_append_own _ rfl (.tmp 44) (.tmp 55) 41 rfl w.heap.size 48 i0 (.agg #[.int .i64 0, .int .i64 0, .int .i64 0]) 3 24 Try.underlying41 hi hz0 hz1 hz2 rfl (by decide) _ _ _ rfl ((HOj.out _).alloc _) ⟨wr.heap.size, 0, none⟩ 1 1 [.int .i64 (m : Int), .int .i64 1, .int .i64 z] rfl rfl (news_three _ _ _ _ _) (oneCell_three _ _ _) (by unfold maxLen; omega) (by omega) (le_alloc _ (HBj.out _).size) ?_)
          intro v3 w3 hown3 hgrow3 _
          have HN : Hid (w3.ownsRow w.heap.size 48 3 v3 (rl x (m + 1)).length (valsA encW (rl x (m + 1)))) := by
            rw [HS.out, List.length_append, valsA_snoc]
            exact hown3
          have HB3 : Hid (Below w.heap.size w w3) := ((HBj.out nq).alloc (HBj.out nq).size _).grown hgrow3 (le_alloc _ (HBj.out nq).size) (fun r hr => ((HOj.out nq).lt r hr).1)
          clear hown3 hgrow3
          go_wp2
          go_roundw
          case rel => exact ⟨m + 1, by omega, by go_num, HN.out, HB3.out⟩
          case measure => simp [intOf]; omega
    · obtain rfl : m = x.length := by omega
      go_wp2
      go_ret
      exact ⟨_, rfl, arow_of_owns (k := 3) (enc := encW) (fun _ => rfl) _ HO.out rfl, HBl.out⟩
end Go.Proofs.Ytnpnigeghhcncaa.Wat
