/- Contracts of chance: the checks, cut, round. -/
import Derived.Test.YthokagcjbaibfaaRows
import Derived.Test.YthokagcjbaibfaaChaM
namespace Go.Proofs.Ythokagcjbaibfaa.Cha
open Go.RowKit
set_option linter.unusedVariables false

/-- What is wrong with a ring of n elements, and a place. -/
def ck (n : Nat) (x : Int) : Int := if n = 0 then 2 else if x < 0 ∨ (n : Int) ≤ x then 6 else 0
/-- What is wrong with what is told. -/
def ckU (n m : Nat) (x : Int) : Int := if n = m then ck n x else 2
theorem ck_ok {n : Nat} {x : Int} (h : ck n x = 0) : 0 < n ∧ 0 ≤ x ∧ x < n := by
  unfold ck at h
  split at h
  · cases h
  · split at h
    · cases h
    · omega
theorem ckU_ok {n m : Nat} {x : Int} (h : ckU n m x = 0) : n = m ∧ 0 < n ∧ 0 ≤ x ∧ x < n := by
  unfold ckU at h
  split at h
  · exact ⟨by assumption, ck_ok h⟩
  · cases h

set_option maxRecDepth 100000 in
theorem checkRing_any (n : Nat) (x : Int) (w : World) (hn : n ≤ 1000000) :
    Calls Try.prog 27 #[.int .i64 (n : Int), .int .i64 x] w fun e w' => e = .returned (.int .i64 (ck n x)) ∧ w = w' := by
  by_cases h0 : n = 0
  · have E := Lib.hid (show ck n x = 2 by simp [ck, h0])
    have h1 : (n : Int) = 0 := by omega
    clear h0
    go_enter Try.func27, Try.ntmps27
    go_wp2
    go_ret
    exact ⟨ret_int E.out.symm, rfl⟩
  · have h1 : ¬ (n : Int) = 0 := by omega
    by_cases h2 : x < 0
    · have E := Lib.hid (show ck n x = 6 by simp [ck, h0, h2])
      clear h0
      go_enter Try.func27, Try.ntmps27
      go_wp2
      go_ret
      exact ⟨ret_int E.out.symm, rfl⟩
    · by_cases h3 : (n : Int) ≤ x
      · have E := Lib.hid (show ck n x = 6 by simp [ck, h0, h3])
        clear h0
        go_enter Try.func27, Try.ntmps27
        go_wp2
        go_ret
        exact ⟨ret_int E.out.symm, rfl⟩
      · have E := Lib.hid (show ck n x = 0 by simp [ck, h0, h2, h3])
        clear h0
        go_enter Try.func27, Try.ntmps27
        go_wp2
        go_ret
        exact ⟨ret_int E.out.symm, rfl⟩

theorem check_len (a a2 : Option Addr) (n m c c2 : Nat) (x : Int) (w : World) (hn : n ≤ 1000000) :
    Calls Try.prog 19 #[.slice a n c, .slice a2 m c2, .int .i64 x] w fun e w' => e = .returned (.int .i64 (ckU n m x)) ∧ w = w' := by
  by_cases h0 : n = m
  · subst h0
    have E := Lib.hid (show ckU n n x = ck n x by simp [ckU])
    have HC := Lib.hid (fun W => checkRing_any n x W hn)
    go_enter Try.func19, Try.ntmps19
    go_wp2_with (go_at_call 27; refine (HC.out _).mono ?_; rintro e w' ⟨rfl, rfl⟩)
    go_ret
    exact ⟨ret_int E.out.symm, rfl⟩
  · have E := Lib.hid (show ckU n m x = 2 by simp [ckU, h0])
    have h1 : ¬ (n : Int) = (m : Int) := by omega
    clear h0
    go_enter Try.func19, Try.ntmps19
    go_wp2
    go_ret
    exact ⟨ret_int E.out.symm, rfl⟩
theorem check_any (u v : Value) (U V : List Bool) (x : Int) (w : World) (hu : BRow w u U) (hv : BRow w v V) (hn : U.length ≤ 1000000) :
    Calls Try.prog 19 #[u, v, .int .i64 x] w fun e w' => e = .returned (.int .i64 (ckU U.length V.length x)) ∧ w = w' := by
  obtain ⟨a, c, rfl, -, -, -⟩ := hu
  obtain ⟨a2, c2, rfl, -, -, -⟩ := hv
  exact check_len a a2 _ _ c c2 x w hn

theorem may_len (a a2 : Option Addr) (n m c c2 : Nat) (x : Int) (w : World) :
    Calls Try.prog 21 #[.slice a n c, .slice a2 m c2, .int .i64 x] w fun e w' => e = .returned (.int .i64 (ckU n m x)) ∧ w = w' := by
  by_cases h0 : n = 0
  · have E := Lib.hid (show ckU n m x = 2 by simp [ckU, ck, h0])
    have h1 : (n : Int) = 0 := by omega
    clear h0
    go_enter Try.func21, Try.ntmps21
    go_wp2
    go_ret
    exact ⟨ret_int E.out.symm, rfl⟩
  · have h1 : ¬ (n : Int) = 0 := by omega
    by_cases h4 : n = m
    · subst h4
      by_cases h2 : x < 0
      · have E := Lib.hid (show ckU n n x = 6 by simp [ckU, ck, h0, h2])
        clear h0
        go_enter Try.func21, Try.ntmps21
        go_wp2
        go_ret
        exact ⟨ret_int E.out.symm, rfl⟩
      · by_cases h3 : (n : Int) ≤ x
        · have E := Lib.hid (show ckU n n x = 6 by simp [ckU, ck, h0, h3])
          clear h0
          go_enter Try.func21, Try.ntmps21
          go_wp2
          go_ret
          exact ⟨ret_int E.out.symm, rfl⟩
        · have E := Lib.hid (show ckU n n x = 0 by simp [ckU, ck, h0, h2, h3])
          clear h0
          go_enter Try.func21, Try.ntmps21
          go_wp2
          go_ret
          exact ⟨ret_int E.out.symm, rfl⟩
    · have E := Lib.hid (show ckU n m x = 2 by simp [ckU, h4])
      have h5 : ((n : Int) != (m : Int)) = true := by simp; omega
      have h6 : ((n : Int) == 0) = false := by simp; omega
      clear h4 h0
      go_enter Try.func21, Try.ntmps21
      go_wp2
      go_ret
      exact ⟨ret_int E.out.symm, rfl⟩
theorem may_any (u v : Value) (U V : List Bool) (x : Int) (w : World) (hu : BRow w u U) (hv : BRow w v V) :
    Calls Try.prog 21 #[u, v, .int .i64 x] w fun e w' => e = .returned (.int .i64 (ckU U.length V.length x)) ∧ w = w' := by
  obtain ⟨a, c, rfl, -, -, -⟩ := hu
  obtain ⟨a2, c2, rfl, -, -, -⟩ := hv
  exact may_len a a2 _ _ c c2 x w

theorem infoI64 : (Try.prog.info? 3).map (fun i => (i.zero, i.size, i.bytes)) = some (some (.int .i64 0), 1, 8) := by kernel_rfl
theorem infoBool : (Try.prog.info? 4).map (fun i => (i.zero, i.size, i.bytes)) = some (some (.bool false), 1, 1) := by kernel_rfl

/-- What the append in cut comes to, of bools. -/
theorem cut_runB (v : Value) (l : List Bool) (k : Nat) (w : World) (hr : BRow w v l) (hk : k ≤ l.length) (h0 : 0 < l.length) (hn : l.length ≤ 1000000) (ty : TypeId) :
    ∃ b off c v' w', v = .slice (some ⟨b, off, none⟩) l.length c ∧ l.length ≤ c ∧
      (Builtin.append_ #[22, 22] ty #[.slice (some (if l.length = k then ⟨b, off, none⟩ else ⟨b, off + k, none⟩)) (l.length - k) (l.length - k), .slice (some ⟨b, off, none⟩) k k]).run Try.prog w = .ok v' w' ∧
      Below w.heap.size w w' ∧ BRow w' v' (l.drop k ++ l.take k) := by
  obtain ⟨i0, hi, hz0, hz1, hz2⟩ := info_parts infoBool
  obtain ⟨a, c, rfl, q2, q3, q5⟩ := id hr
  obtain ⟨b, off, rfl, hlt, hc⟩ := q5 (by rintro rfl; simp at h0)
  have hcell : ∀ i, i < l.length → w.cell? ⟨b, off + i, none⟩ = some (.bool (l.getD i false)) := hc
  have htk : ∀ j u, (valsB (l.take k))[j]? = some u → w.cell? ((⟨b, off, none⟩ : Addr).add j) = some u := by
    intro j u hj
    have hj2 := (List.getElem?_eq_some_iff.1 hj).1
    rw [valsB_length, List.length_take] at hj2
    rw [valsB_get _ _ (by rw [List.length_take]; omega)] at hj
    rw [Addr_add, hc j (by omega), ← hj]
    simp [List.getD, show j < k by omega]
  have hdr : ∀ j u, (valsB (l.drop k))[j]? = some u → w.cell? ((if l.length = k then (⟨b, off, none⟩ : Addr) else ⟨b, off + k, none⟩).add j) = some u := by
    intro j u hj
    have hj2 := (List.getElem?_eq_some_iff.1 hj).1
    rw [valsB_length, List.length_drop] at hj2
    rw [valsB_get _ _ (by rw [List.length_drop]; omega)] at hj
    rw [if_neg (by omega), Addr_add, show off + k + j = off + (k + j) by omega, hc (k + j) (by omega), ← hj]
    simp [List.getD]
  by_cases hz : k = 0
  · subst hz
    refine ⟨b, off, c, _, w, rfl, q2, run_append_zero _ ty _ i0 Try.underlying22 hi _ _ _ (Nat.le_refl _) _ _, Below.refl _ _, ?_⟩
    rw [if_neg (by omega), List.drop_zero, List.take_zero, List.append_nil, Nat.sub_zero, Nat.add_zero]
    exact ⟨_, l.length, rfl, Nat.le_refl _, by omega, fun _ => ⟨b, off, rfl, hlt, hc⟩⟩
  · obtain ⟨v', w', hrun, r1, r2⟩ := run_append_arg_grows (P := Try.prog) w 22 ty 4 i0 (.bool false) 1 1 Try.underlying22 hi hz0 hz1 hz2 rfl (by decide)
      (if l.length = k then ⟨b, off, none⟩ else ⟨b, off + k, none⟩) (l.length - k) (l.length - k) (valsB (l.drop k)) (by simp [valsB]) hdr ⟨b, off, none⟩ k k (valsB (l.take k)) (by simp [valsB]; omega) htk (by omega) (maxLen_of (by omega)) (by omega)
    refine ⟨b, off, c, v', w', rfl, q2, hrun, (Below.refl _ _).grown r2 (Nat.le_refl _) (fun r hr => by cases hr), ?_⟩
    rw [← valsB_app] at r1
    exact brow_of_owns r1 (by simp; omega)

set_option maxRecDepth 100000 in
theorem cutB_any (v : Value) (l : List Bool) (k : Nat) (w : World) (hr : BRow w v l) (hk : k ≤ l.length) (h0 : 0 < l.length) (hn : l.length ≤ 1000000) :
    Calls Try.prog 20 #[v, .int .i64 (k : Int)] w fun e w' => ∃ u, e = .returned u ∧ Below w.heap.size w w' ∧ BRow w' u (l.drop k ++ l.take k) := by
  obtain ⟨b, off, c, v', w', rfl, hc, hrun, hb, hR⟩ := cut_runB v l k w.drew (hr.mono (Below.refl _ _).drew (Nat.le_refl _)) hk h0 hn 22
  have HB : Hid (Below w.heap.size w w') := by
    have := (Below.refl w.heap.size w).drew.trans hb
    exact this
  have HR := Lib.hid hR
  clear hb hR hr
  obtain ⟨n, hnn⟩ : ∃ n, n = l.length := ⟨_, rfl⟩
  rw [← hnn] at hc hrun hk h0 hn ⊢
  clear hnn
  have k1 : (k : Int) ≤ (n : Int) := by omega
  have k2 : (0 : Int) ≤ (k : Int) := by omega
  have k3 : (n : Int) ≤ (c : Int) := by omega
  have k4 : (k : Int) ≤ (c : Int) := by omega
  by_cases hkn : n = k
  · subst hkn
    rw [if_pos rfl, Nat.sub_self] at hrun
    have HRun := Lib.hid hrun
    clear hrun
    go_enter Try.func20, Try.ntmps20
    go_wp2_with fail
    go_region_law (refine step_append_run rfl (.tmp 11) (.tmp 15) 22 22 rfl rfl _ _ _ _ (by simp [Act.eval, Act.put]) (by simp [Act.eval, Act.put]) HRun.out ?_)
    go_wp2
    go_ret
    exact ⟨_, rfl, HB.out, HR.out⟩
  · have hkn2 : ¬ k = n := by omega
    rw [if_neg hkn] at hrun
    have HRun := Lib.hid hrun
    clear hrun
    go_enter Try.func20, Try.ntmps20
    go_wp2_with fail
    go_region_law (refine step_append_run rfl (.tmp 11) (.tmp 15) 22 22 rfl rfl _ _ _ _ (by simp [Act.eval, Act.put]) (by simp [Act.eval, Act.put]) HRun.out ?_)
    go_wp2
    go_ret
    exact ⟨_, rfl, HB.out, HR.out⟩
/-- What the append in cut comes to, of numbers. -/
theorem cut_run64 (v : Value) (l : List Int) (k : Nat) (w : World) (hr : Row .i64 w v l) (hk : k ≤ l.length) (h0 : 0 < l.length) (hn : l.length ≤ 1000000) (ty : TypeId) :
    ∃ b off c v' w', v = .slice (some ⟨b, off, none⟩) l.length c ∧ l.length ≤ c ∧
      (Builtin.append_ #[32, 32] ty #[.slice (some (if l.length = k then ⟨b, off, none⟩ else ⟨b, off + k, none⟩)) (l.length - k) (l.length - k), .slice (some ⟨b, off, none⟩) k k]).run Try.prog w = .ok v' w' ∧
      Below w.heap.size w w' ∧ Row .i64 w' v' (l.drop k ++ l.take k) := by
  obtain ⟨i0, hi, hz0, hz1, hz2⟩ := info_parts infoI64
  obtain ⟨a, c, rfl, q2, q3, q4, q5⟩ := id hr
  obtain ⟨b, off, rfl, hlt, hc⟩ := q5 (by rintro rfl; simp at h0)
  have hcell : ∀ i, i < l.length → w.cell? ⟨b, off + i, none⟩ = some (.int .i64 (l.getD i 0)) := hc
  have htk : ∀ j u, (vals64 (l.take k))[j]? = some u → w.cell? ((⟨b, off, none⟩ : Addr).add j) = some u := by
    intro j u hj
    have hj2 := (List.getElem?_eq_some_iff.1 hj).1
    rw [vals64_length, List.length_take] at hj2
    rw [vals64_get _ _ (by rw [List.length_take]; omega)] at hj
    rw [Addr_add, hc j (by omega), ← hj]
    simp [List.getD, show j < k by omega]
  have hdr : ∀ j u, (vals64 (l.drop k))[j]? = some u → w.cell? ((if l.length = k then (⟨b, off, none⟩ : Addr) else ⟨b, off + k, none⟩).add j) = some u := by
    intro j u hj
    have hj2 := (List.getElem?_eq_some_iff.1 hj).1
    rw [vals64_length, List.length_drop] at hj2
    rw [vals64_get _ _ (by rw [List.length_drop]; omega)] at hj
    rw [if_neg (by omega), Addr_add, show off + k + j = off + (k + j) by omega, hc (k + j) (by omega), ← hj]
    simp [List.getD]
  by_cases hz : k = 0
  · subst hz
    refine ⟨b, off, c, _, w, rfl, q2, run_append_zero _ ty _ i0 Try.underlying32 hi _ _ _ (Nat.le_refl _) _ _, Below.refl _ _, ?_⟩
    rw [if_neg (by omega), List.drop_zero, List.take_zero, List.append_nil, Nat.sub_zero, Nat.add_zero]
    exact ⟨_, l.length, rfl, Nat.le_refl _, by omega, q4, fun _ => ⟨b, off, rfl, hlt, hc⟩⟩
  · obtain ⟨v', w', hrun, r1, r2⟩ := run_append_arg_grows (P := Try.prog) w 32 ty 3 i0 (.int .i64 0) 1 8 Try.underlying32 hi hz0 hz1 hz2 rfl (by decide)
      (if l.length = k then ⟨b, off, none⟩ else ⟨b, off + k, none⟩) (l.length - k) (l.length - k) (vals64 (l.drop k)) (by simp [vals64]) hdr ⟨b, off, none⟩ k k (vals64 (l.take k)) (by simp [vals64]; omega) htk (by omega) (maxLen_of (by omega)) (by omega)
    refine ⟨b, off, c, v', w', rfl, q2, hrun, (Below.refl _ _).grown r2 (Nat.le_refl _) (fun r hr => by cases hr), ?_⟩
    rw [← vals64_app] at r1
    refine row64_of_owns r1 (by simp; omega) (fun i hi => ?_)
    have h2 : (l.drop k ++ l.take k).getD i 0 ∈ l := by
      simp only [List.getD, List.getElem?_eq_getElem hi, Option.getD_some]
      have := List.getElem_mem hi
      rw [List.mem_append] at this
      rcases this with h | h
      · exact List.mem_of_mem_drop h
      · exact List.mem_of_mem_take h
    obtain ⟨i2, hi2, e⟩ := List.getElem_of_mem h2
    rw [← e]
    have := q4 i2 hi2
    simpa [List.getD, hi2] using this

set_option maxRecDepth 100000 in
theorem cut64_any (v : Value) (l : List Int) (k : Nat) (w : World) (hr : Row .i64 w v l) (hk : k ≤ l.length) (h0 : 0 < l.length) (hn : l.length ≤ 1000000) :
    Calls Try.prog 29 #[v, .int .i64 (k : Int)] w fun e w' => ∃ u, e = .returned u ∧ Below w.heap.size w w' ∧ Row .i64 w' u (l.drop k ++ l.take k) := by
  obtain ⟨b, off, c, v', w', rfl, hc, hrun, hb, hR⟩ := cut_run64 v l k w.drew (hr.mono (Below.refl _ _).drew (Nat.le_refl _)) hk h0 hn 32
  have HB : Hid (Below w.heap.size w w') := by
    have := (Below.refl w.heap.size w).drew.trans hb
    exact this
  have HR := Lib.hid hR
  clear hb hR hr
  obtain ⟨n, hnn⟩ : ∃ n, n = l.length := ⟨_, rfl⟩
  rw [← hnn] at hc hrun hk h0 hn ⊢
  clear hnn
  have k1 : (k : Int) ≤ (n : Int) := by omega
  have k2 : (0 : Int) ≤ (k : Int) := by omega
  have k3 : (n : Int) ≤ (c : Int) := by omega
  have k4 : (k : Int) ≤ (c : Int) := by omega
  by_cases hkn : n = k
  · subst hkn
    rw [if_pos rfl, Nat.sub_self] at hrun
    have HRun := Lib.hid hrun
    clear hrun
    go_enter Try.func29, Try.ntmps29
    go_wp2_with fail
    go_region_law (refine step_append_run rfl (.tmp 11) (.tmp 15) 32 32 rfl rfl _ _ _ _ (by simp [Act.eval, Act.put]) (by simp [Act.eval, Act.put]) HRun.out ?_)
    go_wp2
    go_ret
    exact ⟨_, rfl, HB.out, HR.out⟩
  · have hkn2 : ¬ k = n := by omega
    rw [if_neg hkn] at hrun
    have HRun := Lib.hid hrun
    clear hrun
    go_enter Try.func29, Try.ntmps29
    go_wp2_with fail
    go_region_law (refine step_append_run rfl (.tmp 11) (.tmp 15) 32 32 rfl rfl _ _ _ _ (by simp [Act.eval, Act.put]) (by simp [Act.eval, Act.put]) HRun.out ?_)
    go_wp2
    go_ret
    exact ⟨_, rfl, HB.out, HR.out⟩
end Go.Proofs.Ythokagcjbaibfaa.Cha
