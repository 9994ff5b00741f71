/- Contracts of the document's chance: Same, Next, Turns. -/
import Derived.Test.YthokagcjbaibfaaChaC
import Derived.Deep.LoopGhost
namespace Go.Proofs.Ythokagcjbaibfaa.Cha
open Go.RowKit
set_option linter.unusedVariables false

set_option maxRecDepth 100000 in
theorem same64_any (u v : Value) (B : List Int) (w : World) (hu : Row .i64 w u B) (hv : Row .i64 w v B) :
    Calls Try.prog 16 #[u, v] w fun e w' => e = .returned (.bool true) ∧ Below w.heap.size w w' := by
  have HU := Lib.hid hu
  have HV := Lib.hid hv
  obtain ⟨a1, c1, rfl, g1, h1, -, -⟩ := hu
  obtain ⟨a2, c2, rfl, g2, h2, -, -⟩ := hv
  have h3 : B.length ≤ 9223372036854775807 := by omega
  clear g1 g2 h1 h2
  go_enter Try.func16, Try.ntmps16
  go_wp2_with fail
  go_loopw [5] (fun i wr => ∃ k : Nat, k ≤ B.length ∧ i = .int .i64 k ∧ Hid (Below w.heap.size w wr)) (fun i _ => B.length - (intOf i).toNat)
  case atStart => exact ⟨0, Nat.zero_le _, rfl, Below.refl _ _⟩
  case round =>
    obtain ⟨k, hk, rfl, HB⟩ := hrel
    by_cases hlt : k < B.length
    · have hlt1 : (k : Int) < (B.length : Int) := by omega
      have hlt2 : (0 : Int) ≤ (k : Int) := by omega
      obtain ⟨a1', c1', e1, -, -, -, r1⟩ := HU.out.mono HB.out (Nat.le_refl _)
      obtain ⟨a2', c2', e2, -, -, -, r2⟩ := HV.out.mono HB.out (Nat.le_refl _)
      injection e1 with e1 e1' e1''
      injection e2 with e2 e2' e2''
      subst e1 e2
      clear e1' e1'' e2' e2''
      obtain ⟨b1, o1, rfl, l1, k1⟩ := r1 (by rintro rfl; simp at hlt)
      obtain ⟨b2, o2, rfl, l2, k2⟩ := r2 (by rintro rfl; simp at hlt)
      have z1 := k1 k hlt
      have z2 := k2 k hlt
      clear k1 k2 r1 r2
      go_wp2_with fail
      go_quiet (fail)
      have HB2 : Hid (Below w.heap.size w (wr.drewN nq)) := below_drewN HB.out nq
      go_wp2
      go_roundw
      case rel => exact ⟨k + 1, by omega, by go_num, HB2⟩
      case measure => simp [intOf]; omega
    · obtain rfl : k = B.length := by omega
      go_wp2
      go_ret
      exact ⟨rfl, HB.out⟩
set_option maxRecDepth 100000 in
theorem sameB_any (u v : Value) (B : List Bool) (w : World) (hu : BRow w u B) (hv : BRow w v B) :
    Calls Try.prog 11 #[u, v] w fun e w' => e = .returned (.bool true) ∧ Below w.heap.size w w' := by
  have HU := Lib.hid hu
  have HV := Lib.hid hv
  obtain ⟨a1, c1, rfl, g1, h1, -⟩ := hu
  obtain ⟨a2, c2, rfl, g2, h2, -⟩ := hv
  have h3 : B.length ≤ 9223372036854775807 := by omega
  clear g1 g2 h1 h2
  go_enter Try.func11, Try.ntmps11
  go_wp2_with fail
  go_loopw [5] (fun i wr => ∃ k : Nat, k ≤ B.length ∧ i = .int .i64 k ∧ Hid (Below w.heap.size w wr)) (fun i _ => B.length - (intOf i).toNat)
  case atStart => exact ⟨0, Nat.zero_le _, rfl, Below.refl _ _⟩
  case round =>
    obtain ⟨k, hk, rfl, HB⟩ := hrel
    by_cases hlt : k < B.length
    · have hlt1 : (k : Int) < (B.length : Int) := by omega
      have hlt2 : (0 : Int) ≤ (k : Int) := by omega
      obtain ⟨a1', c1', e1, -, -, r1⟩ := HU.out.mono HB.out (Nat.le_refl _)
      obtain ⟨a2', c2', e2, -, -, r2⟩ := HV.out.mono HB.out (Nat.le_refl _)
      injection e1 with e1 e1' e1''
      injection e2 with e2 e2' e2''
      subst e1 e2
      clear e1' e1'' e2' e2''
      obtain ⟨b1, o1, rfl, l1, k1⟩ := r1 (by rintro rfl; simp at hlt)
      obtain ⟨b2, o2, rfl, l2, k2⟩ := r2 (by rintro rfl; simp at hlt)
      have z1 := k1 k hlt
      have z2 := k2 k hlt
      clear k1 k2 r1 r2
      go_wp2_with fail
      go_quiet (fail)
      have HB2 : Hid (Below w.heap.size w (wr.drewN nq)) := below_drewN HB.out nq
      go_wp2
      go_roundw
      case rel => exact ⟨k + 1, by omega, by go_num, HB2⟩
      case measure => simp [intOf]; omega
    · obtain rfl : k = B.length := by omega
      go_wp2
      go_ret
      exact ⟨rfl, HB.out⟩

theorem el_step {n h t : Nat} (hn : 0 < n) : Int.tmod (((el n h t + 1 : Nat)) : Int) (n : Int) = ((el n h (t + 1) : Nat) : Int) := by
  rw [Int.tmod_eq_emod_of_nonneg (by omega), el_succ]; rfl
theorem tst {U V : List Bool} {h t : Nat} (hh : h < U.length) (ht : t ≤ trn U V h) : ((aft U h t).getD (el U.length h t) false && !V.getD (el U.length h t) false) = decide (t < trn U V h) := by
  have hl := trn_le U V h
  by_cases h1 : t < trn U V h
  · have := trn_before h1
    have h2 := (aft_test (V := V) hh (by omega)).2 this
    rw [h2]; simp [h1]
  · obtain rfl : t = trn U V h := by omega
    by_cases h2 : trn U V h < U.length
    · have h3 := trn_at h2
      have h4 := aft_test (V := V) hh h2
      rw [h3] at h4
      simp at h4 ⊢
      exact h4
    · have e : trn U V h = U.length := by omega
      rw [e, aft_last hh]
      simp

set_option maxRecDepth 100000 in
theorem refNext_bad (u v : Value) (U V : List Bool) (x : Int) (w : World) (hu : BRow w u U) (hv : BRow w v V) (hb : ¬ ckU U.length V.length x = 0) :
    Calls Try.prog 10 #[u, v, .int .i64 x] w fun e w' => e = .returned (.tuple #[.int .i64 0, .slice none 0 0, .int .i64 (ckU U.length V.length x)]) ∧ w = w' := by
  have HC := Lib.hid (may_any u v U V x w hu hv)
  obtain ⟨a, c, rfl, -, -, -⟩ := hu
  obtain ⟨a2, c2, rfl, -, -, -⟩ := hv
  obtain ⟨n, hn⟩ : ∃ n, n = U.length := ⟨_, rfl⟩
  obtain ⟨m, hm⟩ : ∃ m, m = V.length := ⟨_, rfl⟩
  rw [← hn, ← hm] at HC hb ⊢
  obtain ⟨z, hz⟩ : ∃ z, z = ckU n m x := ⟨_, rfl⟩
  rw [← hz] at HC hb ⊢
  have hz2 : (z != 0) = true := by simp [hb]
  have hz3 : (z == 0) = false := by simp [hb]
  clear hn hm hz hb
  go_enter Try.func10, Try.ntmps10
  go_wp2_with (go_at_call 21; refine HC.out.mono ?_; rintro e w' ⟨rfl, rfl⟩)
  go_ret3
  exact ⟨rfl, rfl⟩

/-- append([]bool{}, used...): a row of the call's own. -/
theorem clone_run (u : Value) (U : List Bool) (w : World) (hu : BRow w u U) (hn : U.length ≤ 1000) (h0 : 0 < U.length) :
    ∃ g cap w', (Builtin.append_ #[22, 22] 22 #[.slice (some ⟨w.heap.size, 0, none⟩) 0 0, u]).run Try.prog (w.alloc (.cells #[] 4)) = .ok (.slice (some ⟨g, 0, none⟩) U.length cap) w' ∧
      U.length ≤ cap ∧ cap ≤ 9223372036854775807 ∧ w.heap.size ≤ g ∧ Below w.heap.size w w' ∧ CA w' g U.length (fun i => .bool (U.getD i false)) := by
  obtain ⟨i0, hi, hz0, hz1, hz2⟩ := info_parts infoBool
  obtain ⟨v', w', h1, h2, h3, h4⟩ := run_append_bools (P := Try.prog) (w.alloc (.cells #[] 4)) w.heap.size 22 22 4 i0 (.bool false) Try.underlying22 hi hz0 hz1 hz2 rfl _ 0 [] (own_emptyB w 4) (by simp) u U (hu.mono (below_made _ _) (Nat.le_refl _)) (by omega) (by simp)
  rw [List.nil_append, Nat.zero_add] at h2
  have h5 : w'.ownsRow w.heap.size 4 1 v' (valsB U).length (valsB U) := by rw [valsB_length]; exact h2
  obtain ⟨g, cap, rfl, q1, q2, q3, q4⟩ := CA.own h5 h4
  rw [valsB_length] at h1 q1 q4
  refine ⟨g, cap, w', h1, q1, q2, q3, (below_made w _).grown h3 (by simp) (fun r hr => ?_), q4.ext (fun i hi => ?_)⟩
  · simp [Value.ownBlock] at hr; omega
  · have := valsB_get U i hi
    simp [List.getD, this]

set_option maxRecDepth 100000 in
set_option maxHeartbeats 1000000 in
theorem refNext_ok (u v : Value) (U V : List Bool) (h : Nat) (w : World) (hu : BRow w u U) (hv : BRow w v V) (hn : U.length ≤ 1000) (hl : U.length = V.length) (hh : h < U.length) :
    Calls Try.prog 10 #[u, v, .int .i64 (h : Int)] w fun e w' => ∃ y, e = .returned (.tuple #[.int .i64 (el U.length h (trn U V h) : Int), y, .int .i64 0]) ∧ Below w.heap.size w w' ∧ BRow w' y (aft U h (trn U V h)) := by
  obtain ⟨i0, hi, hz0, hz1, hz2⟩ := info_parts infoBool
  have hck : ckU U.length V.length (h : Int) = 0 := by rw [ckU, if_pos hl, ck, if_neg (by omega), if_neg (by omega)]
  have HC := Lib.hid (may_any u v U V h w hu hv)
  rw [hck] at HC
  obtain ⟨g, cap, w1, hrun, q1, q2, q3, hb1, hca⟩ := clone_run u U w hu hn (by omega)
  have hT := trn_le U V h
  have HTst := Lib.hid (fun t (ht : t ≤ trn U V h) => tst (V := V) hh ht)
  have HEl := Lib.hid (fun t => el_step (n := U.length) (h := h) (t := t) (by omega))
  have HEb := Lib.hid (fun t => el_lt (n := U.length) (h := h) (p := t) (by omega))
  have HSc := Lib.hid (fun t (ht : t < U.length) => aft_succ (U := U) hh ht)
  have HAl := Lib.hid (aft_length U h)
  have HE0 := Lib.hid (el_zero hh)
  have HA0 := Lib.hid (aft_zero U h)
  obtain ⟨a, c, rfl, hc1, hc2, -⟩ := id hu
  obtain ⟨b2, o2, c2, rfl, hc3, hc4, hlt2, hv2⟩ := brow_open hv (by omega)
  have HV := Lib.hid hv2
  have HRun := Lib.hid hrun
  have HB1 := Lib.hid hb1
  have HCA := Lib.hid hca
  have HL := Lib.hid hl
  clear hck hu hv hv2 hrun hb1 hca
  obtain ⟨T, hT2⟩ : ∃ T, T = trn U V h := ⟨_, rfl⟩
  rw [← hT2] at HTst hT ⊢
  obtain ⟨n, hN⟩ : ∃ n, n = U.length := ⟨_, rfl⟩
  obtain ⟨m, hM⟩ : ∃ m, m = V.length := ⟨_, rfl⟩
  rw [← hN] at HC HTst HEl HEb HSc HAl HE0 HRun HCA hT hh hn q1 HL ⊢
  rw [← hM] at HC HV hc3 HL ⊢
  have k1 : (n : Int) ≤ (cap : Int) := by omega
  have k2 : ¬ n = 0 := by omega
  have k3 : (m : Int) ≤ (c2 : Int) := by omega
  clear hT2 hN hM hl hc1
  go_enter Try.func10, Try.ntmps10
  go_wp2_with (first
    | (go_at_call 21; refine HC.out.mono ?_; rintro e w' ⟨rfl, rfl⟩)
    | (at_builtin; refine wpList_append_run rfl (.tmp 18) (.tmp 19) 22 22 rfl rfl _ _ _ _ rfl rfl HRun.out ?_))
  go_loopg [2] n (fun k x wr => ∃ t : Nat, k = n - t ∧ t ≤ T ∧ x = .int .i64 (el n h t : Int) ∧ Hid (CA wr g n (fun i => .bool ((aft U h t).getD i false))) ∧ Hid (Below w.heap.size w wr))
  case atStart => exact ⟨0, by omega, Nat.zero_le _, by rw [HE0.out], by rw [HA0.out]; exact HCA.out, HB1.out⟩
  case round =>
    obtain ⟨t, hgk, ht, rfl, HS, HB⟩ := hrel
    have hx := HTst.out t ht
    have e1 := HEb.out t
    have e2 := HEl.out t
    have c1 : wr.cell? ⟨g, el n h t, none⟩ = some (.bool ((aft U h t).getD (el n h t) false)) := (HS.out.2 (el n h t) e1).1
    have f1 := (HS.out.2 (el n h t) e1).2
    have c3 := HB.out.cell (p := ⟨b2, o2 + el n h t, none⟩) hlt2 |>.trans (HV.out (el n h t) (by have := HL.out; omega))
    have HX := Lib.hid hgk
    obtain ⟨y, hy⟩ : ∃ y, y = el n h (t + 1) := ⟨_, rfl⟩
    rw [← hy] at e2
    have HY := Lib.hid hy
    obtain ⟨x, hx2⟩ : ∃ x, x = el n h t := ⟨_, rfl⟩
    rw [← hx2] at hx e1 e2 c1 f1 c3 ⊢
    have HXe := Lib.hid hx2
    obtain ⟨p, hp⟩ : ∃ p, p = (aft U h t).getD x false := ⟨_, rfl⟩
    obtain ⟨q, hq⟩ : ∃ q, q = V.getD x false := ⟨_, rfl⟩
    rw [← hp] at hx c1
    rw [← hq] at hx c3
    have i1 : (x : Int) < (n : Int) := by omega
    have i2 : (0 : Int) ≤ (x : Int) := by omega
    have i3 : (x : Int) < (m : Int) := by have := HL.out; omega
    obtain ⟨s, hs⟩ : ∃ s, s = x + 1 := ⟨_, rfl⟩
    rw [← hs] at e2
    have i4 : IntKind.i64.wrap ((x : Int) + 1) = (s : Int) := (wrap_in (by omega) (by omega)).trans (by omega)
    clear hgk hy hx2 hp hq hs
    by_cases hlt : t < T
    · have hx3 : (p && !q) = true := by rw [hx]; simp [hlt]
      have HP : p = true ∧ q = false := by simpa using hx3
      obtain ⟨rfl, rfl⟩ := HP
      have HTn : Hid (t < n) := by unfold Hid; omega
      have HSet : Hid (CA (wr.setCell ⟨g, x, none⟩ (.bool false)) g n (fun i => .bool ((aft U h (t + 1)).getD i false))) := by
        refine (HS.out.set x e1 _).ext (fun i hi => ?_)
        rw [← HSc.out t HTn.out, ← HXe.out]
        by_cases e : i = x
        · subst e; rw [if_pos rfl]; simp [List.getD, HAl.out t, hi]
        · rw [if_neg e]; congr 1; simp [List.getD, List.getElem?_set, show x ≠ i from fun h => e h.symm]
      have HBs : Hid (Below w.heap.size w (wr.setCell ⟨g, x, none⟩ (.bool false))) := HB.out.setCell q3 _
      clear hx hx3
      go_wp2
      go_roundg (n - (t + 1))
      case measure => have := HX.out; have := HTn.out; omega
      case rel => exact ⟨t + 1, rfl, hlt, by rw [HY.out], HSet, HBs⟩
    · obtain rfl : t = T := by omega
      have hx3 : (p && !q) = false := by rw [hx]; simp
      have HR : Hid (BRow wr (.slice (some ⟨g, 0, none⟩) n cap) (aft U h t)) := HS.out.brow (fun i hi => rfl) (HAl.out t) q1 q2
      clear hx
      cases p with
      | false =>
        clear hx3
        go_wp2
        go_ret3
        exact ⟨.slice (some ⟨g, 0, none⟩) n cap, by rw [HXe.out]; rfl, HB.out, HR.out⟩
      | true =>
        obtain rfl : q = true := by simpa using hx3
        clear hx3
        go_wp2
        go_ret3
        exact ⟨.slice (some ⟨g, 0, none⟩) n cap, by rw [HXe.out]; rfl, HB.out, HR.out⟩
end Go.Proofs.Ythokagcjbaibfaa.Cha
