/- Contracts of the document's chance: Turns, Broom. -/
import Derived.Test.YthokagcjbaibfaaChaF
import Derived.Test.YthokagcjbaibfaaChaE
namespace Go.Proofs.Ythokagcjbaibfaa.Cha
open Go.RowKit
set_option linter.unusedVariables false

set_option maxRecDepth 100000 in
theorem refTurns_bad (u v : Value) (U V : List Bool) (x : Int) (w : World) (hu : BRow w u U) (hv : BRow w v V) (hb : ¬ ckU U.length V.length x = 0) :
    Calls Try.prog 13 #[u, v, .int .i64 x] w fun e w' => e = .returned (.int .i64 0) ∧ w = w' := by
  have HC := Lib.hid (refNext_bad u v U V x w hu hv hb)
  obtain ⟨a, c, rfl, -, -, -⟩ := hu
  obtain ⟨a2, c2, rfl, -, -, -⟩ := hv
  obtain ⟨n, hn⟩ : ∃ n, n = U.length := ⟨_, rfl⟩
  obtain ⟨m, hm⟩ : ∃ m, m = V.length := ⟨_, rfl⟩
  rw [← hn, ← hm] at HC hb ⊢
  obtain ⟨z, hz⟩ : ∃ z, z = ckU n m x := ⟨_, rfl⟩
  rw [← hz] at HC hb
  have hz2 : (z != 0) = true := by simp [hb]
  have hz3 : (z == 0) = false := by simp [hb]
  clear hn hm hz hb
  go_enter Try.func13, Try.ntmps13
  go_wp2_with (go_at_call 10; refine HC.out.mono ?_; rintro e w' ⟨rfl, rfl⟩)
  go_ret
  exact ⟨rfl, rfl⟩

theorem turn_back {n h T : Nat} (hh : h < n) (hT : T < n) : Int.tmod ((el n h T : Int) - (h : Int) + (n : Int)) (n : Int) = (T : Int) := by
  rw [el_eq hh hT]
  split
  · rw [show (((h + T : Nat) : Int) - (h : Int) + (n : Int)) = ((T + n : Nat) : Int) by omega, Int.tmod_eq_emod_of_nonneg (by omega)]
    have : (T + n) % n = T := by rw [Nat.add_mod_right]; exact Nat.mod_eq_of_lt hT
    omega
  · rw [show (((h + T - n : Nat) : Int) - (h : Int) + (n : Int)) = ((T : Nat) : Int) by omega, Int.tmod_eq_emod_of_nonneg (by omega)]
    have : T % n = T := Nat.mod_eq_of_lt hT
    omega
theorem all_succ (p : Nat → Bool) (k : Nat) : (List.range (k + 1)).all p = ((List.range k).all p && p k) := by
  rw [List.range_succ, List.all_append]; simp
theorem all_trn {U V : List Bool} {h : Nat} (hh : h < U.length) : (List.range U.length).all (st U V) = decide (trn U V h = U.length) := by
  rw [Bool.eq_iff_iff]
  simp only [List.all_eq_true, List.mem_range, decide_eq_true_eq]
  exact (trn_all hh).symm

set_option maxRecDepth 100000 in
set_option maxHeartbeats 1000000 in
theorem refTurns_ok (u v : Value) (U V : List Bool) (h : Nat) (w : World) (hu : BRow w u U) (hv : BRow w v V) (hn : U.length ≤ 1000) (hl : U.length = V.length) (hh : h < U.length) :
    Calls Try.prog 13 #[u, v, .int .i64 (h : Int)] w fun e w' => e = .returned (.int .i64 (trn U V h : Int)) ∧ Below w.heap.size w w' := by
  have HN := Lib.hid (refNext_ok u v U V h w hu hv hn hl hh)
  have HAl := Lib.hid (aft_length U h (trn U V h))
  have hT := trn_le U V h
  have HAll := Lib.hid (all_trn (V := V) hh)
  have HTb := Lib.hid (fun (hT : trn U V h < U.length) => turn_back hh hT)
  have HSt : Hid (∀ i, st U V i = (U.getD i false && !V.getD i false)) := fun i => rfl
  have heb := el_lt (n := U.length) (h := h) (p := trn U V h) (by omega)
  obtain ⟨b1, o1, c, rfl, hc1, hc2, hlt1, hu2⟩ := brow_open hu (by omega)
  obtain ⟨b2, o2, c2, rfl, hc3, hc4, hlt2, hv2⟩ := brow_open hv (by omega)
  have HU := Lib.hid hu2
  have HV := Lib.hid hv2
  have HL := Lib.hid hl
  clear hu hv hu2 hv2
  obtain ⟨n, hN⟩ : ∃ n, n = U.length := ⟨_, rfl⟩
  obtain ⟨m, hM⟩ : ∃ m, m = V.length := ⟨_, rfl⟩
  obtain ⟨T, hT2⟩ : ∃ T, T = trn U V h := ⟨_, rfl⟩
  rw [← hT2] at HN HAl hT HAll HTb heb ⊢
  rw [← hN] at HN hT hh hn HU HL hc1 HAll HTb heb ⊢
  rw [← hM] at HN HV hc3 HL ⊢
  obtain ⟨y, hy⟩ : ∃ y, y = el n h T := ⟨_, rfl⟩
  rw [← hy] at HN HTb heb
  have k1 : (n : Int) ≤ (c : Int) := by omega
  have k2 : ¬ n = 0 := by omega
  have k3 : (m : Int) ≤ (c2 : Int) := by omega
  clear hT2 hN hM hl hc1 hc3 hy
  go_enter Try.func13, Try.ntmps13
  go_wp2_with fail
  refine HN.out.mono ?_
  rintro e w1 ⟨y1, rfl, hb1, hr1⟩
  obtain ⟨ya, yc, rfl, -, -, -⟩ := brow_slice hr1
  have HB1 := Lib.hid hb1
  clear hr1 hb1
  rw [HAl.out]
  go_wp2_with fail
  go_loopw [10, 11] (fun b i wr => ∃ k : Nat, k ≤ n ∧ i = .int .i64 k ∧ b = .bool ((List.range k).all (st U V)) ∧ w1 = wr) (fun _ i _ => n - (intOf i).toNat)
  case atStart => exact ⟨0, Nat.zero_le _, rfl, rfl, rfl⟩
  case round =>
    obtain ⟨k, hk, rfl, rfl, rfl⟩ := hrel
    by_cases hlt : k < n
    · have i1 : (k : Int) < (n : Int) := by omega
      have i2 : (k : Int) < (m : Int) := by have := HL.out; omega
      have c1 := (HB1.out.cell (p := ⟨b1, o1 + k, none⟩) hlt1).trans (HU.out k hlt)
      have c2' := (HB1.out.cell (p := ⟨b2, o2 + k, none⟩) hlt2).trans (HV.out k (by have := HL.out; omega))
      have HA := Lib.hid (all_succ (st U V) k)
      have HS := Lib.hid (HSt.out k)
      obtain ⟨x, hx⟩ : ∃ x, x = (List.range k).all (st U V) := ⟨_, rfl⟩
      rw [← hx] at HA ⊢
      obtain ⟨p, hp⟩ : ∃ p, p = U.getD k false := ⟨_, rfl⟩
      obtain ⟨q, hq⟩ : ∃ q, q = V.getD k false := ⟨_, rfl⟩
      rw [← hp] at c1 HS
      rw [← hq] at c2' HS
      clear hx hp hq
      cases x with
      | false =>
        go_wp2
        go_roundw
        case rel => exact ⟨k + 1, by omega, by go_num, by rw [HA.out]; rfl, by first | exact rfl | trivial⟩
        case measure => simp [intOf]; omega
      | true =>
        cases p with
        | false =>
          go_wp2
          go_roundw
          case rel => exact ⟨k + 1, by omega, by go_num, by rw [HA.out, HS.out]; rfl, by first | exact rfl | trivial⟩
          case measure => simp [intOf]; omega
        | true =>
          go_wp2
          go_roundw
          case rel => exact ⟨k + 1, by omega, by go_num, by rw [HA.out, HS.out]; simp, by first | exact rfl | trivial⟩
          case measure => simp [intOf]; omega
    · obtain rfl : k = n := by omega
      rw [HAll.out]
      by_cases e : T = k
      · have he : decide (T = k) = true := by simp [e]
        have HE := Lib.hid e
        rw [he]
        clear he e
        go_wp2
        go_ret
        exact ⟨ret_int (by rw [HE.out]), HB1.out⟩
      · have he : decide (T = k) = false := by simp [e]
        have ht := HTb.out (by omega)
        rw [he]
        clear he e
        have h1 : IntKind.i64.wrap ((y : Int) - (h : Int)) = (y : Int) - (h : Int) := wrap_in (by omega) (by omega)
        have h2 : IntKind.i64.wrap ((y : Int) - (h : Int) + (k : Int)) = (y : Int) - (h : Int) + (k : Int) := wrap_in (by omega) (by omega)
        go_wp2
        go_ret
        exact ⟨rfl, HB1.out⟩

set_option maxRecDepth 100000 in
theorem refBroom_bad (u : Value) (V : List Bool) (x m : Int) (w : World) (hv : BRow w u V) (hb : ¬ bk V.length x m = 0) :
    Calls Try.prog 18 #[u, .int .i64 x, .int .i64 m] w fun e w' => e = .returned (.tuple #[.slice none 0 0, .int .i64 0, .int .i64 (bk V.length x m)]) ∧ w = w' := by
  have HC := Lib.hid (may_any u u V V x w hv hv)
  have e0 : ckU V.length V.length x = ck V.length x := by simp [ckU]
  rw [e0] at HC
  obtain ⟨a, c, rfl, -, -, -⟩ := hv
  obtain ⟨n, hN⟩ : ∃ n, n = V.length := ⟨_, rfl⟩
  rw [← hN] at HC hb ⊢
  clear hN e0
  by_cases hc : ck n x = 0
  · have hm : m < 0 := by
      apply Decidable.byContradiction
      intro h
      exact hb (by rw [bk, if_pos hc, if_neg h])
    have E := Lib.hid (show bk n x m = 2 by rw [bk, if_pos hc, if_pos hm])
    rw [hc] at HC
    clear hc hb
    rw [E.out]
    go_enter Try.func18, Try.ntmps18
    go_wp2_with (go_at_call 21; refine HC.out.mono ?_; rintro e w' ⟨rfl, rfl⟩)
    go_ret3
    exact ⟨rfl, rfl⟩
  · have E := Lib.hid (show bk n x m = ck n x by rw [bk, if_neg hc])
    rw [E.out]
    obtain ⟨z, hz⟩ : ∃ z, z = ck n x := ⟨_, rfl⟩
    rw [← hz] at hc HC ⊢
    have hz2 : (z != 0) = true := by simp [hc]
    have hz3 : (z == 0) = false := by simp [hc]
    clear hc hb hz E
    go_enter Try.func18, Try.ntmps18
    go_wp2_with (go_at_call 21; refine HC.out.mono ?_; rintro e w' ⟨rfl, rfl⟩)
    go_ret3
    exact ⟨rfl, rfl⟩

set_option maxRecDepth 100000 in
set_option maxHeartbeats 1000000 in
theorem refBroom_ok (u : Value) (V : List Bool) (h S : Nat) (m : Int) (w : World) (hv : BRow w u V) (hn : V.length ≤ 1000) (hh : h < V.length) (hS : S ≤ V.length) (hm : m = S ∨ (S = V.length ∧ (V.length : Int) < m)) :
    Calls Try.prog 18 #[u, .int .i64 (h : Int), .int .i64 m] w fun e w' => ∃ y, e = .returned (.tuple #[y, .int .i64 (el V.length h S : Int), .int .i64 0]) ∧ Below w.heap.size w w' ∧ Row .i64 w' y (ints (((rnd V.length h).take S).filter (fun i => V.getD i false))) := by
  obtain ⟨i0, hi, hz0, hz1, hz2⟩ := info_parts infoI64
  have hck : ckU V.length V.length (h : Int) = 0 := by rw [ckU, if_pos rfl, ck, if_neg (by omega), if_neg (by omega)]
  have HC := Lib.hid (may_any u u V V h w hv hv)
  rw [hck] at HC
  have HEl := Lib.hid (fun t => el_step (n := V.length) (h := h) (t := t) (by omega))
  have HEb := Lib.hid (fun t => el_lt (n := V.length) (h := h) (p := t) (by omega))
  have HE0 := Lib.hid (el_zero hh)
  have HSn := Lib.hid (fun k (hk : k < V.length) => ints_filter_snoc (rnd V.length h) (fun i => V.getD i false) k (by rw [rnd_length]; exact hk))
  have HRk : Hid (∀ k, k < V.length → (rnd V.length h).getD k 0 = el V.length h k) := fun k hk => by rw [List.getD, rnd_get hk]; rfl
  have HFl : Hid (∀ k, (((rnd V.length h).take k).filter (fun i => V.getD i false)).length ≤ k) := fun k => by have := List.length_filter_le (fun i => V.getD i false) ((rnd V.length h).take k); rw [List.length_take] at this; omega
  have HFb : Hid (∀ k, ∀ x ∈ ((rnd V.length h).take k).filter (fun i => V.getD i false), x ≤ 1000000) := fun k x hx => by have := rnd_lt (by omega) (List.mem_of_mem_take (List.mem_filter.1 hx).1); omega
  have hm0 : ¬ m < 0 := by omega
  obtain ⟨b1, o1, c, rfl, hc1, hc2, hlt1, hu2⟩ := brow_open hv (by omega)
  have HU := Lib.hid hu2
  have HM := Lib.hid hm
  clear hv hu2 hck
  obtain ⟨F, hF⟩ : ∃ F : Nat → List Nat, F = fun k => ((rnd V.length h).take k).filter (fun i => V.getD i false) := ⟨_, rfl⟩
  have HF0 : Hid (F 0 = []) := by rw [hF]; rfl
  have HF1 : Hid (∀ k, k < V.length → F (k + 1) = F k ++ if V.getD (el V.length h k) false then [el V.length h k] else []) := fun k hk => by rw [hF]; have := HSn.out k hk; rw [HRk.out k hk] at this; exact this
  have HF2 : Hid (∀ k, (F k).length ≤ k) := by rw [hF]; exact HFl.out
  have HF3 : Hid (∀ k, ∀ x ∈ F k, x ≤ 1000000) := by rw [hF]; exact HFb.out
  have hFS : ((rnd V.length h).take S).filter (fun i => V.getD i false) = F S := by rw [hF]
  rw [hFS]
  clear HSn HRk HFl HFb hF hFS hm
  obtain ⟨n, hN⟩ : ∃ n, n = V.length := ⟨_, rfl⟩
  rw [← hN] at HC HEl HEb HE0 HU HM HF1 hc1 hh hn hS ⊢
  have k1 : (n : Int) ≤ (c : Int) := by omega
  have k2 : ¬ n = 0 := by omega
  clear hN hc1
  go_enter Try.func18, Try.ntmps18
  go_wp2_with (go_at_call 21; refine HC.out.mono ?_; rintro e w' ⟨rfl, rfl⟩)
  go_loopw [1, 10, 11] (fun x o i wr => ∃ k : Nat, k ≤ S ∧ i = .int .i64 k ∧ x = .int .i64 (el n h k : Int) ∧ Hid (wr.ownsRow w.heap.size 3 1 o (F k).length (vals64 (ints (F k)))) ∧ Hid (Below w.heap.size w wr)) (fun _ _ i _ => S - (intOf i).toNat)
  case atStart => exact ⟨0, Nat.zero_le _, rfl, by rw [HE0.out], by rw [HF0.out]; exact World.ownsRow_nil _ _ _ _, Below.refl _ _⟩
  case round =>
    obtain ⟨k, hk, rfl, rfl, HO, HB⟩ := hrel
    by_cases hlt : k < S
    · have i1 : (k : Int) < m := by have := HM.out; omega
      have i2 : (k : Int) < (n : Int) := by omega
      have e1 := HEb.out k
      have e2 := HEl.out k
      have c1 := (HB.out.cell (p := ⟨b1, o1 + el n h k, none⟩) hlt1).trans (HU.out _ e1)
      have HF := Lib.hid (HF1.out k (by omega))
      have hl := HF2.out k
      have hsz := HB.out.size
      obtain ⟨y, hy⟩ : ∃ y, y = el n h (k + 1) := ⟨_, rfl⟩
      rw [← hy] at e2
      have HY := Lib.hid hy
      obtain ⟨x, hx⟩ : ∃ x, x = el n h k := ⟨_, rfl⟩
      rw [← hx] at e1 e2 c1 HF ⊢
      obtain ⟨s, hs⟩ : ∃ s, s = x + 1 := ⟨_, rfl⟩
      rw [← hs] at e2
      have i3 : (x : Int) < (n : Int) := by omega
      have i4 : IntKind.i64.wrap ((x : Int) + 1) = (s : Int) := (wrap_in (by omega) (by omega)).trans (by omega)
      obtain ⟨q, hq⟩ : ∃ q, q = V.getD x false := ⟨_, rfl⟩
      rw [← hq] at c1 HF
      obtain ⟨M, hM⟩ : ∃ M, M = F k := ⟨_, rfl⟩
      rw [← hM] at HO HF hl
      clear hy hx hs hq hM
      cases q with
      | false =>
        go_wp2
        go_roundw
        case rel => exact ⟨k + 1, by omega, by go_num, by rw [HY.out], by unfold Hid; rw [HF.out]; simpa using HO.out, HB⟩
        case measure => simp [intOf]; omega
      | true =>
        go_wp2_with (at_builtin; refine wpList_append_own _ rfl (.tmp 36) (.tmp 38) 32 rfl w.heap.size 3 i0 (.int .i64 0) 1 8 Try.underlying32 hi hz0 hz1 hz2 rfl (by decide) _ _ _ rfl (HO.out.alloc _) ⟨wr.heap.size, 0, none⟩ 1 1 [.int .i64 (x : Int)] rfl rfl (news_one _ _ _ _) (oneCell_one _ _) (by unfold maxLen; omega) (by omega) (by simp; omega) ?_)
        intro v' w2 hown' hgrow _
        have hb1 : Hid (Below w.heap.size w w2) := (HB.out.alloc hsz _).grown hgrow (by simp; omega) (fun r hr => (HO.out.lt r hr).1)
        have hown2 : Hid (w2.ownsRow w.heap.size 3 1 v' (F (k + 1)).length (vals64 (ints (F (k + 1))))) := by
          unfold Hid
          rw [HF.out, if_pos trivial, ints_app, vals64_app, List.length_append]
          exact hown'
        clear hown' hgrow
        go_wp2
        go_roundw
        case rel => exact ⟨k + 1, by omega, by go_num, by rw [HY.out], hown2, hb1⟩
        case measure => simp [intOf]; omega
    · obtain rfl : k = S := by omega
      have HR := Lib.hid (row64_of_owns HO.out (ints_length _) (ints_wf (HF3.out k)))
      rcases HM.out with hm | ⟨hm, hm2⟩
      · have i1 : ¬ (k : Int) < m := by omega
        clear hm
        go_wp2
        go_ret3
        exact ⟨_, rfl, HB.out, HR.out⟩
      · have i1 : (k : Int) < m := by omega
        have i2 : ¬ (k : Int) < (n : Int) := by omega
        clear hm hm2
        go_wp2
        go_ret3
        exact ⟨_, rfl, HB.out, HR.out⟩
end Go.Proofs.Ythokagcjbaibfaa.Cha
