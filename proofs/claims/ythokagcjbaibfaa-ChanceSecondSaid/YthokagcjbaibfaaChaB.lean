/- Contracts of chance: round, the tests that are passed on, passed, chosen. -/
import Derived.Test.YthokagcjbaibfaaChaA
import Derived.Test.YthokagcjbaibfaaKit24
namespace Go.Proofs.Ythokagcjbaibfaa.Cha
open Go.RowKit
set_option linter.unusedVariables false

set_option maxRecDepth 100000 in
theorem round_any (n h : Nat) (w : World) (hh : h < n) (hn : n ≤ 100000) :
    Calls Try.prog 23 #[.int .i64 (n : Int), .int .i64 (h : Int)] w fun e w' => ∃ u, e = .returned u ∧ Below w.heap.size w w' ∧ Row .i64 w' u (ints (rnd n h)) := by
  obtain ⟨i0, hi, hz0, hz1, hz2⟩ := info_parts infoI64
  have HV0 := Lib.hid (CA.made w (.int .i64 0) n 3)
  have HB0 := Lib.hid (below_made w (.cells (madeCells #[.int .i64 0] n) 3))
  have hn1 : (n : Int) ≤ 100000 := by omega
  go_enter Try.func23, Try.ntmps23
  go_wp2_with (refine wpList_make_row rfl (.tmp 7) (.tmp 7) 32 rfl 3 i0 (.int .i64 0) 8 Try.underlying32 hi hz0 hz1 hz2 .i64 .i64 n rfl rfl (by omega) (by omega) ?_)
  obtain ⟨w0, hw0⟩ : ∃ w0, w0 = w.alloc (.cells (madeCells #[.int .i64 0] n) 3) := ⟨_, rfl⟩
  rw [← hw0] at HV0 HB0
  have hw1 : w.alloc (.cells (madeCells (Value.int .i64 0).cells n) 3) = w0 := hw0.symm
  try rw [hw1]
  try rw [← hw0]
  clear hw0 hw1
  go_wp2
  go_loopw [11] (fun i wr => ∃ k : Nat, k ≤ n ∧ i = .int .i64 k ∧ Hid (CA wr w.heap.size n (fun i => if i < k then .int .i64 (i : Int) else .int .i64 0)) ∧ Hid (Below w.heap.size w wr)) (fun i _ => n - (intOf i).toNat)
  case atStart => exact ⟨0, Nat.zero_le _, rfl, HV0.out.ext (fun i hi => by simp), HB0⟩
  case round =>
    obtain ⟨k, hk, rfl, HC, HB⟩ := hrel
    by_cases hlt : k < n
    · have hlt1 : (k : Int) < (n : Int) := by omega
      obtain ⟨c1, f1⟩ := HC.out.2 k hlt
      go_wp2
      go_roundw
      case rel =>
        refine ⟨k + 1, by omega, by go_num, ?_, HB.out.setCell (Nat.le_refl _) _⟩
        refine (HC.out.set k hlt _).ext (fun i hi => ?_)
        by_cases e : i = k
        · subst e; simp
        · rw [if_neg e]
          by_cases e2 : i < k
          · rw [if_pos e2, if_pos (by omega)]
          · rw [if_neg e2, if_neg (by omega)]
      case measure => simp [intOf]; omega
    · obtain rfl : k = n := by omega
      have HR : Hid (Row .i64 wr (.slice (some ⟨w.heap.size, 0, none⟩) k k) (ints (List.range k))) :=
        HC.out.row (fun i hi => by rw [if_pos hi, ints_getD]; simp [List.getD, hi]) (by simp [ints]) (Nat.le_refl _) (by omega) (ints_wf (fun x hx => by have := List.mem_range.1 hx; omega))
      go_wp2_with (go_at_call 29; refine (cut64_any _ (ints (List.range k)) h _ HR.out (by simp [ints]; omega) (by simp [ints]; omega) (by simp [ints]; omega)).mono ?_; rintro e w' ⟨u, rfl, hb, hr⟩)
      go_ret
      refine ⟨_, rfl, HB.out.trans (hb.mono HB.out.size), ?_⟩
      rw [ints_drop, ints_take, ← ints_app, rot_range hh] at hr
      exact hr

/-- The test that staying passes on. -/
def stF (b1 b2 : Nat) : Value := .func (.func 30) #[] #[.pointer (some ⟨b1, 0, none⟩), .pointer (some ⟨b2, 0, none⟩)]
theorem staying_any (a a2 : Option Addr) (n c m c2 : Nat) (w : World) :
    Calls Try.prog 24 #[.slice a n c, .slice a2 m c2] w fun e w' => e = .returned (stF w.heap.size (w.heap.size + 1)) ∧ w' = (w.alloc (.cells #[.slice a n c] 22)).alloc (.cells #[.slice a2 m c2] 22) := by
  go_enter Try.func24, Try.ntmps24
  go_wp2
  go_ret
  exact ⟨by simp [stF], rfl⟩
theorem staying1_any (u v : Value) (U V : List Bool) (i b1 b2 : Nat) (w : World) (h1 : w.heap[b1]? = some (.cells #[u] 22 (0, 0))) (h2 : w.heap[b2]? = some (.cells #[v] 22 (0, 0)))
    (hu : BRow w u U) (hv : BRow w v V) (hi : i < U.length) (hl : U.length = V.length) (hn : U.length ≤ 100000) :
    Calls Try.prog 30 #[.int .i64 (i : Int), .pointer (some ⟨b1, 0, none⟩), .pointer (some ⟨b2, 0, none⟩)] w fun e w' => e = .returned (.bool (st U V i)) ∧ w = w' := by
  have E := Lib.hid (show (U.getD i false && !V.getD i false) = st U V i from rfl)
  obtain ⟨b, off, c, rfl, -, -, -, hc⟩ := brow_open hu (by omega)
  obtain ⟨b', off', c', rfl, -, -, -, hc'⟩ := brow_open hv (by omega)
  have c1 := cell_of_one h1
  have c2 := cell_of_one h2
  have c3 := hc i hi
  have c4 := hc' i (by omega)
  have k1 : (i : Int) < (U.length : Int) := by omega
  have k2 : (i : Int) < (V.length : Int) := by omega
  clear hc hc' hl h1 h2 hu hv hi
  obtain ⟨n, hN⟩ : ∃ n, n = U.length := ⟨_, rfl⟩
  obtain ⟨m, hM⟩ : ∃ m, m = V.length := ⟨_, rfl⟩
  obtain ⟨x, hx⟩ : ∃ x, x = U.getD i false := ⟨_, rfl⟩
  obtain ⟨y, hy⟩ : ∃ y, y = V.getD i false := ⟨_, rfl⟩
  rw [← hN] at k1 c1 hn
  rw [← hM] at k2 c2
  rw [← hx] at c3 E
  rw [← hy] at c4 E
  clear hN hM hx hy
  cases x with
  | true =>
    go_enter Try.func30, Try.ntmps30
    go_wp2
    go_ret
    exact ⟨ret_bool (by rw [← E.out]; rfl), rfl⟩
  | false =>
    go_enter Try.func30, Try.ntmps30
    go_wp2
    go_ret
    exact ⟨ret_bool (by rw [← E.out]; rfl), rfl⟩
/-- The test that the broom passes on. -/
theorem broom1_any (u : Value) (U : List Bool) (i b1 : Nat) (w : World) (h1 : w.heap[b1]? = some (.cells #[u] 22 (0, 0))) (hu : BRow w u U) (hi : i < U.length) (hn : U.length ≤ 100000) :
    Calls Try.prog 28 #[.int .i64 (i : Int), .pointer (some ⟨b1, 0, none⟩)] w fun e w' => e = .returned (.bool (U.getD i false)) ∧ w = w' := by
  obtain ⟨b, off, c, rfl, -, -, -, hc⟩ := brow_open hu (by omega)
  have c1 := cell_of_one h1
  have c3 := hc i hi
  have k1 : (i : Int) < (U.length : Int) := by omega
  clear hc h1 hu hi
  obtain ⟨n, hN⟩ : ∃ n, n = U.length := ⟨_, rfl⟩
  obtain ⟨x, hx⟩ : ∃ x, x = U.getD i false := ⟨_, rfl⟩
  rw [← hN] at k1 c1 hn
  rw [← hx] at c3 ⊢
  clear hN hx
  go_enter Try.func28, Try.ntmps28
  go_wp2
  go_ret
  exact ⟨rfl, rfl⟩

theorem fi_succ (p : Nat → Bool) (L : List Nat) (k T : Nat) (hT : T = L.findIdx (fun i => !p i)) (hk : k ≤ T) (hl : k < L.length) (h : p (L.getD k 0) = true) : k + 1 ≤ T := by
  rcases Nat.lt_or_ge k T with h1 | h1
  · exact h1
  · obtain rfl : k = T := by omega
    have h2 := List.findIdx_getElem (p := fun i => !p i) (xs := L) (w := by rw [← hT]; exact hl)
    simp only [← hT] at h2
    simp [List.getD, hl] at h
    simp [h] at h2
theorem fi_here (p : Nat → Bool) (L : List Nat) (k T : Nat) (hT : T = L.findIdx (fun i => !p i)) (hk : k ≤ T) (hl : k < L.length) (h : p (L.getD k 0) = false) : T = k := by
  rcases Nat.lt_or_ge k T with h1 | h1
  · rw [hT] at h1
    have h2 := List.not_of_lt_findIdx h1
    simp [List.getD, hl] at h
    simp [h] at h2
  · omega
theorem fi_end (p : Nat → Bool) (L : List Nat) (T : Nat) (hT : T = L.findIdx (fun i => !p i)) (hk : L.length ≤ T) : T = L.length := by
  have := List.findIdx_le_length (p := fun i => !p i) (xs := L)
  omega

set_option maxRecDepth 100000 in
theorem passed_any (F : Nat) (caps : Array Value) (L : List Nat) (p : Nat → Bool) (lv : Value) (w : World) (hl : Row .i64 w lv (ints L)) (hn : L.length ≤ 100000)
    (hF : ∀ args w, (callFunc F args).run Try.prog w = .ok (.enter F args) w)
    (hP : ∀ i, i ∈ L → Calls Try.prog F (#[.int .i64 (i : Int)] ++ caps) w fun e w' => e = .returned (.bool (p i)) ∧ w = w') :
    Calls Try.prog 22 #[lv, .func (.func F) #[] caps] w fun e w' => e = .returned (.int .i64 ((L.findIdx (fun i => !p i) : Nat) : Int)) ∧ w = w' := by
  by_cases h0 : 0 < L.length
  · obtain ⟨b, off, c, rfl, q1, q2, -, hc⟩ := nrow_open hl h0
    have HC := Lib.hid hc
    have HP := Lib.hid hP
    have hq1 : (L.length : Int) ≤ (c : Int) := by omega
    obtain ⟨T, hT⟩ : ∃ T, T = L.findIdx (fun i => !p i) := ⟨_, rfl⟩
    rw [← hT]
    have HT := Lib.hid hT
    clear hc hP hT hl
    go_enter Try.func22, Try.ntmps22
    go_wp2
    go_loopw [9] (fun i wr => ∃ k : Nat, k ≤ L.length ∧ i = .int .i64 k ∧ w = wr ∧ Hid (k ≤ T)) (fun i _ => L.length - (intOf i).toNat)
    case atStart => exact ⟨0, Nat.zero_le _, rfl, rfl, Nat.zero_le _⟩
    case round =>
      obtain ⟨k, hk, rfl, rfl, HK⟩ := hrel
      by_cases hlt : k < L.length
      · have hlt1 : (k : Int) < (L.length : Int) := by omega
        have c1 := HC.out k hlt
        have HX := Lib.hid (HP.out (L.getD k 0) (by simp [List.getD, hlt]))
        obtain ⟨x, hx⟩ : ∃ x, x = L.getD k 0 := ⟨_, rfl⟩
        rw [← hx] at c1 HX
        have HX2 := Lib.hid hx
        clear hx
        cases e : p x with
        | true =>
          rw [e] at HX
          have HE := Lib.hid e
          clear e
          go_wp2_with (refine HX.out.mono ?_; rintro e w' ⟨rfl, rfl⟩)
          go_roundw
          case rel => 
            exact ⟨k + 1, by omega, by go_num, by first | exact rfl | trivial, fi_succ p L k T HT.out HK.out hlt (by rw [← HX2.out]; exact HE.out)⟩
          case measure => simp [intOf]; omega
        | false =>
          rw [e] at HX
          have HE := Lib.hid e
          clear e
          go_wp2_with (refine HX.out.mono ?_; rintro e w' ⟨rfl, rfl⟩)
          go_ret
          exact ⟨ret_int (by rw [fi_here p L k T HT.out HK.out hlt (by rw [← HX2.out]; exact HE.out)]), rfl⟩
      · obtain rfl : k = L.length := by omega
        have HE := Lib.hid (fi_end p L T HT.out HK.out)
        go_wp2
        go_ret
        exact ⟨ret_int (by rw [HE.out]), rfl⟩
  · obtain rfl : L = [] := List.length_eq_zero_iff.1 (by omega)
    obtain ⟨a, c, rfl, -, -⟩ := row_slice hl
    clear hl h0 hP hF
    go_enter Try.func22, Try.ntmps22
    go_wp2
    go_loopw [9] (fun i wr => i = .int .i64 0 ∧ w = wr) (fun i _ => 0)
    case atStart => exact ⟨rfl, rfl⟩
    case round =>
      obtain ⟨rfl, rfl⟩ := hrel
      go_wp2
      go_ret
      exact ⟨rfl, rfl⟩

theorem ints_filter_snoc (L : List Nat) (p : Nat → Bool) (k : Nat) (hl : k < L.length) : (L.take (k + 1)).filter p = (L.take k).filter p ++ if p (L.getD k 0) then [L.getD k 0] else [] := by
  rw [List.take_succ_eq_append_getElem hl, List.filter_append]
  have : L.getD k 0 = L[k] := by simp [List.getD, hl]
  rw [this]
  congr 1
  cases e : p L[k] <;> simp [e]

set_option maxRecDepth 100000 in
set_option maxHeartbeats 1000000 in
theorem chosen_any (F : Nat) (caps : Array Value) (L : List Nat) (p : Nat → Bool) (lv : Value) (w : World) (hl : Row .i64 w lv (ints L)) (hn : L.length ≤ 100000) (hx : ∀ x ∈ L, x ≤ 1000000)
    (hF : ∀ args w, (callFunc F args).run Try.prog w = .ok (.enter F args) w)
    (hP : ∀ i, i ∈ L → ∀ W, Below w.heap.size w W → Calls Try.prog F (#[.int .i64 (i : Int)] ++ caps) W fun e w' => e = .returned (.bool (p i)) ∧ W = w') :
    Calls Try.prog 25 #[lv, .func (.func F) #[] caps] w fun e w' => ∃ u, e = .returned u ∧ Below w.heap.size w w' ∧ w'.ownsRow w.heap.size 3 1 u (L.filter p).length (vals64 (ints (L.filter p))) := by
  obtain ⟨i0, hi, hz0, hz1, hz2⟩ := info_parts infoI64
  by_cases h0 : 0 < L.length
  · obtain ⟨b, off, c, rfl, q1, q2, hb, hc⟩ := nrow_open hl h0
    have HC := Lib.hid hc
    have HP := Lib.hid hP
    have hq1 : (L.length : Int) ≤ (c : Int) := by omega
    clear hc hP hl hx
    go_enter Try.func25, Try.ntmps25
    go_wp2
    go_loopw [5, 10] (fun u i wr => ∃ k : Nat, k ≤ L.length ∧ i = .int .i64 k ∧ Hid (Below w.heap.size w wr) ∧ Hid (wr.ownsRow w.heap.size 3 1 u ((L.take k).filter p).length (vals64 (ints ((L.take k).filter p))))) (fun _ i _ => L.length - (intOf i).toNat)
    case atStart => exact ⟨0, Nat.zero_le _, rfl, Below.refl _ _, World.ownsRow_nil _ _ _ _⟩
    case round =>
      obtain ⟨k, hk, rfl, HB, HO⟩ := hrel
      by_cases hlt : k < L.length
      · have hlt1 : (k : Int) < (L.length : Int) := by omega
        have c1 := (HB.out.cell (p := ⟨b, off + k, none⟩) hb).trans (HC.out k hlt)
        have HX := Lib.hid (HP.out (L.getD k 0) (by simp [List.getD, hlt]) _ HB.out)
        have HS := Lib.hid (ints_filter_snoc L p k hlt)
        have hlf : ((L.take k).filter p).length ≤ k := by have := List.length_filter_le p (L.take k); rw [List.length_take] at this; omega
        obtain ⟨x, hx⟩ : ∃ x, x = L.getD k 0 := ⟨_, rfl⟩
        rw [← hx] at c1 HX HS
        clear hx
        cases e : p x with
        | true =>
          rw [e] at HX HS
          clear e
          obtain ⟨M, hM⟩ : ∃ M, M = (L.take k).filter p := ⟨_, rfl⟩
          rw [← hM] at HO HS hlf
          clear hM
          have hsz := HB.out.size
          go_wp2_with (first
            | (refine HX.out.mono ?_; rintro e w' ⟨rfl, rfl⟩)
            | (at_builtin; refine wpList_append_own _ rfl (.tmp 17) (.tmp 19) 32 rfl w.heap.size 3 i0 (.int .i64 0) 1 8 Try.underlying32 hi hz0 hz1 hz2 rfl (by decide) _ _ _ rfl (HO.out.alloc _) ⟨wr.heap.size, 0, none⟩ 1 1 [.int .i64 (x : Int)] rfl rfl (news_one _ _ _ _) (oneCell_one _ _) (by unfold maxLen; omega) (by omega) (by simp; omega) ?_))
          intro v' w2 hown' hgrow _
          have hb1 : Hid (Below w.heap.size w w2) := (HB.out.alloc hsz _).grown hgrow (by simp; omega) (fun r hr => (HO.out.lt r hr).1)
          have hown2 : Hid (w2.ownsRow w.heap.size 3 1 v' ((L.take (k + 1)).filter p).length (vals64 (ints ((L.take (k + 1)).filter p)))) := by
            unfold Hid
            rw [HS.out, if_pos trivial, ints_app, vals64_app, List.length_append]
            exact hown'
          clear hown' hgrow
          go_wp2
          go_roundw
          case rel => exact ⟨k + 1, by omega, by go_num, hb1, hown2⟩
          case measure => simp [intOf]; omega
        | false =>
          rw [e] at HX HS
          clear e
          go_wp2_with (refine HX.out.mono ?_; rintro e w' ⟨rfl, rfl⟩)
          go_roundw
          case rel => exact ⟨k + 1, by omega, by go_num, HB, by unfold Hid; rw [HS.out]; simpa using HO.out⟩
          case measure => simp [intOf]; omega
      · obtain rfl : k = L.length := by omega
        have hO := HO.out
        rw [List.take_length] at hO
        have HO2 := Lib.hid hO
        clear hO
        go_wp2
        go_ret
        exact ⟨_, rfl, HB.out, HO2.out⟩
  · obtain rfl : L = [] := List.length_eq_zero_iff.1 (by omega)
    obtain ⟨a, c, rfl, -, -⟩ := row_slice hl
    clear hl h0 hP hF
    go_enter Try.func25, Try.ntmps25
    go_wp2
    go_loopw [5, 10] (fun u i wr => u = .slice none 0 0 ∧ i = .int .i64 0 ∧ w = wr) (fun _ i _ => 0)
    case atStart => exact ⟨rfl, rfl, rfl⟩
    case round =>
      obtain ⟨rfl, rfl, rfl⟩ := hrel
      go_wp2
      go_ret
      exact ⟨_, rfl, Below.refl _ _, World.ownsRow_nil _ _ _ _⟩
end Go.Proofs.Ythokagcjbaibfaa.Cha
