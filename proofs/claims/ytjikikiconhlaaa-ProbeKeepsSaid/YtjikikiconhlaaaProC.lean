/- Contracts of probe: seek, find, Find. -/
import Derived.Test.YtjikikiconhlaaaProB
import Derived.Deep.RegionLaw
import Derived.Deep.RegionHeld3
import Derived.Shelf.Abstract
import Derived.Laws.StructEq
namespace Go.Proofs.Ytjikikiconhlaaa.Pro
open Go.RowKit
set_option linter.unusedVariables false

/-- The first number below n of which P holds; n, where it holds of none. -/
def sk (P : Nat → Bool) (n : Nat) : Nat := (List.range n).findIdx P
theorem sk_le (P : Nat → Bool) (n : Nat) : sk P n ≤ n := by
  have := List.findIdx_le_length (p := P) (xs := List.range n)
  rwa [List.length_range] at this
theorem sk_no {P : Nat → Bool} {n j : Nat} (h : j < sk P n) : P j = false := by
  have h2 := List.not_of_lt_findIdx h
  simpa using h2
theorem sk_yes {P : Nat → Bool} {n : Nat} (h : sk P n < n) : P (sk P n) = true := by
  have := List.findIdx_getElem (p := P) (xs := List.range n) (w := by rw [List.length_range]; exact h)
  show P ((List.range n).findIdx P) = true
  simpa using this
theorem sk_eq {P : Nat → Bool} {n j : Nat} (hj : j ≤ n) (h1 : ∀ i, i < j → P i = false) (h2 : j < n → P j = true) : sk P n = j := by
  rcases Nat.lt_trichotomy (sk P n) j with h | h | h
  · have := sk_yes (P := P) (n := n) (by omega)
    rw [h1 _ h] at this
    cases this
  · exact h
  · have := sk_le P n
    have h3 := sk_no h
    rw [h2 (by omega)] at h3
    cases h3

theorem enters_fw : ∀ args w, (callFunc 48 args).run Try.prog w = .ok (.enter 48 args) w := enters_of Try.func48 (by kernel_rfl) rfl
theorem enters_bw : ∀ args w, (callFunc 49 args).run Try.prog w = .ok (.enter 49 args) w := enters_of Try.func49 (by kernel_rfl) rfl
theorem enters_find : ∀ args w, (callFunc 46 args).run Try.prog w = .ok (.enter 46 args) w := enters_of Try.func46 (by kernel_rfl) rfl

set_option maxRecDepth 100000 in
theorem seek_any (a : Option Addr) (n c : Nat) (Pf Hf : Nat) (pc hc : Array Value) (pos : Nat → Nat) (hold : Nat → Bool) (w : World) (hn0 : 0 < n) (hn : n ≤ 1000)
    (hFP : ∀ args w, (callFunc Pf args).run Try.prog w = .ok (.enter Pf args) w) (hFH : ∀ args w, (callFunc Hf args).run Try.prog w = .ok (.enter Hf args) w)
    (hP : ∀ s : Nat, s ≤ n → ∀ W, Below w.heap.size w W → Calls Try.prog Pf (#[.int .i64 (s : Int)] ++ pc) W fun e w' => e = .returned (.int .i64 (pos s : Int)) ∧ W = w')
    (hH : ∀ s : Nat, s < n → ∀ W, Below w.heap.size w W → Calls Try.prog Hf (#[.int .i64 (pos s : Int)] ++ hc) W fun e w' => e = .returned (.bool (hold (pos s))) ∧ Below W.heap.size W w') :
    Calls Try.prog 32 #[.slice a n c, .func (.func Pf) #[] pc, .func (.func Hf) #[] hc] w fun e w' =>
      e = .returned (.tuple #[.int .i64 (pos (sk (fun s => hold (pos s)) n) : Int), .int .i64 (sk (fun s => hold (pos s)) n : Int)]) ∧ Below w.heap.size w w' := by
  have HP := Lib.hid hP
  have HH := Lib.hid hH
  have HSk := Lib.hid (fun j => @sk_eq (fun s => hold (pos s)) n j)
  generalize sk (fun s => hold (pos s)) n = K at *
  clear hP hH
  go_enter Try.func32, Try.ntmps32
  go_wp2
  go_loopw [8] (fun i wr => ∃ k : Nat, k ≤ n ∧ i = .int .i64 k ∧ Hid (Below w.heap.size w wr) ∧ Hid (∀ j, j < k → hold (pos j) = false)) (fun i _ => n - (intOf i).toNat)
  case atStart => exact ⟨0, Nat.zero_le _, rfl, Below.refl _ _, fun j hj => by omega⟩
  case round =>
    obtain ⟨k, hk, rfl, HB, HK⟩ := hrel
    have HPk := Lib.hid (fun W hW => HP.out k hk W hW)
    by_cases hlt : k < n
    · have hlt1 : (k : Int) < (n : Int) := by omega
      have HHk := Lib.hid (fun W hW => HH.out k hlt W hW)
      have HKk := Lib.hid (HSk.out k hk)
      have hb : ∃ b, b = hold (pos k) := ⟨_, rfl⟩
      obtain ⟨b, hb⟩ := hb
      rw [← hb] at HHk
      have HBk := Lib.hid hb
      clear hb
      generalize pos k = p at HPk HHk
      cases b with
      | true =>
        go_wp2_with fail
        refine (HPk.out _ HB.out).mono ?_
        rintro e w1 ⟨rfl, rfl⟩
        go_wp2_with fail
        refine (HHk.out _ HB.out).mono ?_
        rintro e w1 ⟨rfl, hb1⟩
        have HB1 := Lib.hid (HB.out.trans (hb1.mono HB.out.size))
        clear hb1
        go_wp2_with fail
        refine (HP.out k hk _ HB1.out).mono ?_
        rintro e w2 ⟨rfl, rfl⟩
        go_wp2
        go_ret2
        have e1 : K = k := HKk.out HK.out (fun _ => by
          have := HBk.out
          first | exact this.symm | simp_all)
        exact ⟨by rw [e1]; rfl, HB1.out⟩
      | false =>
        go_wp2_with fail
        refine (HPk.out _ HB.out).mono ?_
        rintro e w1 ⟨rfl, rfl⟩
        go_wp2_with fail
        refine (HHk.out _ HB.out).mono ?_
        rintro e w1 ⟨rfl, hb1⟩
        have HB1 := Lib.hid (HB.out.trans (hb1.mono HB.out.size))
        clear hb1
        go_wp2
        go_roundw
        case rel =>
          refine ⟨k + 1, by omega, by go_num, HB1, fun j hj => ?_⟩
          by_cases e : j = k
          · subst e
            have := HBk.out
            first | exact this.symm | simp_all
          · exact HK.out j (by omega)
        case measure => simp [intOf]; omega
    · obtain rfl : k = n := by omega
      have e1 : Hid (K = k) := HSk.out k (Nat.le_refl _) HK.out (fun h => absurd h (by omega))
      go_wp2_with fail
      refine (HPk.out _ HB.out).mono ?_
      rintro e w1 ⟨rfl, rfl⟩
      go_wp2
      go_ret2
      exact ⟨by rw [e1.out]; rfl, HB.out⟩

theorem eqC_run (x y a b : Int) (w : World) : (Op.equalIn 10000 48 (.agg #[.int .u32 x, .int .i64 y]) (.agg #[.int .u32 a, .int .i64 b])).run Try.prog w = .ok (decide (((x, y) : Cel) = (a, b))) w := by
  rw [show (10000 : Nat) = 9999 + 1 from rfl, run_equalIn_struct w 9999 48 _ _ (by kernel_rfl) (by kernel_rfl)]
  go_simp
  by_cases h0 : x = a
  case neg => simp [h0]
  subst h0
  by_cases h1 : y = b
  case neg => simp [h1]
  subst h1
  simp

set_option maxRecDepth 100000 in
theorem find1_any (u : Value) (T : List Cel) (x y : Int) (p b1 b2 : Nat) (w : World) (hr : CRow w u T) (hp : p < T.length) (hn : T.length ≤ 1000)
    (h1 : w.heap[b1]? = some (.cells #[u] 57 (0, 0))) (h2 : w.heap[b2]? = some (.cells #[.int .u32 x, .int .i64 y] 48 (0, 0))) :
    Calls Try.prog 46 #[.int .i64 (p : Int), .pointer (some ⟨b1, 0, none⟩), .pointer (some ⟨b2, 0, none⟩)] w fun e w' => e = .returned (.bool (decide (gt T p = (x, y)) || opC T p y)) ∧ Below w.heap.size w w' := by
  have l1 := (Array.getElem?_eq_some_iff.1 h1).1
  have l2 := (Array.getElem?_eq_some_iff.1 h2).1
  have k1 := Kept.cell (cell_of_one h1) l1
  have k2 := Kept.cell (show w.cell? ⟨b2, 0, none⟩ = some (.int .u32 x) by rw [cell_block h2]; rfl) l2
  have k3 := Kept.cell (show w.cell? ⟨b2, 1, none⟩ = some (.int .i64 y) by rw [cell_block h2]; rfl) l2
  have HO := Lib.hid (fun k : Kept w.heap.size w => open_any u T p y k.w (hr.mono k.below (Nat.le_refl _)) hp (by omega))
  obtain ⟨b, off, c, rfl, q1, q2, hblt, hc⟩ := hr.open (by omega)
  obtain ⟨c1, c2⟩ := hc p hp
  have k4 := Kept.cell c1 hblt
  have k5 := Kept.cell c2 hblt
  have hp1 : (p : Int) < (T.length : Int) := by omega
  have heq : ∀ W, (Op.equalIn 10000 48 (.agg #[.int .u32 (gt T p).1, .int .i64 (gt T p).2]) (.agg #[.int .u32 x, .int .i64 y])).run Try.prog W = .ok (decide (gt T p = (x, y))) W := fun W => eqC_run _ _ _ _ W
  generalize decide (gt T p = (x, y)) = d at *
  generalize (gt T p).1 = s at *
  generalize (gt T p).2 = t at *
  generalize opC T p y = o at *
  clear hc h1 h2 c1 c2 hr
  cases d with
  | true =>
    go_enter Try.func46, Try.ntmps46
    go_wp2_with fail
    refine wp_region_kept (by kernel_rfl) (by kernel_rfl) ?_
    repeat (go_big_quiet_step (fail))
    refine wpQuiet_nil ?_
    intro _ hw'
    obtain ⟨kk, rfl⟩ := hw'
    go_wp2
    go_ret
    exact ⟨ret_bool rfl, kk.below⟩
  | false =>
    go_enter Try.func46, Try.ntmps46
    go_wp2_with fail
    refine wp_region_kept (by kernel_rfl) (by kernel_rfl) ?_
    repeat (go_big_quiet_step ((go_at_call 35; exact Calls.kept_of (HO.out _) (Nat.le_refl _))))
    refine wpQuiet_nil ?_
    intro _ hw'
    obtain ⟨kk, rfl⟩ := hw'
    go_wp2
    go_ret
    exact ⟨ret_bool (by simp), kk.below⟩
/-- Where a cell lies. -/
def fiK (T : List Cel) (c : Cel) (h : Nat) : Nat := sk (fun s => decide (gt T ((h + s) % T.length) = c) || opC T ((h + s) % T.length) c.2) T.length
def fiC (T : List Cel) (c : Cel) (h : Nat) : Nat × Bool := if gt T ((h + fiK T c h) % T.length) = c then ((h + fiK T c h) % T.length, true) else (0, false)

set_option maxRecDepth 100000 in
theorem find_any (u : Value) (T : List Cel) (x : Int) (h : Nat) (w : World) (hr : CRow w u T) (hh : h < T.length) (hn : T.length ≤ 1000) :
    Calls Try.prog 26 #[u, .agg #[.int .u32 x, .int .i64 (h : Int)]] w fun e w' =>
      e = .returned (.tuple #[.int .i64 ((fiC T (x, h) h).1 : Int), .bool (fiC T (x, h) h).2]) ∧ Below w.heap.size w w' := by
  have HR := Lib.hid hr
  obtain ⟨b, off, c, rfl, q1, q2, hblt, hc⟩ := hr.open (by omega)
  have HC := Lib.hid hc
  obtain ⟨w0, hw0⟩ : ∃ w0, w0 = (w.alloc (.cells #[.slice (some ⟨b, off, none⟩) T.length c] 57)).alloc (.cells #[.int .u32 x, .int .i64 (h : Int)] 48) := ⟨_, rfl⟩
  have hs0 : w0.heap.size = w.heap.size + 2 := by rw [hw0, size_alloc, size_alloc]
  have hb0 : Below w.heap.size w w0 := by rw [hw0]; exact ((Below.refl _ w).alloc (Nat.le_refl _) _).alloc (by rw [size_alloc]; omega) _
  have h1 : w0.heap[w.heap.size]? = some (.cells #[.slice (some ⟨b, off, none⟩) T.length c] 57 (0, 0)) := by
    rw [hw0, heap_alloc_old _ _ (by rw [size_alloc]; omega)]; exact heap_alloc_new _ _
  have h2 : w0.heap[w.heap.size + 1]? = some (.cells #[.int .u32 x, .int .i64 (h : Int)] 48 (0, 0)) := by
    rw [hw0]
    have := heap_alloc_new (w.alloc (.cells #[.slice (some ⟨b, off, none⟩) T.length c] 57)) (.cells #[.int .u32 x, .int .i64 (h : Int)] 48)
    rwa [size_alloc] at this
  have H1 := Lib.hid h1
  have H2 := Lib.hid h2
  have HB0 := Lib.hid hb0
  have HKc : Hid (∀ V, Below w0.heap.size w0 V → V.cell? ⟨w.heap.size, 0, none⟩ = some (.slice (some ⟨b, off, none⟩) T.length c) ∧ V.cell? ⟨w.heap.size + 1, 0, none⟩ = some (.int .u32 x) ∧ V.cell? ⟨w.heap.size + 1, 1, none⟩ = some (.int .i64 (h : Int))) := by
    intro V hV
    have e1 := (hV.block w.heap.size (by omega)).trans h1
    have e2 := (hV.block (w.heap.size + 1) (by omega)).trans h2
    exact ⟨cell_of_one e1, by rw [cell_block e2]; rfl, by rw [cell_block e2]; rfl⟩
  have HFw := Lib.hid (fun W => forwards_any (some ⟨b, off, none⟩) T.length c (h : Int) W)
  have HSe : Hid (∀ W, Below w0.heap.size w0 W → ∀ b1 b2, Box2 W b1 b2 (.slice (some ⟨b, off, none⟩) T.length c) (h : Int) →
      Calls Try.prog 32 #[.slice (some ⟨b, off, none⟩) T.length c, fwV b1 b2, .func (.func 46) #[] #[.pointer (some ⟨w.heap.size, 0, none⟩), .pointer (some ⟨w.heap.size + 1, 0, none⟩)]] W fun e w' =>
        e = .returned (.tuple #[.int .i64 (((h + fiK T (x, h) h) % T.length : Nat) : Int), .int .i64 (fiK T (x, h) h : Int)]) ∧ Below W.heap.size W w') := by
    intro W hW b1 b2 hX
    have l1 := (Array.getElem?_eq_some_iff.1 hX.one).1
    have l2 := (Array.getElem?_eq_some_iff.1 hX.two).1
    have hz := hW.size
    refine seek_any (some ⟨b, off, none⟩) T.length c _ _ _ _ (fun s => (h + s) % T.length) (fun q => decide (gt T q = (x, (h : Int))) || opC T q h) W (by omega) hn enters_fw enters_find (fun s hs V hV => ?_) (fun s hs V hV => ?_)
    · exact fw_any (some ⟨b, off, none⟩) T.length c h s b1 b2 V ⟨(hV.block _ l1).trans hX.one, (hV.block _ l2).trans hX.two⟩ (by omega) (by omega) (by omega) (by omega)
    · exact find1_any _ T x h ((h + s) % T.length) w.heap.size (w.heap.size + 1) V (HR.out.mono (HB0.out.trans ((hW.trans (hV.mono hz)).mono (by omega))) (Nat.le_refl _)) (Nat.mod_lt _ (by omega)) hn
        ((hV.block _ (by omega)).trans ((hW.block _ (by omega)).trans H1.out)) ((hV.block _ (by omega)).trans ((hW.block _ (by omega)).trans H2.out))
  have hkn : (h + fiK T (x, h) h) % T.length < T.length := Nat.mod_lt _ (by omega)
  have E := Lib.hid (show fiC T (x, h) h = if gt T ((h + fiK T (x, h) h) % T.length) = (x, (h : Int)) then ((h + fiK T (x, h) h) % T.length, true) else (0, false) from rfl)
  generalize fiC T (x, h) h = R at *
  generalize fiK T (x, h) h = K at *
  obtain ⟨p, hp⟩ : ∃ p, p = (h + K) % T.length := ⟨_, rfl⟩
  rw [← hp] at HSe E hkn
  have heq : ∀ W, (Op.equalIn 10000 48 (.agg #[.int .u32 (gt T p).1, .int .i64 (gt T p).2]) (.agg #[.int .u32 x, .int .i64 (h : Int)])).run Try.prog W = .ok (decide (gt T p = (x, (h : Int)))) W := fun W => eqC_run _ _ _ _ W
  have hpi : (p : Int) < (T.length : Int) := by omega
  have HCp : Hid (∀ V, Below w0.heap.size w0 V → V.cell? ⟨b, off + p * 2, none⟩ = some (.int .u32 (gt T p).1) ∧ V.cell? ⟨b, off + p * 2 + 1, none⟩ = some (.int .i64 (gt T p).2)) := by
    intro V hV
    obtain ⟨c1, c2⟩ := HC.out p hkn
    have hv := HB0.out.trans (hV.mono (by omega))
    exact ⟨(hv.cell (p := ⟨b, off + p * 2, none⟩) hblt).trans c1, (hv.cell (p := ⟨b, off + p * 2 + 1, none⟩) hblt).trans c2⟩
  have hd : ∃ d, d = decide (gt T p = (x, (h : Int))) := ⟨_, rfl⟩
  obtain ⟨d, hd⟩ := hd
  rw [← hd] at heq
  have HD : Hid (R = if d = true then (p, true) else (0, false)) := by
    unfold Hid
    rw [hd, E.out]
    by_cases e : gt T p = (x, (h : Int)) <;> simp [e]
  generalize (gt T p).1 = s at *
  generalize (gt T p).2 = t at *
  clear hp hc hr h1 h2 hb0 HR HC H1 H2 E hd
  obtain ⟨c0, c1, c2⟩ := HKc.out w0 (Below.refl _ _)
  have hl0 : w.heap.size < w0.heap.size := by omega
  go_enter Try.func26, Try.ntmps26
  go_wp2_with fail
  rw [← hw0]
  clear hw0
  go_region_held3 (fun w' => w'.cell? ⟨w.heap.size, 0, none⟩ = some (.slice (some ⟨b, off, none⟩) T.length c) ∧ w'.cell? ⟨w.heap.size + 1, 1, none⟩ = some (.int .i64 (h : Int))) (first | exact ⟨c0, c2⟩ | go_keep) ((first
    | (go_at_call 33; refine (HFw.out _).mono ?_; rintro e w1 ⟨b1, b2, rfl, -, -, hX, hb1⟩; have hb2 := (Below.refl w0.heap.size w0).drew.trans hb1; obtain ⟨c0, c1, c2⟩ := HKc.out _ hb2; clear hb1)
    | (go_at_call 32; refine (HSe.out _ hb2 _ _ hX).mono ?_; rintro e w2 ⟨rfl, hb3⟩; have hb4 := hb2.trans (hb3.mono hb2.size); obtain ⟨c0, c1, c2⟩ := HKc.out _ hb4; clear hb3)))
  all_goals
    have HB4 := Lib.hid hb4
    obtain ⟨d1, d2⟩ := HCp.out _ hb4
    have HB5 := Lib.hid (HB0.out.trans (HB4.out.mono (show w.heap.size ≤ w0.heap.size by omega)))
    cases d with
    | true =>
      go_wp2_with (go_quiet (fail))
      go_ret2
      exact ⟨by rw [HD.out]; rfl, below_drewN HB5.out _⟩
    | false =>
      go_wp2_with (go_quiet (fail))
      go_ret2
      exact ⟨by rw [HD.out]; rfl, below_drewN HB5.out _⟩
end Go.Proofs.Ytjikikiconhlaaa.Pro
