/- Contracts of probe: the tests that Insert and Delete pass on; the ways along the ring. -/
import Derived.Test.YtjikikiconhlaaaProD
namespace Go.Proofs.Ytjikikiconhlaaa.Pro
open Go.RowKit
set_option linter.unusedVariables false

theorem ins1_any (a b x : Int) (b1 : Nat) (w : World) (h1 : w.heap[b1]? = some (.cells #[.int .u32 x] 23 (0, 0))) :
    Calls Try.prog 29 #[.agg #[.int .u32 a, .int .i64 b], .pointer (some ⟨b1, 0, none⟩)] w fun e w' => e = .returned (.bool (decide (a = x))) ∧ Below w.heap.size w w' := by
  have l1 := (Array.getElem?_eq_some_iff.1 h1).1
  have hb := below_made w (.cells #[.int .u32 a, .int .i64 b] 48)
  have c1 := (hb.cell (p := ⟨b1, 0, none⟩) l1).trans (cell_of_one h1)
  have HB := Lib.hid hb
  clear h1 hb
  go_enter Try.func29, Try.ntmps29
  go_wp2
  go_ret
  exact ⟨ret_bool (by first | rfl | simp | (rw [Bool.eq_iff_iff]; simp)), HB.out⟩
set_option maxRecDepth 100000 in
theorem ins2_any (u : Value) (T : List Cel) (p h b1 b2 : Nat) (w : World) (hr : CRow w u T) (hp : p < T.length) (hn : T.length ≤ 1000)
    (h1 : w.heap[b1]? = some (.cells #[u] 57 (0, 0))) (h2 : w.heap[b2]? = some (.cells #[.int .i64 (h : Int)] 3 (0, 0))) :
    Calls Try.prog 34 #[.int .i64 (p : Int), .pointer (some ⟨b1, 0, none⟩), .pointer (some ⟨b2, 0, none⟩)] w fun e w' => e = .returned (.bool (opC T p h)) ∧ Below w.heap.size w w' := by
  have HO := Lib.hid (open_any u T p (h : Int) w hr hp (by omega))
  have c1 := cell_of_one h1
  have c2 := cell_of_one h2
  obtain ⟨a, c, rfl, -, -⟩ := hr.slice
  generalize opC T p h = o at *
  clear h1 h2 hr
  go_enter Try.func34, Try.ntmps34
  go_wp2_with fail
  refine HO.out.mono ?_
  rintro e w1 ⟨rfl, hb1⟩
  go_wp2
  go_ret
  exact ⟨rfl, hb1⟩
theorem ins3_any (u : Value) (T : List Cel) (p b1 : Nat) (w : World) (hr : CRow w u T) (hp : p < T.length) (hn : T.length ≤ 1000)
    (h1 : w.heap[b1]? = some (.cells #[u] 57 (0, 0))) :
    Calls Try.prog 36 #[.int .i64 (p : Int), .pointer (some ⟨b1, 0, none⟩)] w fun e w' => e = .returned (.bool (emC (gt T p))) ∧ Below w.heap.size w w' := by
  have c0 := cell_of_one h1
  obtain ⟨b, off, c, rfl, q1, q2, hblt, hc⟩ := hr.open (by omega)
  obtain ⟨c1, c2⟩ := hc p hp
  have hp1 : (p : Int) < (T.length : Int) := by omega
  have HE := Lib.hid (empty_any (gt T p).1 (gt T p).2 w)
  rw [show emC ((gt T p).1, (gt T p).2) = emC (gt T p) from rfl] at HE
  generalize emC (gt T p) = o at *
  generalize (gt T p).1 = x at *
  generalize (gt T p).2 = y at *
  clear h1 hr hc
  go_enter Try.func36, Try.ntmps36
  go_wp2_with fail
  refine HE.out.mono ?_
  rintro e w1 ⟨rfl, hb1⟩
  go_wp2
  go_ret
  exact ⟨rfl, hb1⟩
set_option maxRecDepth 100000 in
theorem del1_any (u : Value) (T : List Cel) (p b1 : Nat) (w : World) (hr : CRow w u T) (hp : p < T.length) (hn : T.length ≤ 1000)
    (h1 : w.heap[b1]? = some (.cells #[u] 57 (0, 0))) :
    Calls Try.prog 41 #[.int .i64 (p : Int), .pointer (some ⟨b1, 0, none⟩)] w fun e w' => e = .returned (.bool (emC (gt T p) || decide (fr T p = 0))) ∧ Below w.heap.size w w' := by
  have c0 := cell_of_one h1
  have HF := Lib.hid (fun W hW => far_any u T p W (hr.mono hW (Nat.le_refl _)) hp (by omega))
  have H1 := Lib.hid h1
  have l1 := (Array.getElem?_eq_some_iff.1 h1).1
  obtain ⟨b, off, c, rfl, q1, q2, hblt, hc⟩ := hr.open (by omega)
  obtain ⟨c1, c2⟩ := hc p hp
  have hp1 : (p : Int) < (T.length : Int) := by omega
  have HE := Lib.hid (empty_any (gt T p).1 (gt T p).2 w)
  rw [show emC ((gt T p).1, (gt T p).2) = emC (gt T p) from rfl] at HE
  generalize emC (gt T p) = o at *
  generalize (gt T p).1 = x at *
  generalize (gt T p).2 = y at *
  generalize fr T p = f at *
  clear h1 hr hc
  cases o with
  | true =>
    go_enter Try.func41, Try.ntmps41
    go_wp2_with fail
    refine HE.out.mono ?_
    rintro e w1 ⟨rfl, hb1⟩
    go_wp2
    go_ret
    exact ⟨rfl, hb1⟩
  | false =>
    go_enter Try.func41, Try.ntmps41
    go_wp2_with fail
    refine HE.out.mono ?_
    rintro e w1 ⟨rfl, hb1⟩
    have HB1 := Lib.hid hb1
    have d0 := cell_of_one ((hb1.block b1 l1).trans H1.out)
    clear hb1 c0 c1 c2
    go_wp2_with fail
    refine (HF.out _ HB1.out).mono ?_
    rintro e w2 ⟨rfl, rfl⟩
    go_wp2
    go_ret
    exact ⟨ret_bool (by first | rfl | simp | (rw [Bool.eq_iff_iff]; simp)), HB1.out⟩

theorem mod_ps {n h i : Nat} (hh : h < n) (hi : i ≤ n) : (h + i) % n = ps n h i := by
  unfold ps
  split
  · exact Nat.mod_eq_of_lt (by omega)
  · rw [show h + i = (h + i - n) + n by omega, Nat.add_mod_right, Nat.mod_eq_of_lt (by omega)]
    omega
def bk (n p s : Nat) : Nat := if s ≤ p then p - s else p + n - s
theorem mod_bk {n p s : Nat} (hp : p < n) (hs : s ≤ n) : (p + n - s) % n = bk n p s := by
  unfold bk
  split
  · rw [show p + n - s = (p - s) + n by omega, Nat.add_mod_right, Nat.mod_eq_of_lt (by omega)]
  · exact Nat.mod_eq_of_lt (by omega)
theorem bk_ne {n p s : Nat} (hp : p < n) (hs : s + 1 ≤ n) (hn : 2 ≤ n) : bk n p s ≠ bk n p (s + 1) := by
  unfold bk
  (repeat' split) <;> omega
theorem ps_ne {n p s : Nat} (hp : p < n) (hs : s + 1 ≤ n) (hn : 2 ≤ n) : ps n p s ≠ ps n p (s + 1) := by
  unfold ps
  (repeat' split) <;> omega

/-- Steps to the first open position, to the first empty cell, to the first cell that is empty or at home. -/
def opK (T : List Cel) (h : Nat) : Nat := sk (fun s => opC T ((h + s) % T.length) h) T.length
def moK (T : List Cel) (p : Nat) : Nat := sk (fun s => emC (gt T ((p + s) % T.length))) T.length
def heK (T : List Cel) (p : Nat) : Nat := sk (fun s => emC (gt T ((p + s) % T.length)) || decide (fr T ((p + s) % T.length) = 0)) T.length

theorem seek1_any (g cap : Nat) (T : List Cel) (h b1 b2 b3 b4 : Nat) (w : World) (hT : TA w g T) (hc1 : T.length ≤ cap) (hc2 : cap ≤ 9223372036854775807) (hh : h < T.length) (hn : T.length ≤ 1000)
    (hX : Box2 w b1 b2 (.slice (some ⟨g, 0, none⟩) T.length cap) (h : Int)) (h1 : w.heap[b3]? = some (.cells #[.slice (some ⟨g, 0, none⟩) T.length cap] 57 (0, 0))) (h2 : w.heap[b4]? = some (.cells #[.int .i64 (h : Int)] 3 (0, 0))) :
    Calls Try.prog 32 #[.slice (some ⟨g, 0, none⟩) T.length cap, fwV b1 b2, .func (.func 34) #[] #[.pointer (some ⟨b3, 0, none⟩), .pointer (some ⟨b4, 0, none⟩)]] w fun e w' =>
      e = .returned (.tuple #[.int .i64 (((h + opK T h) % T.length : Nat) : Int), .int .i64 (opK T h : Int)]) ∧ Below w.heap.size w w' := by
  have l1 := (Array.getElem?_eq_some_iff.1 hX.one).1
  have l2 := (Array.getElem?_eq_some_iff.1 hX.two).1
  have l3 := (Array.getElem?_eq_some_iff.1 h1).1
  have l4 := (Array.getElem?_eq_some_iff.1 h2).1
  refine seek_any (some ⟨g, 0, none⟩) T.length cap _ _ _ _ (fun s => (h + s) % T.length) (fun q => opC T q h) w (by omega) hn enters_fw enters_ins2 (fun s hs V hV => ?_) (fun s hs V hV => ?_)
  · exact fw_any (some ⟨g, 0, none⟩) T.length cap h s b1 b2 V ⟨(hV.block _ l1).trans hX.one, (hV.block _ l2).trans hX.two⟩ (by omega) (by omega) (by omega) (by omega)
  · exact ins2_any _ T ((h + s) % T.length) h b3 b4 V ((hT.below hV).row hc1 hc2) (Nat.mod_lt _ (by omega)) hn ((hV.block _ l3).trans h1) ((hV.block _ l4).trans h2)
theorem seek2_any (g cap : Nat) (T : List Cel) (p b1 b2 b3 : Nat) (w : World) (hT : TA w g T) (hc1 : T.length ≤ cap) (hc2 : cap ≤ 9223372036854775807) (h0 : 0 < T.length) (hp : p ≤ T.length) (hn : T.length ≤ 1000)
    (hX : Box2 w b1 b2 (.slice (some ⟨g, 0, none⟩) T.length cap) (p : Int)) (h1 : w.heap[b3]? = some (.cells #[.slice (some ⟨g, 0, none⟩) T.length cap] 57 (0, 0))) :
    Calls Try.prog 32 #[.slice (some ⟨g, 0, none⟩) T.length cap, fwV b1 b2, .func (.func 36) #[] #[.pointer (some ⟨b3, 0, none⟩)]] w fun e w' =>
      e = .returned (.tuple #[.int .i64 (((p + moK T p) % T.length : Nat) : Int), .int .i64 (moK T p : Int)]) ∧ Below w.heap.size w w' := by
  have l1 := (Array.getElem?_eq_some_iff.1 hX.one).1
  have l2 := (Array.getElem?_eq_some_iff.1 hX.two).1
  have l3 := (Array.getElem?_eq_some_iff.1 h1).1
  refine seek_any (some ⟨g, 0, none⟩) T.length cap _ _ _ _ (fun s => (p + s) % T.length) (fun q => emC (gt T q)) w (by omega) hn enters_fw enters_ins3 (fun s hs V hV => ?_) (fun s hs V hV => ?_)
  · exact fw_any (some ⟨g, 0, none⟩) T.length cap p s b1 b2 V ⟨(hV.block _ l1).trans hX.one, (hV.block _ l2).trans hX.two⟩ (by omega) (by omega) (by omega) (by omega)
  · exact ins3_any _ T ((p + s) % T.length) b3 V ((hT.below hV).row hc1 hc2) (Nat.mod_lt _ (by omega)) hn ((hV.block _ l3).trans h1)
theorem seek3_any (g cap : Nat) (T : List Cel) (p b1 b2 b3 : Nat) (w : World) (hT : TA w g T) (hc1 : T.length ≤ cap) (hc2 : cap ≤ 9223372036854775807) (h0 : 0 < T.length) (hp : p ≤ T.length) (hn : T.length ≤ 1000)
    (hX : Box2 w b1 b2 (.slice (some ⟨g, 0, none⟩) T.length cap) (p : Int)) (h1 : w.heap[b3]? = some (.cells #[.slice (some ⟨g, 0, none⟩) T.length cap] 57 (0, 0))) :
    Calls Try.prog 32 #[.slice (some ⟨g, 0, none⟩) T.length cap, fwV b1 b2, .func (.func 41) #[] #[.pointer (some ⟨b3, 0, none⟩)]] w fun e w' =>
      e = .returned (.tuple #[.int .i64 (((p + heK T p) % T.length : Nat) : Int), .int .i64 (heK T p : Int)]) ∧ Below w.heap.size w w' := by
  have l1 := (Array.getElem?_eq_some_iff.1 hX.one).1
  have l2 := (Array.getElem?_eq_some_iff.1 hX.two).1
  have l3 := (Array.getElem?_eq_some_iff.1 h1).1
  refine seek_any (some ⟨g, 0, none⟩) T.length cap _ _ _ _ (fun s => (p + s) % T.length) (fun q => emC (gt T q) || decide (fr T q = 0)) w (by omega) hn enters_fw enters_del1 (fun s hs V hV => ?_) (fun s hs V hV => ?_)
  · exact fw_any (some ⟨g, 0, none⟩) T.length cap p s b1 b2 V ⟨(hV.block _ l1).trans hX.one, (hV.block _ l2).trans hX.two⟩ (by omega) (by omega) (by omega) (by omega)
  · exact del1_any _ T ((p + s) % T.length) b3 V ((hT.below hV).row hc1 hc2) (Nat.mod_lt _ (by omega)) hn ((hV.block _ l3).trans h1)
/-- The table whose cells were carried backwards, forwards. -/
theorem carry1_any (g cap : Nat) (T : List Cel) (m p b1 b2 : Nat) (w : World) (hT : TA w g T) (h1 : T.length ≤ cap) (hm : m < T.length) (hn : T.length ≤ 1000) (hp : p < T.length)
    (hX : Box2 w b1 b2 (.slice (some ⟨g, 0, none⟩) T.length cap) (p : Int)) (hg1 : b1 ≠ g) (hg2 : b2 ≠ g) :
    Calls Try.prog 37 #[.slice (some ⟨g, 0, none⟩) T.length cap, .int .i64 (m : Int), bwV b1 b2] w fun e w' => e = .returned (.tuple #[]) ∧ Fr w.heap.size (fun b => b = g) w w' ∧ TA w' g (carT T (bk T.length p) m) := by
  have l1 := (Array.getElem?_eq_some_iff.1 hX.one).1
  have l2 := (Array.getElem?_eq_some_iff.1 hX.two).1
  refine carry_any g cap T m _ _ (bk T.length p) w hT h1 (by omega) hn (fun s hs => ?_) (fun s hs => bk_ne hp (by omega) (by omega)) enters_bw (fun s hs V hV => ?_)
  · rw [← mod_bk hp (by omega)]
    exact Nat.mod_lt _ (by omega)
  · rw [← mod_bk hp (by omega)]
    exact bw_any (some ⟨g, 0, none⟩) T.length cap p s b1 b2 V ⟨(hV.block _ l1 hg1).trans hX.one, (hV.block _ l2 hg2).trans hX.two⟩ (by omega) (by omega) (by omega) (by omega)
theorem carry2_any (g cap : Nat) (T : List Cel) (m p b1 b2 : Nat) (w : World) (hT : TA w g T) (h1 : T.length ≤ cap) (hm : m < T.length) (hn : T.length ≤ 1000) (hp : p < T.length)
    (hX : Box2 w b1 b2 (.slice (some ⟨g, 0, none⟩) T.length cap) (p : Int)) (hg1 : b1 ≠ g) (hg2 : b2 ≠ g) :
    Calls Try.prog 37 #[.slice (some ⟨g, 0, none⟩) T.length cap, .int .i64 (m : Int), fwV b1 b2] w fun e w' => e = .returned (.tuple #[]) ∧ Fr w.heap.size (fun b => b = g) w w' ∧ TA w' g (carT T (ps T.length p) m) := by
  have l1 := (Array.getElem?_eq_some_iff.1 hX.one).1
  have l2 := (Array.getElem?_eq_some_iff.1 hX.two).1
  refine carry_any g cap T m _ _ (ps T.length p) w hT h1 (by omega) hn (fun s hs => ps_lt hp (by omega)) (fun s hs => ps_ne hp (by omega) (by omega)) enters_fw (fun s hs V hV => ?_)
  rw [← mod_ps hp (by omega)]
  exact fw_any (some ⟨g, 0, none⟩) T.length cap p s b1 b2 V ⟨(hV.block _ l1 hg1).trans hX.one, (hV.block _ l2 hg2).trans hX.two⟩ (by omega) (by omega) (by omega) (by omega)
end Go.Proofs.Ytjikikiconhlaaa.Pro
