/- The contract of the landed parts. -/
import Derived.Test.YtemkmkkpamhfoaaDoorLayV
namespace Go.Proofs.YtemkmkkpamhfoaaDoor.Lay
open Go.RowKit
set_option linter.unusedVariables false

/-- The six parts: where each begins, how long it is, its kind. -/
def partT (S N : Nat) : List (Nat × Nat × Nat) := [(0, 8, 1), (8, 120, 2), (128, 16 * S, 3), (slT S, 4 * N, 4), (endT S N, padT S N, 8), (baseT S N, 1024 * S, 7)]
def partC (s n : Int) : List (Nat × Nat × Nat) := if rightC s n then partT s.toNat n.toNat else [(0, 0, 0), (0, 0, 0), (0, 0, 0), (0, 0, 0), (0, 0, 0), (0, 0, 0)]
def z18 : List Value := [.int .i64 0, .int .i64 0, .int .i64 0, .int .i64 0, .int .i64 0, .int .i64 0, .int .i64 0, .int .i64 0, .int .i64 0, .int .i64 0, .int .i64 0, .int .i64 0, .int .i64 0, .int .i64 0, .int .i64 0, .int .i64 0, .int .i64 0, .int .i64 0]
def set3 (l : List Value) (k a m K : Nat) : List Value := ((l.set (k * 3) (.int .i64 (a : Int))).set (k * 3 + 1) (.int .i64 (m : Int))).set (k * 3 + 2) (.int .i64 (K : Int))

/-- The world between two placings. -/
def PS (w x : World) (s n : Int) (a : Nat) (l : List Value) (Ba : Nat) : Prop :=
  x.heap[w.heap.size]? = some (.cells #[.int .i64 s, .int .i64 n] 23 (0, 0)) ∧ x.heap[w.heap.size + 1]? = some (.cells z18.toArray 37 (0, 0)) ∧ x.heap[w.heap.size + 1 + 1]? = some (.cells l.toArray 37 (0, 0)) ∧
    x.heap[Ba]? = some (.cells #[.int .i64 (a : Int)] 3 (0, 0)) ∧ w.heap.size + 1 + 1 < Ba ∧ Below w.heap.size w x ∧ l.length = 18
theorem PS.cells {w x : World} {s n : Int} {a : Nat} {l : List Value} {Ba : Nat} (h : PS w x s n a l Ba) : x.cell? ⟨w.heap.size, 0, none⟩ = some (.int .i64 s) ∧ x.cell? ⟨w.heap.size, 1, none⟩ = some (.int .i64 n) ∧ x.cell? ⟨Ba, 0, none⟩ = some (.int .i64 (a : Int)) :=
  ⟨(cell_block h.1 0).trans rfl, (cell_block h.1 1).trans rfl, (cell_block h.2.2.2.1 0).trans rfl⟩
theorem lay_step {w x : World} {s n : Int} {a : Nat} {l : List Value} {Ba : Nat} (h : Hid (PS w x s n a l Ba)) (k K m b : Nat) (k' K' m' : Int) (e1 : k' = k) (e2 : K' = K) (e3 : m' = m) (e4 : b = a + m) (hk : k < 6) (ha : a ≤ 1000000) (hm : m ≤ 1000000) :
    Calls Tryd.prog 32 #[.int .i64 k', .int .i64 K', .int .i64 m', .pointer (some ⟨Ba, 0, none⟩), .pointer (some ⟨w.heap.size + 1 + 1, 0, none⟩)] x fun e x' => e = .returned (.tuple #[]) ∧ Hid (PS w x' s n b (set3 l k a m K) Ba) := by
  subst e1 e2 e3 e4
  obtain ⟨h1, h2, h3, h4, h5, h6, h7⟩ := h.out
  have l1 := (Array.getElem?_eq_some_iff.1 h1).1
  have l2 := (Array.getElem?_eq_some_iff.1 h2).1
  have l3 := (Array.getElem?_eq_some_iff.1 h3).1
  refine (lay_any k K m a Ba (w.heap.size + 1 + 1) l x hk ha hm h7 h4 h3 (by omega)).mono ?_
  rintro e x' ⟨rfl, hf, q1, q2⟩
  refine ⟨rfl, (hf.block _ l1 (by omega)).trans h1, (hf.block _ l2 (by omega)).trans h2, q2, q1, h5, ?_, by simp [set3, h7]⟩
  exact h6.trans (hf.toBelow h6.size (fun k hk => by omega))

/-- The blocks that the call lays first. -/
def PB (w x : World) (s n : Int) (l : List Value) : Prop :=
  x.heap[w.heap.size]? = some (.cells #[.int .i64 s, .int .i64 n] 23 (0, 0)) ∧ x.heap[w.heap.size + 1]? = some (.cells z18.toArray 37 (0, 0)) ∧ x.heap[w.heap.size + 1 + 1]? = some (.cells l.toArray 37 (0, 0)) ∧
    Below w.heap.size w x ∧ l.length = 18
def PW (w : World) (s n : Int) : World := ((w.alloc (.cells #[.int .i64 s, .int .i64 n] 23)).alloc (.cells z18.toArray 37)).alloc (.cells z18.toArray 37)
theorem PB.start (w x : World) (s n : Int) (hb : Below (PW w s n).heap.size (PW w s n) x) : PB w x s n z18 := by
  have z1 := size_alloc w (.cells #[.int .i64 s, .int .i64 n] 23)
  have z2 := size_alloc (w.alloc (.cells #[.int .i64 s, .int .i64 n] 23)) (.cells z18.toArray 37)
  have z3 : (PW w s n).heap.size = _ := size_alloc ((w.alloc (.cells #[.int .i64 s, .int .i64 n] 23)).alloc (.cells z18.toArray 37)) (.cells z18.toArray 37)
  refine ⟨?_, ?_, ?_, ?_, rfl⟩
  · rw [hb.block _ (by omega)]
    exact (Below.heap_alloc _ _ _ (by omega)).trans ((Below.heap_alloc _ _ _ (by omega)).trans (heap_alloc_new _ _))
  · rw [hb.block _ (by omega)]
    have := heap_alloc_new (w.alloc (.cells #[.int .i64 s, .int .i64 n] 23)) (.cells z18.toArray 37)
    rw [z1] at this
    exact (Below.heap_alloc _ _ _ (by omega)).trans this
  · rw [hb.block _ (by omega)]
    have := heap_alloc_new ((w.alloc (.cells #[.int .i64 s, .int .i64 n] 23)).alloc (.cells z18.toArray 37)) (.cells z18.toArray 37)
    rw [z2, z1] at this
    exact this
  · exact ((((Below.refl _ w).alloc (Nat.le_refl _) _).alloc (by omega) _).alloc (by omega) _).trans (hb.mono (by omega))
theorem PB.place {w x : World} {s n : Int} {l : List Value} (h : PB w x s n l) : PS w (x.alloc (.cells #[.int .i64 0] 3)) s n 0 l x.heap.size := by
  obtain ⟨h1, h2, h3, h4, h5⟩ := h
  have l1 := (Array.getElem?_eq_some_iff.1 h1).1
  have l2 := (Array.getElem?_eq_some_iff.1 h2).1
  have l3 := (Array.getElem?_eq_some_iff.1 h3).1
  exact ⟨(Below.heap_alloc _ _ _ l1).trans h1, (Below.heap_alloc _ _ _ l2).trans h2, (Below.heap_alloc _ _ _ l3).trans h3, heap_alloc_new _ _, l3, h4.alloc h4.size _, h5⟩
theorem PS.toPB {w x : World} {s n : Int} {a : Nat} {l : List Value} {Ba : Nat} (h : PS w x s n a l Ba) : PB w x s n l := ⟨h.1, h.2.1, h.2.2.1, h.2.2.2.2.2.1, h.2.2.2.2.2.2⟩
theorem PB.range {w x : World} {s n : Int} {l : List Value} (h : PB w x s n l) : x.rangeAt (w.heap.size + 1 + 1) 0 l := by
  intro j v hv
  rw [Nat.zero_add, cell_block h.2.2.1, List.getElem?_toArray, hv]
theorem PB.there {w x : World} {s n : Int} {l : List Value} (h : PB w x s n l) : x.there (w.heap.size + 1) 0 18 := by
  intro j hj
  rw [Nat.zero_add]
  refine ⟨?_, frozen_block h.2.1 j⟩
  rw [cell_block h.2.1, List.getElem?_toArray, List.getElem?_eq_getElem (show j < z18.length from hj)]
  rfl
theorem Below.setCells {B : Nat} {w : World} {b : Nat} (hB : B ≤ b) : ∀ (l : List Value) (x : World) (o : Nat), Below B w x → Below B w (x.setCells b o l)
  | [], _, _, h => h
  | v :: r, x, o, h => Below.setCells hB r _ (o + 1) (h.setCell hB v)
theorem infoParts : (Tryd.prog.info? 37).map (·.size) = some 18 := by kernel_rfl
/-- The result's variable is filled and read. -/
theorem PB.done {w x : World} {s n : Int} {l : List Value} (h : PB w x s n l) : (loadVar 37 ⟨w.heap.size + 1, 0, none⟩).run Tryd.prog (x.setCells (w.heap.size + 1) 0 l) = .ok (.agg l.toArray) (x.setCells (w.heap.size + 1) 0 l) ∧ Below w.heap.size w (x.setCells (w.heap.size + 1) 0 l) := by
  have hl := h.2.2.2.2
  have hth := h.there
  rw [← hl] at hth
  refine ⟨run_loadVar_mid _ _ _ _ _ (.array 6 35) (World.rangeAt_setCells_same x _ _ _ hth) (by kernel_rfl) rfl (by rw [hl]; exact infoParts), ?_⟩
  exact Below.setCells (by omega) _ _ _ h.2.2.2.1

theorem PB.store {w x : World} {s n : Int} {l : List Value} (h : PB w x s n l) (h1 : ∀ v ∈ l, v.oneCell' = true) : (storeCells ⟨w.heap.size + 1, 0, none⟩ l 0).run Tryd.prog x = .ok () (x.setCells (w.heap.size + 1) 0 l) := by
  have hl := h.2.2.2.2
  have hth := h.there
  rw [← hl] at hth
  exact run_storeCells_cells _ _ _ _ _ (fun j hj => by simpa using (hth j hj).1) (fun j hj => by simpa using (hth j hj).2) h1
theorem results_cell_var {P : Program} {fn : Func} {p : Tmp} {ty : TypeId} (h : fn.results = #[.cell p ty]) (tmps : Array Value) (w : World) (b : Nat) (v : Value) (hp : tmps.getD p undef = .pointer (some ⟨b, 0, none⟩))
    (hl : (loadVar ty ⟨b, 0, none⟩).run P w = .ok v w) : (results fn tmps).run P w = .ok v w := by
  have hp' : tmps[p]?.getD undef = .pointer (some ⟨b, 0, none⟩) := by simpa using hp
  simp [results, h, hp', asAddr, hl]

set_option maxRecDepth 100000 in
set_option maxHeartbeats 2000000 in
theorem parts_any (s n : Int) (w : World) (ht : Cls.Tab w) (s1 : -9223372036854775808 ≤ s) (s2 : s ≤ 9223372036854775807) (n1 : -9223372036854775808 ≤ n) (n2 : n ≤ 9223372036854775807) :
    Calls Tryd.prog 29 #[.agg #[.int .i64 s, .int .i64 n]] w fun e w' => e = .returned (.agg (valsA encR (partC s n)).toArray) ∧ Below w.heap.size w w' := by
  have hR := fun u (hu : Below w.heap.size w u) => right_any s n u (tab_keep hu ht)
  obtain ⟨L, hL⟩ : ∃ L, L = valsA encR (partC s n) := ⟨_, rfl⟩
  rw [← hL]
  have hL1 : ∀ v ∈ L, v.oneCell' = true := by
    rw [hL]
    intro v hv
    obtain ⟨x, _, hx⟩ := List.mem_flatMap.1 hv
    simp [encR] at hx
    rcases hx with rfl | rfl | rfl <;> rfl
  have HL1 := Lib.hid hL1
  clear hL1
  cases hr : rightC s n with
  | false =>
    rw [hr] at hR
    have HR := Lib.hid hR
    have hv : Hid (z18 = L) := by unfold Hid; rw [hL, partC, hr]; rfl
    clear ht hR hr hL
    go_enter Tryd.func29, Tryd.ntmps29
    go_wp2_with fail
    refine (HR.out _ (PB.start w _ s n (Below.refl _ _)).2.2.2.1).mono ?_
    rintro e w1 ⟨rfl, hb1⟩
    have HB := Lib.hid (PB.start w w1 s n hb1)
    rw [hv.out] at HB
    have hst := HB.out.store HL1.out
    have hlen := HB.out.2.2.2.2
    clear hb1
    go_wp2_with (refine wpList_load_mid rfl 37 (.tmp 3) rfl (w.heap.size + 1 + 1) 0 rfl L (.array 6 35) HB.out.range (by kernel_rfl) rfl (by rw [HB.out.2.2.2.2]; exact infoParts) ?_)
    obtain ⟨q1, q2⟩ := HB.out.done
    exact bodyPost_ret (results_cell_var rfl _ _ _ _ rfl q1) rfl ⟨rfl, q2⟩
  | true =>
    rw [hr] at hR
    have HR := Lib.hid hR
    have hc : partC s n = partT s.toNat n.toNat := by rw [partC, hr]; rfl
    obtain ⟨S, N, rfl, rfl, b1, b2, b3, b4, b5⟩ := right_nat hr
    rw [hc, Int.toNat_natCast, Int.toNat_natCast] at hL
    have hp := pad_two (s := S) b3
    obtain ⟨x1, h1⟩ : ∃ x1, x1 = 16 * S := ⟨_, rfl⟩
    obtain ⟨y2, h2⟩ : ∃ y2, y2 = 128 + x1 := ⟨_, rfl⟩
    obtain ⟨x3, h3⟩ : ∃ x3, x3 = 4 * N := ⟨_, rfl⟩
    obtain ⟨y4, h4⟩ : ∃ y4, y4 = y2 + x3 := ⟨_, rfl⟩
    obtain ⟨x5, h5⟩ : ∃ x5, x5 = 1024 * S := ⟨_, rfl⟩
    obtain ⟨pd, h6⟩ : ∃ pd, pd = padT S N := ⟨_, rfl⟩
    obtain ⟨y5, h7⟩ : ∃ y5, y5 = y4 + pd := ⟨_, rfl⟩
    have q1 : endT S N = y4 := by unfold endT; omega
    have q2 : slT S = y2 := by unfold slT; omega
    have q3 : baseT S N = y5 := by unfold baseT; omega
    rw [q1, ← h6] at hp
    have hv : Hid (set3 (set3 (set3 (set3 (set3 (set3 z18 0 0 8 1) 1 8 120 2) 2 128 x1 3) 3 y2 x3 4) 4 y4 pd 8) 5 y5 x5 7 = L) := by
      unfold Hid
      rw [hL]
      unfold partT
      rw [q1, q2, q3, ← h1, ← h3, ← h5, ← h6]
      rfl
    have e1 : (S : Int) * 16 = x1 := by omega
    have e3 : (N : Int) * 4 = x3 := by omega
    have e5 : (S : Int) * 1024 = x5 := by omega
    have f1 : x1 ≤ 1100 := by omega
    have f3 : x3 ≤ 33000 := by omega
    have f4 : y4 ≤ 34300 := by omega
    have f5 : x5 ≤ 66000 := by omega
    have f7 : (S : Int) ≤ 64 := by omega
    have f8 : (N : Int) ≤ 8192 := by omega
    have f9 : y2 ≤ 2000 := by omega
    have fp : pd ≤ 8 := by omega
    have H2 := Lib.hid h2
    have H4 := Lib.hid h4
    have H7 := Lib.hid h7
    obtain ⟨r, hm0⟩ : ∃ r, r = (y4 : Int) % 16 := ⟨_, rfl⟩
    obtain ⟨d, hd00⟩ : ∃ d, d = 16 - r := ⟨_, rfl⟩
    have hdd : d % 16 = (pd : Int) := by omega
    have hr0 : 0 ≤ r := by omega
    have hr1 : r ≤ 15 := by omega
    have hd0 : 0 ≤ d := by omega
    have hd1 : d ≤ 16 := by omega
    have hm := hm0.symm
    have hd := hd00.symm
    clear hm0 hd00
    clear ht hR hc h1 h2 h3 h4 h5 h6 h7 q1 q2 q3 hp b1 b2 b3 b4 b5 hr hL
    go_enter Tryd.func29, Tryd.ntmps29
    go_wp2_with fail
    refine (HR.out _ (PB.start w _ _ _ (Below.refl _ _)).2.2.2.1).mono ?_
    rintro e w1 ⟨rfl, hb1⟩
    have HB := Lib.hid (PB.start w w1 _ _ hb1).place
    clear hb1
    go_wp2_with fail
    refine (lay_step HB 0 1 8 8 _ _ _ rfl rfl rfl rfl (by omega) (by omega) (by omega)).mono ?_
    rintro e w2 ⟨rfl, HB2⟩
    clear HB
    go_wp2_with fail
    refine (lay_step HB2 1 2 120 128 _ _ _ rfl rfl rfl rfl (by omega) (by omega) (by omega)).mono ?_
    rintro e w3 ⟨rfl, HB3⟩
    clear HB2
    obtain ⟨c0, c1, c2⟩ := HB3.out.cells
    go_wp2_with fail
    refine (lay_step HB3 2 3 x1 y2 _ _ _ rfl rfl rfl H2.out (by omega) (by omega) (by omega)).mono ?_
    rintro e w4 ⟨rfl, HB4⟩
    clear HB3 c0 c1 c2
    obtain ⟨c0, c1, c2⟩ := HB4.out.cells
    go_wp2_with fail
    refine (lay_step HB4 3 4 x3 y4 _ _ _ rfl rfl rfl H4.out (by omega) (by omega) (by omega)).mono ?_
    rintro e w5 ⟨rfl, HB5⟩
    clear HB4 c0 c1 c2
    obtain ⟨c0, c1, c2⟩ := HB5.out.cells
    go_wp2_with fail
    refine (lay_step HB5 4 8 pd y5 _ _ _ rfl rfl rfl H7.out (by omega) (by omega) (by omega)).mono ?_
    rintro e w6 ⟨rfl, HB6⟩
    clear HB5 c0 c1 c2
    obtain ⟨c0, c1, c2⟩ := HB6.out.cells
    go_wp2_with fail
    have hy5 : y5 ≤ 1000000 := by have := H7.out; omega
    refine (lay_step HB6 5 7 x5 (y5 + x5) _ _ _ rfl rfl rfl rfl (by omega) hy5 (by omega)).mono ?_
    rintro e w7 ⟨rfl, HB7⟩
    clear HB6 c0 c1 c2
    rw [hv.out] at HB7
    have HB := Lib.hid HB7.out.toPB
    have hst := HB.out.store HL1.out
    have hlen := HB.out.2.2.2.2
    clear HB7
    go_wp2_with (refine wpList_load_mid rfl 37 (.tmp 3) rfl (w.heap.size + 1 + 1) 0 rfl L (.array 6 35) HB.out.range (by kernel_rfl) rfl (by rw [HB.out.2.2.2.2]; exact infoParts) ?_)
    obtain ⟨q1, q2⟩ := HB.out.done
    exact bodyPost_ret (results_cell_var rfl _ _ _ _ rfl q1) rfl ⟨rfl, q2⟩
end Go.Proofs.YtemkmkkpamhfoaaDoor.Lay
