/- Contracts of probe: distances, single cells, positions. -/
import Derived.Test.YtjikikiconhlaaaRows
import Derived.Test.YtjikikiconhlaaaProM
import Derived.Test.YtjikikiconhlaaaKit10
import Derived.Test.YtjikikiconhlaaaKit24
namespace Go.Proofs.Ytjikikiconhlaaa.Pro
open Go.RowKit
set_option linter.unusedVariables false

theorem size_alloc (w : World) (o : Obj) : (w.alloc o).heap.size = w.heap.size + 1 := Array.size_push _
def encC (c : Cel) : List Value := [.int .u32 c.1, .int .i64 c.2]
theorem encC_len (c : Cel) : (encC c).length = 2 := rfl
/-- A slice value reads as a list of cells. -/
def CRow (w : World) (v : Value) (T : List Cel) : Prop := ARow 2 encC (0, 0) w v T
def gt (T : List Cel) (i : Nat) : Cel := T.getD i (0, 0)
theorem CRow.mono {w w' : World} {v : Value} {T : List Cel} {B : Nat} (h : CRow w v T) (hb : Below B w w') (hB : w.heap.size ≤ B) : CRow w' v T := ARow.mono h hb hB
theorem CRow.open {w : World} {v : Value} {T : List Cel} (h : CRow w v T) (hne : 0 < T.length) : ∃ b off c, v = .slice (some ⟨b, off, none⟩) T.length c ∧ T.length ≤ c ∧ c ≤ 9223372036854775807 ∧ b < w.heap.size ∧
    ∀ i, i < T.length → w.cell? ⟨b, off + i * 2, none⟩ = some (.int .u32 (gt T i).1) ∧ w.cell? ⟨b, off + i * 2 + 1, none⟩ = some (.int .i64 (gt T i).2) := by
  obtain ⟨a, cap, rfl, h2, h3, h5⟩ := h
  obtain ⟨b, off, rfl, hlt, hc⟩ := h5 (by rintro rfl; simp at hne)
  exact ⟨b, off, cap, rfl, h2, h3, hlt, fun i hi => ⟨hc i hi 0 _ rfl, hc i hi 1 _ rfl⟩⟩
theorem CRow.slice {w : World} {v : Value} {T : List Cel} (h : CRow w v T) : ∃ a c, v = .slice a T.length c ∧ T.length ≤ c ∧ c ≤ 9223372036854775807 := by
  obtain ⟨a, cap, h1, h2, h3, h5⟩ := h
  exact ⟨a, cap, h1, h2, h3⟩

theorem within_any (n a : Int) (w : World) : Calls Try.prog 45 #[.int .i64 n, .int .i64 a] w fun e w' => e = .returned (.bool (decide (0 ≤ a ∧ a < n))) ∧ w = w' := by
  by_cases h1 : a ≥ 0
  · have h2 : 0 ≤ a := h1
    go_enter Try.func45, Try.ntmps45
    go_wp2
    go_ret
    exact ⟨ret_bool (by simp [h2]), rfl⟩
  · have h2 : ¬ 0 ≤ a := h1
    go_enter Try.func45, Try.ntmps45
    go_wp2
    go_ret
    exact ⟨ret_bool (by simp ; try omega), rfl⟩
theorem dist_any (n h a : Int) (w : World) (h1 : -9223372036854775808 ≤ n) (h2 : n ≤ 9223372036854775807) : Calls Try.prog 21 #[.int .i64 n, .int .i64 h, .int .i64 a] w fun e w' => e = .returned (.int .i64 (dI n h a)) ∧ w = w' := by
  have HW1 := Lib.hid (fun W => within_any n h W)
  have HW2 := Lib.hid (fun W => within_any n a W)
  by_cases h3 : 0 ≤ h ∧ h < n
  · by_cases h4 : 0 ≤ a ∧ a < n
    · have e3 : decide (0 ≤ h ∧ h < n) = true := decide_eq_true h3
      have e4 : decide (0 ≤ a ∧ a < n) = true := decide_eq_true h4
      rw [e3] at HW1
      rw [e4] at HW2
      have E : dI n h a = if a < h then a - h + n else a - h := if_pos ⟨h3, h4⟩
      by_cases h5 : a < h
      · have E2 := Lib.hid (E.trans (if_pos h5))
        clear E e3 e4
        go_enter Try.func21, Try.ntmps21
        go_wp2_with fail
        go_at_call 45; refine (HW1.out _).mono ?_; rintro e w' ⟨rfl, rfl⟩
        go_wp2_with fail
        go_at_call 45; refine (HW2.out _).mono ?_; rintro e w' ⟨rfl, rfl⟩
        go_wp2
        go_ret
        exact ⟨ret_int (by rw [E2.out]), rfl⟩
      · have E2 := Lib.hid (E.trans (if_neg h5))
        clear E e3 e4
        go_enter Try.func21, Try.ntmps21
        go_wp2_with fail
        go_at_call 45; refine (HW1.out _).mono ?_; rintro e w' ⟨rfl, rfl⟩
        go_wp2_with fail
        go_at_call 45; refine (HW2.out _).mono ?_; rintro e w' ⟨rfl, rfl⟩
        go_wp2
        go_ret
        exact ⟨ret_int (by rw [E2.out]), rfl⟩
    · have e3 : decide (0 ≤ h ∧ h < n) = true := decide_eq_true h3
      have e4 : decide (0 ≤ a ∧ a < n) = false := decide_eq_false h4
      rw [e3] at HW1
      rw [e4] at HW2
      have E := Lib.hid (show dI n h a = 0 from if_neg (fun q => h4 q.2))
      clear e3 e4
      go_enter Try.func21, Try.ntmps21
      go_wp2_with fail
      go_at_call 45; refine (HW1.out _).mono ?_; rintro e w' ⟨rfl, rfl⟩
      go_wp2_with fail
      go_at_call 45; refine (HW2.out _).mono ?_; rintro e w' ⟨rfl, rfl⟩
      go_wp2
      go_ret
      exact ⟨ret_int (by rw [E.out]), rfl⟩
  · have e3 : decide (0 ≤ h ∧ h < n) = false := decide_eq_false h3
    rw [e3] at HW1
    have E := Lib.hid (show dI n h a = 0 from if_neg (fun q => h3 q.1))
    clear e3 HW2
    go_enter Try.func21, Try.ntmps21
    go_wp2_with (go_at_call 45; refine (HW1.out _).mono ?_; rintro e w' ⟨rfl, rfl⟩)
    go_ret
    exact ⟨ret_int (by rw [E.out]), rfl⟩

/-- A cell of no ID, as the program tests it. -/
def emC (c : Cel) : Bool := decide (c.1 = 0) && decide (c.2 = 0)
theorem emC_iff (c : Cel) : emC c = true ↔ c = (0, 0) := by
  rcases c with ⟨a, b⟩
  simp [emC]
theorem empty_any (x y : Int) (w : World) : Calls Try.prog 30 #[.agg #[.int .u32 x, .int .i64 y]] w fun e w' => e = .returned (.bool (emC (x, y))) ∧ Below w.heap.size w w' := by
  go_enter Try.func30, Try.ntmps30
  go_wp2
  all_goals
    go_ret
    exact ⟨ret_bool (by simp_all [emC]), below_made _ _⟩

def fr (T : List Cel) (p : Nat) : Int := frf T.length (gt T) p
theorem far_any (u : Value) (T : List Cel) (p : Nat) (w : World) (hr : CRow w u T) (hp : p < T.length) (hn : T.length ≤ 1000000) : Calls Try.prog 42 #[u, .int .i64 (p : Int)] w fun e w' => e = .returned (.int .i64 (fr T p)) ∧ w = w' := by
  obtain ⟨b, off, c, rfl, q1, q2, -, hc⟩ := hr.open (by omega)
  have HD := Lib.hid (fun W => dist_any T.length (gt T p).2 p W (by omega) (by omega))
  rw [show dI T.length (gt T p).2 p = fr T p from rfl] at HD
  have c1 := (hc p hp).2
  have hp1 : (p : Int) < (T.length : Int) := by omega
  generalize (gt T p).2 = y at *
  clear hc
  go_enter Try.func42, Try.ntmps42
  go_wp2_with (go_at_call 21; refine (HD.out _).mono ?_; rintro e w' ⟨rfl, rfl⟩)
  go_ret
  exact ⟨rfl, rfl⟩
/-- Open, as the program tests it. -/
def opC (T : List Cel) (p : Nat) (h : Int) : Bool := emC (gt T p) || decide (fr T p < dI T.length h p)
theorem open_any (u : Value) (T : List Cel) (p : Nat) (h : Int) (w : World) (hr : CRow w u T) (hp : p < T.length) (hn : T.length ≤ 1000000) : Calls Try.prog 35 #[u, .int .i64 (p : Int), .int .i64 h] w fun e w' => e = .returned (.bool (opC T p h)) ∧ Below w.heap.size w w' := by
  have HR := Lib.hid hr
  have HF := Lib.hid (fun W hW => far_any u T p W hW hp hn)
  obtain ⟨b, off, c, rfl, q1, q2, -, hc⟩ := hr.open (by omega)
  have HD := Lib.hid (fun W => dist_any T.length h p W (by omega) (by omega))
  obtain ⟨c1, c2⟩ := hc p hp
  have hp1 : (p : Int) < (T.length : Int) := by omega
  have HE := Lib.hid (fun W => empty_any (gt T p).1 (gt T p).2 W)
  have E := Lib.hid (show opC T p h = (emC (gt T p) || decide (fr T p < dI T.length h p)) from rfl)
  rw [show emC ((gt T p).1, (gt T p).2) = emC (gt T p) from rfl] at HE
  generalize (gt T p).2 = y at *
  generalize (gt T p).1 = x at *
  obtain ⟨D, hD⟩ : ∃ D, D = dI T.length h p := ⟨_, rfl⟩
  rw [← hD] at HD E
  clear hD hc
  generalize opC T p h = O at *
  generalize fr T p = F at *
  cases hb : emC (gt T p) with
  | true =>
    rw [hb] at HE E
    clear hb
    go_enter Try.func35, Try.ntmps35
    go_wp2_with (go_at_call 30; refine (HE.out _).mono ?_; rintro e w1 ⟨rfl, hb1⟩)
    go_ret
    exact ⟨ret_bool (by rw [E.out]; rfl), hb1⟩
  | false =>
    rw [hb] at HE E
    clear hb
    go_enter Try.func35, Try.ntmps35
    go_wp2_with (first 
      | (go_at_call 30; refine (HE.out _).mono ?_; rintro e w1 ⟨rfl, hb1⟩; have HR1 := Lib.hid (HR.out.mono hb1 (Nat.le_refl _)))
      | (go_at_call 42; refine (HF.out _ HR1.out).mono ?_; rintro e w2 ⟨rfl, rfl⟩)
      | (go_at_call 21; refine (HD.out _).mono ?_; rintro e w2 ⟨rfl, rfl⟩))
    go_ret
    exact ⟨ret_bool (by rw [E.out]; simp), hb1⟩
theorem named_any (u : Value) (T : List Cel) (x y : Int) (w : World) (hr : CRow w u T) : Calls Try.prog 43 #[u, .int .u32 x, .int .i64 y] w fun e w' => e = .returned (.bool (decide (x ≠ 0 ∧ 0 ≤ y ∧ y < T.length))) ∧ w = w' := by
  obtain ⟨a, c, rfl, q1, q2⟩ := hr.slice
  have HW := Lib.hid (fun W => within_any T.length y W)
  by_cases h1 : x = 0
  · subst h1
    go_enter Try.func43, Try.ntmps43
    go_wp2
    go_ret
    exact ⟨ret_bool (by simp), rfl⟩
  · have h2 : (x != 0) = true := by simp [h1]
    go_enter Try.func43, Try.ntmps43
    go_wp2_with (go_at_call 45; refine (HW.out _).mono ?_; rintro e w' ⟨rfl, rfl⟩)
    go_ret
    exact ⟨ret_bool (by simp [h1]), rfl⟩

/-- The function that computes positions forwards, backwards. -/
def fwV (b1 b2 : Nat) : Value := .func (.func 48) #[] #[.pointer (some ⟨b2, 0, none⟩), .pointer (some ⟨b1, 0, none⟩)]
def bwV (b1 b2 : Nat) : Value := .func (.func 49) #[] #[.pointer (some ⟨b2, 0, none⟩), .pointer (some ⟨b1, 0, none⟩)]
/-- Two boxes: a slice's, and a number's. -/
structure Box2 (W : World) (b1 b2 : Nat) (u : Value) (f : Int) : Prop where
  one : W.heap[b1]? = some (.cells #[u] 57 (0, 0))
  two : W.heap[b2]? = some (.cells #[.int .i64 f] 3 (0, 0))
theorem forwards_any (a : Option Addr) (n c : Nat) (f : Int) (w : World) :
    Calls Try.prog 33 #[.slice a n c, .int .i64 f] w fun e w' => ∃ b1 b2, e = .returned (fwV b1 b2) ∧ w.heap.size ≤ b1 ∧ w.heap.size ≤ b2 ∧ Box2 w' b1 b2 (.slice a n c) f ∧ Below w.heap.size w w' := by
  go_enter Try.func33, Try.ntmps33
  go_wp2
  go_ret
  refine ⟨w.heap.size, w.heap.size + 1, by simp [fwV], Nat.le_refl _, by omega, ⟨?_, ?_⟩, ((Below.refl _ w).alloc (Nat.le_refl _) _).alloc (by rw [size_alloc]; omega) _⟩
  · rw [heap_alloc_old _ _ (by rw [size_alloc]; omega)]; exact heap_alloc_new _ _
  · have := heap_alloc_new (w.alloc (.cells #[.slice a n c] 57)) (.cells #[.int .i64 f] 3)
    rwa [size_alloc] at this
theorem backwards_any (a : Option Addr) (n c : Nat) (f : Int) (w : World) :
    Calls Try.prog 38 #[.slice a n c, .int .i64 f] w fun e w' => ∃ b1 b2, e = .returned (bwV b1 b2) ∧ w.heap.size ≤ b1 ∧ w.heap.size ≤ b2 ∧ Box2 w' b1 b2 (.slice a n c) f ∧ Below w.heap.size w w' := by
  go_enter Try.func38, Try.ntmps38
  go_wp2
  go_ret
  refine ⟨w.heap.size, w.heap.size + 1, by simp [bwV], Nat.le_refl _, by omega, ⟨?_, ?_⟩, ((Below.refl _ w).alloc (Nat.le_refl _) _).alloc (by rw [size_alloc]; omega) _⟩
  · rw [heap_alloc_old _ _ (by rw [size_alloc]; omega)]; exact heap_alloc_new _ _
  · have := heap_alloc_new (w.alloc (.cells #[.slice a n c] 57)) (.cells #[.int .i64 f] 3)
    rwa [size_alloc] at this
theorem fw_any (a : Option Addr) (n c p i b1 b2 : Nat) (w : World) (hB : Box2 w b1 b2 (.slice a n c) p) (hn0 : 0 < n) (hn : n ≤ 1000000) (hp : p ≤ 1000000) (hi : i ≤ 1000000) :
    Calls Try.prog 48 #[.int .i64 (i : Int), .pointer (some ⟨b2, 0, none⟩), .pointer (some ⟨b1, 0, none⟩)] w fun e w' => e = .returned (.int .i64 (((p + i) % n : Nat) : Int)) ∧ w = w' := by
  have c1 := cell_of_one hB.one
  have c2 := cell_of_one hB.two
  have h0 : ¬ (n : Int) = 0 := by omega
  have hw := Lib.hid (show ((p : Int) + i) % n = ((p + i) % n : Nat) by rw [Int.natCast_emod, Int.natCast_add])
  clear hB
  go_enter Try.func48, Try.ntmps48
  go_wp2
  go_ret
  refine ⟨ret_int ?_, rfl⟩
  rw [hw.out]
theorem bw_any (a : Option Addr) (n c p i b1 b2 : Nat) (w : World) (hB : Box2 w b1 b2 (.slice a n c) p) (hn0 : 0 < n) (hn : n ≤ 1000000) (hp : p ≤ 1000000) (hi : i ≤ p + n) :
    Calls Try.prog 49 #[.int .i64 (i : Int), .pointer (some ⟨b2, 0, none⟩), .pointer (some ⟨b1, 0, none⟩)] w fun e w' => e = .returned (.int .i64 (((p + n - i) % n : Nat) : Int)) ∧ w = w' := by
  have c1 := cell_of_one hB.one
  have c2 := cell_of_one hB.two
  have h0 : ¬ (n : Int) = 0 := by omega
  have hw := Lib.hid (show ((p : Int) - i + n) % n = ((p + n - i) % n : Nat) by rw [show (p : Int) - i + n = ((p + n - i : Nat) : Int) by omega, Int.natCast_emod])
  clear hB
  go_enter Try.func49, Try.ntmps49
  go_wp2
  go_ret
  refine ⟨ret_int ?_, rfl⟩
  rw [hw.out]
end Go.Proofs.Ytjikikiconhlaaa.Pro
