/- What is asked of spans' functions; views; the walks of the statements SpansTell, SpansCut, SpansLie, SpansRow. -/
import Derived.Test.YtbjdlfeipidlbaaSpanA
namespace Go.Proofs.Ytbjdlfeipidlbaa.Span
open Go.RowKit Rec
set_option linter.unusedVariables false

/-- Views of v's parts: each with no room behind. -/
def VRow (w : World) (u v : Value) (P : List (Nat × Nat)) : Prop :=
  ∃ a cap, ∃ U : Nat → Value, u = .slice a P.length cap ∧ P.length ≤ cap ∧ cap ≤ 9223372036854775807 ∧
    (∀ i, i < P.length → ∃ x, U i = .slice x (P.getD i (0, 0)).2 (P.getD i (0, 0)).2 ∧ (0 < (P.getD i (0, 0)).2 → ∃ b off n c, v = .slice (some ⟨b, off, none⟩) n c ∧ x = some ⟨b, off + (P.getD i (0, 0)).1, none⟩)) ∧
    (P ≠ [] → ∃ hb ho, a = some ⟨hb, ho, none⟩ ∧ hb < w.heap.size ∧ ∀ i, i < P.length → w.cell? ⟨hb, ho + i, none⟩ = some (U i))
def VGot (w : World) (v : Value) (r : List (Nat × Nat) × Int) (e : Ending) (w' : World) : Prop :=
  ∃ u, e = .returned (.tuple #[u, .int .i64 r.2]) ∧ Below w.heap.size w w' ∧ VRow w' u v r.1
def CutGot (w : World) (l : List Int) (a m : Int) (e : Ending) (w' : World) : Prop :=
  Below w.heap.size w w' ∧ ((fitS l.length a m = true ∧ ∃ x, e = .returned (.tuple #[.slice x m.toNat m.toNat, .int .i64 0]) ∧ Row .u8 w' (.slice x m.toNat m.toNat) ((l.drop a.toNat).take m.toNat)) ∨
    (fitS l.length a m = false ∧ ∃ x c, e = .returned (.tuple #[.slice x 0 c, .int .i64 6])))
def PWr (w : World) (L : List (List Int)) (e : Ending) (w' : World) : Prop :=
  ∃ u, e = .returned (.tuple #[u, .int .i64 (szE L)]) ∧ Below w.heap.size w w' ∧ WRow w.heap.size w' u (pckB L)

/-- What spans' functions do (and records.Pack): what the walks of the statements ask. -/
structure Does : Prop where
  of_ : ∀ v l w, Row .u8 w v l → l.length ≤ 3000 → Calls Try.prog 9 #[v] w (OfGot w (ofV l))
  views : ∀ v l w, Row .u8 w v l → l.length ≤ 3000 → Calls Try.prog 19 #[v] w (VGot w v (ofV l))
  cut : ∀ v l a m w, Row .u8 w v l → l.length ≤ 3000 → -9223372036854775808 ≤ a → a ≤ 9223372036854775807 → -9223372036854775808 ≤ m → m ≤ 9223372036854775807 → Calls Try.prog 11 #[v, .agg #[.int .i64 a, .int .i64 m]] w (CutGot w l a m)
  inside : ∀ a n b m w, -9223372036854775808 ≤ a → a ≤ 9223372036854775807 → -9223372036854775808 ≤ n → n ≤ 9223372036854775807 → -9223372036854775808 ≤ b → b ≤ 9223372036854775807 → -9223372036854775808 ≤ m → m ≤ 9223372036854775807 →
    Calls Try.prog 13 #[.agg #[.int .i64 a, .int .i64 n], .agg #[.int .i64 b, .int .i64 m]] w fun e w' => e = .returned (.bool (insS a n b m)) ∧ Below w.heap.size w w'
  apart : ∀ a n b m w, -9223372036854775808 ≤ a → a ≤ 9223372036854775807 → -9223372036854775808 ≤ n → n ≤ 9223372036854775807 → -9223372036854775808 ≤ b → b ≤ 9223372036854775807 → -9223372036854775808 ≤ m → m ≤ 9223372036854775807 →
    Calls Try.prog 15 #[.agg #[.int .i64 a, .int .i64 n], .agg #[.int .i64 b, .int .i64 m]] w fun e w' => e = .returned (.bool (aprS a n b m)) ∧ Below w.heap.size w w'
  pack : ∀ v L w, QRow w v L → few6 L = true → Calls Try.prog 18 #[v] w (PWr w L)

theorem vex1 : ofV [2, 0, 2, 0, 2, 0, 97, 98] = ([(6, 2), (8, 0)], 0) := by rw [ofV_yes ex3]; rfl
theorem vex2 : unpV [1, 0, 1, 0, 120] = ([[120]], 0) := by
  have h := unp_pack [[120]] (by decide)
  exact h
theorem vex3 : ofV [1, 0, 1, 0, 120] = ([(4, 1)], 0) := by rw [ofV_yes vex2]; rfl
theorem vex4 : fitS 0 1 0 = false := by decide
theorem vex5 : (strOfNums [120]).toList = [120] := by rw [ByteArray.toList_eq]; kernel_rfl

def bytesV (l : List Int) : Array Value := (l.map (Value.int .u8)).toArray
theorem made_const (w : World) (l : List Int) (c : Array Value) (f : Nat × Nat) (n : Nat) (hc : c = (l.map (Value.int .u8)).toArray) (hn : l.length = n) (hb : ∀ i, 0 ≤ l.getD i 0 ∧ l.getD i 0 < 256) (h : l.length ≤ 1000) : Row .u8 (w.alloc (.cells c 5 f)) (.slice (some ⟨w.heap.size, 0, none⟩) n n) l := by
  subst hn
  exact Row.made_mark w l 5 c f hc (fun i _ => by have := hb i; exact WalkArith.wf_u8 (by omega)) (by omega)
theorem bd8 (i : Nat) : 0 ≤ ([2, 0, 2, 0, 2, 0, 97, 98] : List Int).getD i 0 ∧ ([2, 0, 2, 0, 2, 0, 97, 98] : List Int).getD i 0 < 256 := by
  rcases i with _ | _ | _ | _ | _ | _ | _ | _ | i <;> simp
theorem bd5 (i : Nat) : 0 ≤ ([1, 0, 1, 0, 120] : List Int).getD i 0 ∧ ([1, 0, 1, 0, 120] : List Int).getD i 0 < 256 := by
  rcases i with _ | _ | _ | _ | _ | i <;> simp

set_option maxRecDepth 100000 in
set_option maxHeartbeats 2000000 in
theorem views_any (D : Does) (w : World) :
    Calls Try.prog 8 #[] w fun e w' => e = .returned (.bool true) ∧ Below w.heap.size w w' := by
  have HD := Lib.hid D
  have kc := Lib.run_convert_bytes_const (P := Try.prog) w 22 5 #[.int .u8 2, .int .u8 0, .int .u8 2, .int .u8 0, .int .u8 2, .int .u8 0, .int .u8 97, .int .u8 98] 8 8 Try.underlying22 Try.underlying5
  have HR := Lib.hid (made_const w [2, 0, 2, 0, 2, 0, 97, 98] _ (8, 9) 8 rfl rfl bd8 (by decide))
  have B0 := below_made w (.cells #[.int .u8 2, .int .u8 0, .int .u8 2, .int .u8 0, .int .u8 2, .int .u8 0, .int .u8 97, .int .u8 98] 5 (8, 9))
  go_enter Try.func8, Try.ntmps8
  go_wp2_with fail
  refine (HD.out.of_ _ _ _ HR.out (by decide)).mono ?_
  rintro e w1 ⟨u1, he, hb1, hp1⟩
  rw [vex1] at he hp1
  subst he
  have hb1' := B0.trans (hb1.mono B0.size)
  have HP1 := Lib.hid hp1
  clear HR hb1 hp1 kc B0
  have kc := Lib.run_convert_bytes_const (P := Try.prog) w1 22 5 #[.int .u8 1, .int .u8 0, .int .u8 1, .int .u8 0, .int .u8 120] 5 5 Try.underlying22 Try.underlying5
  have HR := Lib.hid (made_const w1 [1, 0, 1, 0, 120] _ (5, 6) 5 rfl rfl bd5 (by decide))
  have B1 := below_made w1 (.cells #[.int .u8 1, .int .u8 0, .int .u8 1, .int .u8 0, .int .u8 120] 5 (5, 6))
  go_wp2_with fail
  refine (HD.out.views _ _ _ HR.out (by decide)).mono ?_
  rintro e w2 ⟨u2, he, hb2, hv2⟩
  rw [vex3] at he hv2
  subst he
  have B2 := B1.trans (hb2.mono B1.size)
  have hb2' := hb1'.trans (B2.mono hb1'.size)
  have HP2 := Lib.hid (HP1.out.mono B2 (Nat.le_refl _))
  have HR2 := Lib.hid (HR.out.mono hb2 (Nat.le_refl _))
  have HV2 := Lib.hid hv2
  clear HP1 HR kc B1 hb2 hv2 hb1'
  go_wp2_with fail
  refine (HD.out.cut _ [] _ _ _ (Row.nil _ _) (by decide) (by decide) (by decide) (by decide) (by decide)).mono ?_
  rintro e w3 ⟨hb3, hcut⟩
  rw [show fitS ([] : List Int).length 1 0 = false from vex4] at hcut
  obtain ⟨x3, c3, rfl⟩ : ∃ x c, e = .returned (.tuple #[.slice x 0 c, .int .i64 6]) := by
    rcases hcut with ⟨h, -⟩ | ⟨-, h⟩
    · cases h
    · exact h
  clear hcut
  have hb3' := hb2'.trans (hb3.mono hb2'.size)
  have hp3 := HP2.out.mono hb3 (Nat.le_refl _)
  have hr3 := HR2.out.mono hb3 (Nat.le_refl _)
  obtain ⟨a1, k1, rfl, -, -, g1⟩ := hp3
  obtain ⟨b1, o1, rfl, -, g2⟩ := g1 (by simp)
  have e0 : w3.cell? ⟨b1, o1, none⟩ = some (.int .i64 6) := (g2 0 (by decide)).1
  have e1 : w3.cell? ⟨b1, o1 + 1, none⟩ = some (.int .i64 2) := (g2 0 (by decide)).2
  have e2 : w3.cell? ⟨b1, o1 + 2, none⟩ = some (.int .i64 8) := (g2 1 (by decide)).1
  have e3 : w3.cell? ⟨b1, o1 + 3, none⟩ = some (.int .i64 0) := (g2 1 (by decide)).2
  obtain ⟨a2, k2, U, rfl, -, -, v1, v2⟩ := HV2.out
  obtain ⟨x, hx, hx2⟩ := v1 0 (by decide)
  obtain ⟨hb, ho, rfl, hlt, hh⟩ := v2 (by simp)
  obtain ⟨bv, ov, nv, cv, hv, rfl⟩ := hx2 (by decide)
  injection hv with hv1 hv2 hv3
  injection hv1 with hv1
  injection hv1 with hv1 hv4 hv5
  subst hv1 hv4 hv2 hv3
  have f0 : w3.cell? ⟨hb, ho, none⟩ = some (U 0) := (hb3.cell (p := ⟨hb, ho, none⟩) hlt).trans (hh 0 (by decide))
  rw [hx] at f0
  have hr5 : Row .u8 w3 (.slice (some ⟨w1.heap.size, 4, none⟩) 1 1) [120] := by
    have := Row.tail (l := [1, 0, 1, 0, 120]) (n := 4) hr3 (by decide)
    simpa using this
  have hconv : (convert 22 9 (.slice (some ⟨w1.heap.size, 4, none⟩) 1 1)).run Try.prog w3 = .ok (.string (strOfNums [120])) w3 := Row.string (P := Try.prog) hr5 22 9 5 Try.underlying22 Try.underlying5 Try.underlying9
  have hstr := vex5
  clear g1 g2 v1 v2 hx hx2 hh hr3 hr5 hb3 hb2' B2
  go_wp2
  go_ret
  exact ⟨rfl, hb3'⟩

set_option maxRecDepth 100000 in
set_option maxHeartbeats 2000000 in
theorem spansTell_walk (D : Does) (v : Value) (l : List Int) (w : World) (hr : Row .u8 w v l) :
    Calls Try.prog 3 #[v] w fun e w' => e = .returned (.bool true) ∧ Below w.heap.size w w' := by
  have HD := Lib.hid D
  have HR := Lib.hid hr
  obtain ⟨ad, cap, rfl, -, -, -, -⟩ := hr
  by_cases h : (3000 : Int) < l.length
  · go_enter Try.func3, Try.ntmps3
    go_wp2_with fail
    refine (views_any HD.out _).mono ?_
    rintro e w1 ⟨rfl, hb⟩
    go_wp2
    go_ret
    exact ⟨rfl, hb⟩
  · have HG := Lib.hid (HD.out.of_ _ l w HR.out (by omega))
    have HG2 := Lib.hid (fun u hu => refOf_any (.slice ad l.length cap) l u hu (by omega))
    obtain ⟨r, hrr⟩ : ∃ r, r = ofV l := ⟨_, rfl⟩
    unfold OfGot at HG HG2
    rw [← hrr] at HG HG2
    obtain ⟨P, c⟩ := r
    simp only [] at HG HG2
    clear hrr
    go_enter Try.func3, Try.ntmps3
    go_wp2_with fail
    refine HG.out.mono ?_
    rintro e w1 ⟨u1, rfl, hb1, hr1⟩
    simp only []
    have HR1 := Lib.hid (HR.out.mono hb1 (Nat.le_refl _))
    have HS1 := Lib.hid hr1
    clear hr1
    go_wp2_with fail
    refine (HG2.out _ HR1.out).mono ?_
    rintro e w2 ⟨u2, rfl, hb2, hr2⟩
    simp only []
    have hs2 := HS1.out.mono hb2 (Nat.le_refl _)
    have hb2' := hb1.trans (hb2.mono hb1.size)
    obtain ⟨a1, k1, rfl, q1, q2, g1⟩ := hs2
    obtain ⟨a2, k2, rfl, -, -, g2⟩ := hr2
    have hPl : (P.length : Int) ≤ 9223372036854775807 := by omega
    have G1 := Lib.hid g1
    have G2 := Lib.hid g2
    clear g1 g2 hb1 hb2 HS1 HR1 HG HG2
    go_wp2
    go_loopw [7] (fun i wr => ∃ k : Nat, k ≤ P.length ∧ i = .int .i64 k ∧ Hid (∃ m, wr = w2.drewN m)) (fun i _ => P.length - (intOf i).toNat)
    case atStart => exact ⟨0, Nat.zero_le _, rfl, 0, rfl⟩
    case round =>
      obtain ⟨k, hk, rfl, HW⟩ := hrel
      by_cases hlt : k < P.length
      · have hlt1 : (k : Int) < (P.length : Int) := by omega
        have hlt0 : (0 : Int) ≤ (k : Int) := by omega
        have hbel := below_drawn (Below.refl w2.heap.size w2) HW.out
        obtain ⟨b1, o1, rfl, hb1, hc1⟩ := G1.out (by rintro rfl; simp at hlt)
        obtain ⟨b2, o2, rfl, hb2, hc2⟩ := G2.out (by rintro rfl; simp at hlt)
        have c1 := (hbel.cell (p := ⟨b1, o1 + k * 2, none⟩) hb1).trans (hc1 k hlt).1
        have c2 := (hbel.cell (p := ⟨b1, o1 + k * 2 + 1, none⟩) hb1).trans (hc1 k hlt).2
        have c3 := (hbel.cell (p := ⟨b2, o2 + k * 2, none⟩) hb2).trans (hc2 k hlt).1
        have c4 := (hbel.cell (p := ⟨b2, o2 + k * 2 + 1, none⟩) hb2).trans (hc2 k hlt).2
        obtain ⟨x, hx⟩ : ∃ x, x = P.getD k (0, 0) := ⟨_, rfl⟩
        rw [← hx] at c1 c2 c3 c4
        obtain ⟨y, z⟩ := x
        simp only [] at c1 c2 c3 c4
        clear hc1 hc2 hx hbel
        go_wp2_with fail
        go_quiet (fail)
        go_wp2
        go_roundw
        case rel => exact ⟨k + 1, by omega, by go_num, drewN_more HW.out _⟩
        case measure => simp [intOf]; omega
      · obtain rfl : k = P.length := by omega
        have hb3 := below_drawn hb2' HW.out
        go_wp2_with fail
        refine (views_any HD.out _).mono ?_
        rintro e w4 ⟨rfl, hb4⟩
        go_wp2
        go_ret
        exact ⟨rfl, hb3.trans (hb4.mono hb3.size)⟩

set_option maxRecDepth 100000 in
set_option maxHeartbeats 4000000 in
theorem spansLie_walk (D : Does) (a n b m : Int) (w : World) (a1 : -9223372036854775808 ≤ a) (a2 : a ≤ 9223372036854775807) (n1 : -9223372036854775808 ≤ n) (n2 : n ≤ 9223372036854775807) (b1 : -9223372036854775808 ≤ b) (b2 : b ≤ 9223372036854775807) (m1 : -9223372036854775808 ≤ m) (m2 : m ≤ 9223372036854775807) :
    Calls Try.prog 5 #[.agg #[.int .i64 a, .int .i64 n], .agg #[.int .i64 b, .int .i64 m]] w fun e w' => e = .returned (.bool true) ∧ Below w.heap.size w w' := by
  have HD := Lib.hid D
  have hb0 : Below w.heap.size w (W2 w a n b m) := ((Below.refl _ w).alloc (Nat.le_refl _) _).alloc (by simp) _
  obtain ⟨c1, c2, c3, c4, hz⟩ := two_boxes (Below.refl (W2 w a n b m).heap.size (W2 w a n b m))
  have k1 := Kept.cell c1 (show w.heap.size < (W2 w a n b m).heap.size by omega)
  have k2 := Kept.cell c2 (show w.heap.size < (W2 w a n b m).heap.size by omega)
  have k3 := Kept.cell c3 (show w.heap.size + 1 < (W2 w a n b m).heap.size by omega)
  have k4 := Kept.cell c4 (show w.heap.size + 1 < (W2 w a n b m).heap.size by omega)
  unfold W2 at k1 k2 k3 k4 hb0
  have H1 := Lib.hid (fun u => HD.out.inside a n b m u a1 a2 n1 n2 b1 b2 m1 m2)
  have H2 := Lib.hid (fun u => refInside_any a n b m u)
  have H3 := Lib.hid (fun u => HD.out.apart a n b m u a1 a2 n1 n2 b1 b2 m1 m2)
  have H4 := Lib.hid (fun u => refApart_any a n b m u)
  have H5 := Lib.hid (fun u => HD.out.apart b m a n u b1 b2 m1 m2 a1 a2 n1 n2)
  rw [aprS_comm b m a n] at H5
  generalize insS a n b m = p at H1 H2
  generalize aprS a n b m = q at H3 H4 H5
  have hp : (p == p) = true := by simp
  have hq : (q == q) = true := by simp
  have H35 : Hid (∀ x y z t u, ((x = a ∧ y = n ∧ z = b ∧ t = m) ∨ (x = b ∧ y = m ∧ z = a ∧ t = n)) →
      Calls Try.prog 15 #[.agg #[.int .i64 x, .int .i64 y], .agg #[.int .i64 z, .int .i64 t]] u fun e w' => e = .returned (.bool q) ∧ Below u.heap.size u w') := by
    intro x y z t u h
    rcases h with ⟨rfl, rfl, rfl, rfl⟩ | ⟨rfl, rfl, rfl, rfl⟩
    · exact H3.out u
    · exact H5.out u
  clear c1 c2 c3 c4 hz a1 a2 n1 n2 b1 b2 m1 m2 H3 H5
  go_enter Try.func5, Try.ntmps5
  go_wp2_with fail
  refine wp_region_kept (by kernel_rfl) (by kernel_rfl) ?_
  repeat (go_big_quiet_step (first
    | (go_at_call 13; exact Calls.kept_of (H1.out _) (Nat.le_refl _))
    | (go_at_call 14; exact Calls.kept_of (H2.out _) (Nat.le_refl _))
    | (go_at_call 15; exact Calls.kept_of (H35.out _ _ _ _ _ (by first | exact .inl ⟨rfl, rfl, rfl, rfl⟩ | exact .inr ⟨rfl, rfl, rfl, rfl⟩)) (Nat.le_refl _))
    | (go_at_call 16; exact Calls.kept_of (H4.out _) (Nat.le_refl _))
    | (go_at_call 8; exact Calls.kept_of (views_any HD.out _) (Nat.le_refl _))))
  refine wpQuiet_nil ?_
  intro _ hw'
  obtain ⟨kk, rfl⟩ := hw'
  have hb8 := hb0.trans (kk.below.mono hb0.size)
  go_wp2
  go_ret
  exact ⟨rfl, hb8⟩

theorem cutBack {w : World} {ad : Option Addr} {cap : Nat} {l : List Int} {a m : Int} (hr : Row .u8 w (.slice ad l.length cap) l) (hf : fitS l.length a m = true) :
    Row .u8 w (.slice (if cap = a.toNat then ad else ad.map (·.add a.toNat)) m.toNat (cap - a.toNat)) ((l.drop a.toNat).take m.toNat) := by
  have h : 0 ≤ a ∧ 0 ≤ m ∧ a ≤ l.length ∧ m ≤ l.length - a := by simpa [fitS, and_assoc] using hf
  have h1 := Row.from_ (n := a.toNat) hr (by omega)
  rw [← List.length_drop] at h1
  exact Row.take h1 (by rw [List.length_drop]; omega)

set_option maxRecDepth 100000 in
set_option maxHeartbeats 4000000 in
theorem spansCut_walk (D : Does) (v : Value) (l : List Int) (a m : Int) (w : World) (hr : Row .u8 w v l) (a1 : -9223372036854775808 ≤ a) (a2 : a ≤ 9223372036854775807) (m1 : -9223372036854775808 ≤ m) (m2 : m ≤ 9223372036854775807) :
    Calls Try.prog 4 #[v, .agg #[.int .i64 a, .int .i64 m]] w fun e w' => e = .returned (.bool true) ∧ Below w.heap.size w w' := by
  have HD := Lib.hid D
  have hb0 := below_made w (.cells #[.int .i64 a, .int .i64 m] 31)
  have HR := Lib.hid (hr.mono hb0 (Nat.le_refl _))
  have e0 := heap_alloc_new w (.cells #[.int .i64 a, .int .i64 m] 31)
  have hs0 := size_alloc w (.cells #[.int .i64 a, .int .i64 m] 31)
  have HB := Lib.hid hr.bytes
  obtain ⟨ad, cap, rfl, q2, q3, -, q5⟩ := hr
  by_cases h : (3000 : Int) < l.length
  · clear e0
    go_enter Try.func4, Try.ntmps4
    go_wp2_with fail
    refine (views_any HD.out _).mono ?_
    rintro e w1 ⟨rfl, hb⟩
    go_wp2
    go_ret
    exact ⟨rfl, hb0.trans (hb.mono hb0.size)⟩
  · have hl : l.length ≤ 3000 := by omega
    have HG := Lib.hid (HD.out.cut _ l a m _ HR.out hl a1 a2 m1 m2)
    unfold CutGot at HG
    have HF := Lib.hid (fun u => refFits_any l.length a m u (by omega))
    have E0 := Lib.hid e0
    clear e0
    by_cases hf : fitS l.length a m = true
    · have hfb : 0 ≤ a ∧ 0 ≤ m ∧ a ≤ l.length ∧ m ≤ l.length - a := by simpa [fitS, and_assoc] using hf
      have HFB := Lib.hid hf
      rw [hf] at HF HG
      obtain ⟨an, rfl⟩ := Int.eq_ofNat_of_zero_le hfb.1
      obtain ⟨mn, rfl⟩ := Int.eq_ofNat_of_zero_le hfb.2.1
      have f3 : (an : Int) + mn ≤ l.length := by omega
      have f4 : (an : Int) + mn ≤ cap := by omega
      have f5 : (an : Int) ≤ (an : Int) + mn := by omega
      have f6 : (0 : Int) ≤ (an : Int) := by omega
      have f7 : (mn : Int) ≤ 3000 := by omega
      have f8 : (an : Int) ≤ 3000 := by omega
      simp only [Int.toNat_natCast] at HG
      clear hf hfb a1 a2 m1 m2
      go_enter Try.func4, Try.ntmps4
      go_wp2_with fail
      refine HG.out.mono ?_
      rintro e w1 ⟨hb1, hor⟩
      obtain ⟨x, rfl, hx⟩ : ∃ x, e = .returned (.tuple #[.slice x mn mn, .int .i64 0]) ∧ Row .u8 w1 (.slice x mn mn) ((l.drop an).take mn) := by
        rcases hor with ⟨-, h⟩ | ⟨h, -⟩
        · exact h
        · cases h
      clear hor
      have hb1' := hb0.trans (hb1.mono hb0.size)
      have e1 : w1.heap[w.heap.size]? = some (.cells #[.int .i64 (an : Int), .int .i64 (mn : Int)] 31 (0, 0)) := (hb1.block _ (by omega)).trans E0.out
      have c1 : w1.cell? ⟨w.heap.size, 0, none⟩ = some (.int .i64 (an : Int)) := by rw [cell_block e1]; rfl
      have c2 : w1.cell? ⟨w.heap.size, 1, none⟩ = some (.int .i64 (mn : Int)) := by rw [cell_block e1]; rfl
      have hz1 := hb1.size
      have HX := Lib.hid hx
      have HR1 := Lib.hid (HR.out.mono hb1 (Nat.le_refl _))
      clear e1 hx HG
      go_wp2_with fail
      refine (HF.out _).mono ?_
      rintro e w2 ⟨rfl, hb2⟩
      have hb2' := hb1'.trans (hb2.mono hb1'.size)
      have hz2 := hb2.size
      have d1 := (hb2.cell (p := ⟨w.heap.size, 0, none⟩) (show w.heap.size < w1.heap.size by omega)).trans c1
      have d2 := (hb2.cell (p := ⟨w.heap.size, 1, none⟩) (show w.heap.size < w1.heap.size by omega)).trans c2
      have k1 := Kept.cell d1 (show w.heap.size < w2.heap.size by omega)
      have k2 := Kept.cell d2 (show w.heap.size < w2.heap.size by omega)
      have HX2 := Lib.hid (HX.out.mono hb2 (Nat.le_refl _))
      have HR2 := Lib.hid (HR1.out.mono hb2 (Nat.le_refl _))
      obtain ⟨S, hS⟩ : ∃ S, S = strOfNums ((l.drop an).take mn) := ⟨_, rfl⟩
      have kc1 : ∀ k : Kept w2.heap.size w2, (convert 22 9 (.slice x mn mn)).run Try.prog k.w = .ok (.string S) k.w := fun k => by
        rw [hS]
        exact Row.string (P := Try.prog) (HX2.out.mono k.below (Nat.le_refl _)) 22 9 5 Try.underlying22 Try.underlying5 Try.underlying9
      have hself : (S.toList == S.toList) = true := by simp
      have hcb := fun k : Kept w2.heap.size w2 => cutBack (HR2.out.mono k.below (Nat.le_refl _)) HFB.out
      simp only [Int.toNat_natCast] at hcb
      have HCB := Lib.hid hcb
      clear hcb c1 c2 d1 d2 hb1 hb2 hb1'
      cases ad with
      | none =>
        have hm0 : l = [] := Decidable.byContradiction fun hne => by
          obtain ⟨b, off, e, -⟩ := q5 hne
          cases e
        subst hm0
        simp only [List.length_nil] at f3 f5 HCB hS
        obtain rfl : an = 0 := by omega
        obtain rfl : mn = 0 := by omega
        have kc2 : ∀ k : Kept w2.heap.size w2, (convert 22 9 (.slice none 0 cap)).run Try.prog k.w = .ok (.string S) k.w := fun k => by
          rw [hS]
          have := HCB.out k
          simp at this
          exact Row.string (P := Try.prog) this 22 9 5 Try.underlying22 Try.underlying5 Try.underlying9
        clear hS q5
        have hw0 : IntKind.i64.wrap 0 = 0 := by decide
        have HZ := Lib.hid hb2'
        go_wp2_with fail
        refine wp_region_kept (by kernel_rfl) (by kernel_rfl) ?_
        repeat (go_big_quiet_step (first
          | (go_at_call 8; exact Calls.kept_of (views_any HD.out _) (Nat.le_refl _))))
        refine wpQuiet_nil ?_
        intro _ hw'
        obtain ⟨kk, rfl⟩ := hw'
        have hb8 := HZ.out.trans (kk.below.mono HZ.out.size)
        go_wp2
        go_ret
        exact ⟨rfl, hb8⟩
      | some p =>
        obtain ⟨sn, hsn⟩ : ∃ sn, sn = an + mn := ⟨_, rfl⟩
        have hw0 : IntKind.i64.wrap ((an : Int) + mn) = (sn : Int) := (wrap_id (by omega) (by omega)).trans (by omega)
        have g1 : (an : Int) ≤ (sn : Int) := by omega
        have g2 : (sn : Int) ≤ (cap : Int) := by omega
        have g3 : (0 : Int) ≤ (sn : Int) := by omega
        have hsm : sn - an = mn := by omega
        clear hsn f3 f4 f5
        by_cases hcap : cap = an
        · have hm0 : mn = 0 := by omega
          have hsa : sn = an := by omega
          subst hsa hm0
          subst hcap
          have hw1 : IntKind.i64.wrap (cap : Int) = (cap : Int) := wrap_id (by omega) (by omega)
          have kc2 : ∀ k : Kept w2.heap.size w2, (convert 22 9 (.slice (some p) 0 0)).run Try.prog k.w = .ok (.string S) k.w := fun k => by
            rw [hS]
            have := HCB.out k
            simp at this
            exact Row.string (P := Try.prog) this 22 9 5 Try.underlying22 Try.underlying5 Try.underlying9
          clear hS q5
          have HZ := Lib.hid hb2'
          go_wp2_with fail
          refine wp_region_kept (by kernel_rfl) (by kernel_rfl) ?_
          repeat (go_big_quiet_step (first
            | (go_at_call 8; exact Calls.kept_of (views_any HD.out _) (Nat.le_refl _))))
          refine wpQuiet_nil ?_
          intro _ hw'
          obtain ⟨kk, rfl⟩ := hw'
          have hb8 := HZ.out.trans (kk.below.mono HZ.out.size)
          go_wp2
          go_ret
          exact ⟨rfl, hb8⟩
        · have kc2 : ∀ k : Kept w2.heap.size w2, (convert 22 9 (.slice (some (p.add an)) mn (cap - an))).run Try.prog k.w = .ok (.string S) k.w := fun k => by
            rw [hS]
            have := HCB.out k
            rw [if_neg hcap] at this
            exact Row.string (P := Try.prog) this 22 9 5 Try.underlying22 Try.underlying5 Try.underlying9
          clear hS q5
          have HZ := Lib.hid hb2'
          go_wp2_with fail
          refine wp_region_kept (by kernel_rfl) (by kernel_rfl) ?_
          repeat (go_big_quiet_step (first
            | (go_at_call 8; exact Calls.kept_of (views_any HD.out _) (Nat.le_refl _))))
          refine wpQuiet_nil ?_
          intro _ hw'
          obtain ⟨kk, rfl⟩ := hw'
          have hb8 := HZ.out.trans (kk.below.mono HZ.out.size)
          go_wp2
          go_ret
          exact ⟨rfl, hb8⟩
    · have hf' : fitS l.length a m = false := by simpa using hf
      rw [hf'] at HF HG
      clear hf hf' a1 a2 m1 m2
      go_enter Try.func4, Try.ntmps4
      go_wp2_with fail
      refine HG.out.mono ?_
      rintro e w1 ⟨hb1, hor⟩
      obtain ⟨x, c, rfl⟩ : ∃ x c, e = .returned (.tuple #[.slice x 0 c, .int .i64 6]) := by
        rcases hor with ⟨h, -⟩ | ⟨-, h⟩
        · cases h
        · exact h
      clear hor
      have hb1' := hb0.trans (hb1.mono hb0.size)
      have e1 : w1.heap[w.heap.size]? = some (.cells #[.int .i64 a, .int .i64 m] 31 (0, 0)) := (hb1.block _ (by omega)).trans E0.out
      have c1 : w1.cell? ⟨w.heap.size, 0, none⟩ = some (.int .i64 a) := by rw [cell_block e1]; rfl
      have c2 : w1.cell? ⟨w.heap.size, 1, none⟩ = some (.int .i64 m) := by rw [cell_block e1]; rfl
      clear e1 HG
      go_wp2_with fail
      refine (HF.out _).mono ?_
      rintro e w2 ⟨rfl, hb2⟩
      have hb2' := hb1'.trans (hb2.mono hb1'.size)
      go_wp2_with fail
      refine (views_any HD.out _).mono ?_
      rintro e w3 ⟨rfl, hb3⟩
      go_wp2
      go_ret
      exact ⟨rfl, hb2'.trans (hb3.mono hb2'.size)⟩
end Go.Proofs.Ytbjdlfeipidlbaa.Span
