/- Contracts of the statements' helpers: own, given, same, the page's example. -/
import Derived.Test.YtjikikiconhlaaaProH
import Derived.Deep.AppendLies
namespace Go.Proofs.Ytjikikiconhlaaa.Pro
open Go.RowKit
set_option linter.unusedVariables false

theorem infoR : (Try.prog.info? 51).map (fun i => (i.zero, i.size, i.bytes)) = some (some (.agg #[.int .u32 0, .int .i64 0]), 2, 16) := by kernel_rfl

set_option maxRecDepth 100000 in
theorem own_any (u : Value) (T : List Cel) (w : World) (hr : CRow w u T) (hn : T.length ≤ 1000) :
    Calls Try.prog 9 #[u] w fun e w' => ∃ v, e = .returned v ∧ CRow w' v T ∧ Below w.heap.size w w' := by
  obtain ⟨i0, hi, hz0, hz1, hz2⟩ := info_parts infoC
  by_cases h0 : 0 < T.length
  · obtain ⟨b, off, c, rfl, q1, q2, hblt, hc⟩ := hr.open h0
    have HC := Lib.hid hc
    have HRow : Hid (∀ (W : World) (v : Value), W.ownsRow w.heap.size 48 2 v T.length (valsA encC T) → CRow W v T) := fun W v h => arow_of_owns encC_len (0, 0) h rfl
    clear hc hr
    go_enter Try.func9, Try.ntmps9
    go_wp2
    go_loopw [3, 4] (fun v i wr => ∃ k : Nat, k ≤ T.length ∧ i = .int .i64 k ∧ Hid (Below w.heap.size w wr) ∧ Hid (wr.ownsRow w.heap.size 48 2 v k (valsA encC (T.take k)))) (fun _ i _ => T.length - (intOf i).toNat)
    case atStart => exact ⟨0, Nat.zero_le _, rfl, Below.refl _ _, World.ownsRow_nil _ _ _ _⟩
    case round =>
      obtain ⟨k, hk, rfl, HB, HO⟩ := hrel
      by_cases hlt : k < T.length
      · have hlt1 : (k : Int) < (T.length : Int) := by omega
        obtain ⟨d1, d2⟩ := HC.out k hlt
        have c1 := (HB.out.cell (p := ⟨b, off + k * 2, none⟩) hblt).trans d1
        have c2 := (HB.out.cell (p := ⟨b, off + k * 2 + 1, none⟩) hblt).trans d2
        have hsz := HB.out.size
        have HNB := ne_low HO.out hblt
        have HS := Lib.hid (show valsA encC (T.take (k + 1)) = valsA encC (T.take k) ++ [.int .u32 (gt T k).1, .int .i64 (gt T k).2] by rw [List.take_succ_eq_append_getElem hlt, valsA_snoc]; simp [gt, List.getD, hlt, encC])
        generalize (gt T k).1 = x at *
        generalize (gt T k).2 = y at *
        clear d1 d2
        have hvs : (valsA encC (T.take k)).length = k * 2 := HO.out.1
        go_wp2_with fail
        go_region_held3 (fun w' => w'.cell? ⟨b, off + k * 2, none⟩ = some (.int .u32 x) ∧ w'.cell? ⟨b, off + k * 2 + 1, none⟩ = some (.int .i64 y))
          (first | go_keep | (go_split_ands; refine ⟨?_, ?_⟩ <;> (rw [hgrow.cell_far _ (by simp; omega) HNB]; assumption)))
          ((refine step_append_lies _ (by rfl) (.tmp 11) (.tmp 23) 25 (by rfl) w.heap.size 48 i0 _ 2 16 Try.underlying25 hi hz0 hz1 hz2 rfl (by decide) _ k (valsA encC (T.take k)) (by rfl) ((HO.out.alloc _).drew) ⟨wr.heap.size, 0, none⟩ 1 1 [.int .u32 x, .int .i64 y] (by rfl) (by rfl) (World.news_of_block (cs := #[.int .u32 x, .int .i64 y]) (t := 48) (fr := (0, 0)) (heap_alloc_new wr _)) (by simp [Value.oneCell']) (by omega) (by unfold maxLen; omega) (by omega) (by simp; omega) (wr.heap.size + 1) (by simp) ?_; intro g cap2 W1 hown1 hgrow hat hlt2))
        have hb1 : Hid (Below w.heap.size w W1) := ((HB.out.alloc hsz _).drew).grown hgrow (by simp; omega) (fun r hr => (HO.out.lt r hr).1)
        have HO1 : Hid (W1.ownsRow w.heap.size 48 2 (.slice (some ⟨g, 0, none⟩) (k + 1) cap2) (k + 1) (valsA encC (T.take (k + 1)))) := by
          unfold Hid; rw [HS.out]; exact hown1
        clear hown1 hgrow hat c1 c2 hsz HNB
        go_wp2
        go_roundw
        case rel => exact ⟨k + 1, by omega, by go_num, hb1, HO1⟩
        case measure => simp [intOf]; omega
      · obtain rfl : k = T.length := by omega
        have hO := HO.out
        rw [List.take_length] at hO
        have HR2 := Lib.hid (HRow.out _ _ hO)
        clear hO
        go_wp2
        go_ret
        exact ⟨_, rfl, HR2.out, HB.out⟩
  · obtain rfl : T = [] := List.length_eq_zero_iff.1 (by omega)
    obtain ⟨a, c, rfl, -, -⟩ := hr.slice
    clear hr
    go_enter Try.func9, Try.ntmps9
    go_wp2
    go_loopw [3, 4] (fun v i wr => v = .slice none 0 0 ∧ i = .int .i64 0 ∧ w = wr) (fun _ i _ => 0)
    case atStart => exact ⟨rfl, rfl, rfl⟩
    case round =>
      obtain ⟨rfl, rfl, rfl⟩ := hrel
      go_wp2
      go_ret
      exact ⟨_, rfl, CRow.nil _, Below.refl _ _⟩

set_option maxRecDepth 100000 in
theorem given_any (u : Value) (T : List Cel) (w : World) (hr : CRow w u T) (hn : T.length ≤ 1000) :
    Calls Try.prog 24 #[u] w fun e w' => ∃ v, e = .returned v ∧ CRow w' v T ∧ Below w.heap.size w w' := by
  obtain ⟨i0, hi, hz0, hz1, hz2⟩ := info_parts infoR
  by_cases h0 : 0 < T.length
  · obtain ⟨b, off, c, rfl, q1, q2, hblt, hc⟩ := hr.open h0
    have HC := Lib.hid hc
    have HRow : Hid (∀ (W : World) (v : Value), W.ownsRow w.heap.size 51 2 v T.length (valsA encC T) → CRow W v T) := fun W v h => arow_of_owns encC_len (0, 0) h rfl
    clear hc hr
    go_enter Try.func24, Try.ntmps24
    go_wp2
    go_loopw [3, 4] (fun v i wr => ∃ k : Nat, k ≤ T.length ∧ i = .int .i64 k ∧ Hid (Below w.heap.size w wr) ∧ Hid (wr.ownsRow w.heap.size 51 2 v k (valsA encC (T.take k)))) (fun _ i _ => T.length - (intOf i).toNat)
    case atStart => exact ⟨0, Nat.zero_le _, rfl, Below.refl _ _, World.ownsRow_nil _ _ _ _⟩
    case round =>
      obtain ⟨k, hk, rfl, HB, HO⟩ := hrel
      by_cases hlt : k < T.length
      · have hlt1 : (k : Int) < (T.length : Int) := by omega
        obtain ⟨d1, d2⟩ := HC.out k hlt
        have c1 := (HB.out.cell (p := ⟨b, off + k * 2, none⟩) hblt).trans d1
        have c2 := (HB.out.cell (p := ⟨b, off + k * 2 + 1, none⟩) hblt).trans d2
        have hsz := HB.out.size
        have HNB := ne_low HO.out hblt
        have HS := Lib.hid (show valsA encC (T.take (k + 1)) = valsA encC (T.take k) ++ [.int .u32 (gt T k).1, .int .i64 (gt T k).2] by rw [List.take_succ_eq_append_getElem hlt, valsA_snoc]; simp [gt, List.getD, hlt, encC])
        generalize (gt T k).1 = x at *
        generalize (gt T k).2 = y at *
        clear d1 d2
        have hvs : (valsA encC (T.take k)).length = k * 2 := HO.out.1
        go_wp2_with fail
        go_region_held3 (fun w' => w'.cell? ⟨b, off + k * 2, none⟩ = some (.int .u32 x) ∧ w'.cell? ⟨b, off + k * 2 + 1, none⟩ = some (.int .i64 y))
          (first | go_keep | (go_split_ands; refine ⟨?_, ?_⟩ <;> (rw [hgrow.cell_far _ (by simp; omega) HNB]; assumption)))
          ((refine step_append_lies _ (by rfl) (.tmp 11) (.tmp 23) 22 (by rfl) w.heap.size 51 i0 _ 2 16 Try.underlying22 hi hz0 hz1 hz2 rfl (by decide) _ k (valsA encC (T.take k)) (by rfl) ((HO.out.alloc _).drew) ⟨wr.heap.size, 0, none⟩ 1 1 [.int .u32 x, .int .i64 y] (by rfl) (by rfl) (World.news_of_block (cs := #[.int .u32 x, .int .i64 y]) (t := 51) (fr := (0, 0)) (heap_alloc_new wr _)) (by simp [Value.oneCell']) (by omega) (by unfold maxLen; omega) (by omega) (by simp; omega) (wr.heap.size + 1) (by simp) ?_; intro g cap2 W1 hown1 hgrow hat hlt2))
        have hb1 : Hid (Below w.heap.size w W1) := ((HB.out.alloc hsz _).drew).grown hgrow (by simp; omega) (fun r hr => (HO.out.lt r hr).1)
        have HO1 : Hid (W1.ownsRow w.heap.size 51 2 (.slice (some ⟨g, 0, none⟩) (k + 1) cap2) (k + 1) (valsA encC (T.take (k + 1)))) := by
          unfold Hid; rw [HS.out]; exact hown1
        clear hown1 hgrow hat c1 c2 hsz HNB
        go_wp2
        go_roundw
        case rel => exact ⟨k + 1, by omega, by go_num, hb1, HO1⟩
        case measure => simp [intOf]; omega
      · obtain rfl : k = T.length := by omega
        have hO := HO.out
        rw [List.take_length] at hO
        have HR2 := Lib.hid (HRow.out _ _ hO)
        clear hO
        go_wp2
        go_ret
        exact ⟨_, rfl, HR2.out, HB.out⟩
  · obtain rfl : T = [] := List.length_eq_zero_iff.1 (by omega)
    obtain ⟨a, c, rfl, -, -⟩ := hr.slice
    clear hr
    go_enter Try.func24, Try.ntmps24
    go_wp2
    go_loopw [3, 4] (fun v i wr => v = .slice none 0 0 ∧ i = .int .i64 0 ∧ w = wr) (fun _ i _ => 0)
    case atStart => exact ⟨rfl, rfl, rfl⟩
    case round =>
      obtain ⟨rfl, rfl, rfl⟩ := hrel
      go_wp2
      go_ret
      exact ⟨_, rfl, CRow.nil _, Below.refl _ _⟩

theorem same_left {A B : List Cel} {k : Nat} (h1 : A.length = B.length) (hk : k < A.length) (h : gt A k ≠ gt B k) : decide (A = B) = false := by
  rw [decide_eq_false_iff_not]
  rintro rfl
  exact h rfl
theorem same_all {A B : List Cel} (h1 : A.length = B.length) (h : ∀ k, k < A.length → gt A k = gt B k) : decide (A = B) = true := by
  rw [decide_eq_true_eq]
  exact gt_tab (n := A.length) (f := gt A) rfl (fun j hj => rfl) B h1.symm (fun j hj => (h j hj).symm)
set_option maxRecDepth 100000 in
theorem same_any (u v : Value) (A B : List Cel) (w : World) (hu : CRow w u A) (hv : CRow w v B) (hn : A.length ≤ 1000) :
    Calls Try.prog 18 #[u, v] w fun e w' => e = .returned (.bool (decide (A = B))) ∧ Below w.heap.size w w' := by
  by_cases hl : A.length = B.length
  · by_cases h0 : 0 < A.length
    · obtain ⟨b, off, c, rfl, q1, q2, hblt, hc⟩ := hu.open h0
      obtain ⟨b', off', c', rfl, q1', q2', hblt', hc'⟩ := hv.open (by omega)
      have HC := Lib.hid hc
      have HC' := Lib.hid hc'
      have HNo := Lib.hid (fun k hk h => same_left (A := A) (B := B) (k := k) hl hk h)
      have HAl := Lib.hid (same_all hl)
      rw [← hl]
      clear hc hc' hu hv
      go_enter Try.func18, Try.ntmps18
      go_wp2
      go_loopw [5] (fun i wr => ∃ k : Nat, k ≤ A.length ∧ i = .int .i64 k ∧ Hid (Below w.heap.size w wr) ∧ Hid (∀ j, j < k → gt A j = gt B j)) (fun i _ => A.length - (intOf i).toNat)
      case atStart => exact ⟨0, Nat.zero_le _, rfl, Below.refl _ _, fun j hj => by omega⟩
      case round =>
        obtain ⟨k, hk, rfl, HB, HK⟩ := hrel
        by_cases hlt : k < A.length
        · have hlt1 : (k : Int) < (A.length : Int) := by omega
          obtain ⟨d1, d2⟩ := HC.out k hlt
          obtain ⟨e1, e2⟩ := HC'.out k (by omega)
          have c1 := (HB.out.cell (p := ⟨b, off + k * 2, none⟩) hblt).trans d1
          have c2 := (HB.out.cell (p := ⟨b, off + k * 2 + 1, none⟩) hblt).trans d2
          have c3 := (HB.out.cell (p := ⟨b', off' + k * 2, none⟩) hblt').trans e1
          have c4 := (HB.out.cell (p := ⟨b', off' + k * 2 + 1, none⟩) hblt').trans e2
          have HN := Lib.hid (HNo.out k hlt)
          have HE := Lib.hid (show gt A k = gt B k ↔ (gt A k).1 = (gt B k).1 ∧ (gt A k).2 = (gt B k).2 from ⟨fun h => by rw [h]; exact ⟨rfl, rfl⟩, fun ⟨h1, h2⟩ => Prod.ext h1 h2⟩)
          have HQ := Lib.hid (fun (h : gt A k = gt B k) j (hj : j < k + 1) => show gt A j = gt B j by
            by_cases e : j = k
            · subst e; exact h
            · exact HK.out j (by omega))
          generalize (gt A k).1 = x1 at *
          generalize (gt A k).2 = y1 at *
          generalize (gt B k).1 = x2 at *
          generalize (gt B k).2 = y2 at *
          clear d1 d2 e1 e2
          by_cases h1 : x1 = x2
          · subst h1
            have g1 : (x1 == x1) = true := by simp
            have g2 : (x1 != x1) = false := by simp
            by_cases h2 : y1 = y2
            · subst h2
              have HK2 := Lib.hid (HQ.out (HE.out.2 ⟨rfl, rfl⟩))
              have g3 : (y1 != y1) = false := by simp
              clear HN HE HQ
              go_wp2_with (go_quiet (fail))
              have HD2 : Hid (Below w.heap.size w (wr.drewN nq)) := below_drewN HB.out _
              go_roundw
              case rel => exact ⟨k + 1, by omega, by go_num, HD2, HK2⟩
              case measure => simp [intOf]; omega
            · have g3 : (y1 != y2) = true := by simp [h2]
              have HF := Lib.hid (HN.out (fun q => h2 (HE.out.1 q).2))
              clear HN HE HQ HK
              go_wp2_with (go_quiet (fail))
              go_ret
              exact ⟨ret_bool (by rw [HF.out]), below_drewN HB.out _⟩
          · have g1 : (x1 != x2) = true := by simp [h1]
            have HF := Lib.hid (HN.out (fun q => h1 (HE.out.1 q).1))
            clear HN HE HQ HK
            go_wp2_with (go_quiet (fail))
            go_ret
            exact ⟨ret_bool (by rw [HF.out]), below_drewN HB.out _⟩
        · obtain rfl : k = A.length := by omega
          have HF := Lib.hid (HAl.out HK.out)
          go_wp2
          go_ret
          exact ⟨ret_bool (by rw [HF.out]), HB.out⟩
    · obtain rfl : A = [] := List.length_eq_zero_iff.1 (by omega)
      obtain rfl : B = [] := List.length_eq_zero_iff.1 (by simpa using hl.symm)
      obtain ⟨a, c, rfl, -, -⟩ := hu.slice
      obtain ⟨a', c', rfl, -, -⟩ := hv.slice
      clear hu hv
      go_enter Try.func18, Try.ntmps18
      go_wp2
      go_loopw [5] (fun i wr => i = .int .i64 0 ∧ w = wr) (fun i _ => 0)
      case atStart => exact ⟨rfl, rfl⟩
      case round =>
        obtain ⟨rfl, rfl⟩ := hrel
        go_wp2
        go_ret
        exact ⟨ret_bool (by simp), Below.refl _ _⟩
  · have E := Lib.hid (show decide (A = B) = false from decide_eq_false (fun h => hl (by rw [h])))
    rw [E.out]
    obtain ⟨a, c, rfl, -, -⟩ := hu.slice
    obtain ⟨a', c', rfl, -, -⟩ := hv.slice
    have h1 : ((A.length : Int) != (B.length : Int)) = true := by simp; omega
    have h2 : ¬ (A.length : Int) = (B.length : Int) := by omega
    clear hu hv E
    go_enter Try.func18, Try.ntmps18
    go_wp2
    go_ret
    exact ⟨rfl, Below.refl _ _⟩
/-- A table that make makes. -/
theorem run_make_c (n : Nat) (hn : n ≤ 1000) (w : World) :
    (Instr.makeSlice 25 (.int .i64 (n : Int)) (.int .i64 (n : Int))).run Try.prog w = .ok (.slice (some ⟨w.heap.size, 0, none⟩) n n) (w.alloc (.cells (madeCells #[.int .u32 0, .int .i64 0] (n * 2)) 48)) := by
  obtain ⟨i0, hi, hz0, hz1, hz2⟩ := info_parts infoC
  have hbb : (i0.bytes : Int) * (n : Int) ≤ 281474976710656 := by rw [hz2]; omega
  have hr := run_make (P := Try.prog) w 25 48 i0 _ Try.underlying25 hi hz0 .i64 .i64 n n (by omega) (by omega) hbb (by omega)
  simp only [Int.toNat_natCast, hz1] at hr
  exact hr
theorem row_make (n : Nat) (hn : n ≤ 1000) (w : World) : CRow (w.alloc (.cells (madeCells #[.int .u32 0, .int .i64 0] (n * 2)) 48)) (.slice (some ⟨w.heap.size, 0, none⟩) n n) (List.replicate n (0, 0)) := by
  refine ⟨_, n, by rw [List.length_replicate], by rw [List.length_replicate]; omega, by omega, fun hne => ⟨w.heap.size, 0, rfl, by rw [size_alloc]; omega, fun i hi j x hx => ?_⟩⟩
  rw [List.length_replicate] at hi
  have e : (List.replicate n ((0, 0) : Cel)).getD i (0, 0) = (0, 0) := by simp [List.getD, hi]
  rw [e] at hx
  rw [Nat.zero_add, cell_block (heap_alloc_new w _)]
  have hm : ∀ j, j < n * 2 → (madeCells #[Value.int .u32 0, .int .i64 0] (n * 2))[j]? = some (#[Value.int .u32 0, .int .i64 0][j % 2]!) := fun j hj => by simp [madeCells, hj]
  match j, hx with
  | 0, hx => simp [encC] at hx; subst hx; rw [hm _ (by omega), show (i * 2 + 0) % 2 = 0 by omega]; rfl
  | 1, hx => simp [encC] at hx; subst hx; rw [hm _ (by omega), show (i * 2 + 1) % 2 = 1 by omega]; rfl
  | j + 2, hx => simp [encC] at hx
def pT0 : List Cel := [(0, 0), (0, 0), (0, 0), (0, 0)]
def pT1 : List Cel := [(0, 0), (7, 1), (0, 0), (0, 0)]
def pT2 : List Cel := [(0, 0), (7, 1), (8, 1), (0, 0)]
def pT3 : List Cel := [(0, 0), (7, 1), (8, 1), (9, 2)]
def pT4 : List Cel := [(0, 0), (8, 1), (9, 2), (0, 0)]
theorem wu_p {T : List Cel} (h : T.all (fun c => (Lit.int .u32 c.1).wf) = true) : WU T := fun c hc => List.all_eq_true.1 h c hc
set_option maxRecDepth 100000 in
set_option maxHeartbeats 1000000 in
theorem probes_any (w : World) : Calls Try.prog 8 #[] w fun e w' => e = .returned (.bool true) ∧ Below w.heap.size w w' := by
  have hm := fun W => run_make_c 4 (by omega) W
  have HR0 : Hid (∀ W : World, CRow (W.alloc (.cells (madeCells #[.int .u32 0, .int .i64 0] (4 * 2)) 48)) (.slice (some ⟨W.heap.size, 0, none⟩) 4 4) pT0) := fun W => row_make 4 (by omega) W
  have H1 : Hid (∀ u W, CRow W u pT0 → Calls Try.prog 12 #[u, .int .u32 7, .int .i64 1] W (InsR W pT1 0)) := fun u W h => by
    have := insert_any u pT0 7 1 W h (by decide) (wu_p (by decide))
    rwa [show rI pT0 (7, 1) = pT1 by decide +kernel, show eI pT0 (7, 1) = 0 by decide +kernel] at this
  have H2 : Hid (∀ u W, CRow W u pT1 → Calls Try.prog 12 #[u, .int .u32 8, .int .i64 1] W (InsR W pT2 0)) := fun u W h => by
    have := insert_any u pT1 8 1 W h (by decide) (wu_p (by decide))
    rwa [show rI pT1 (8, 1) = pT2 by decide +kernel, show eI pT1 (8, 1) = 0 by decide +kernel] at this
  have H3 : Hid (∀ u W, CRow W u pT2 → Calls Try.prog 12 #[u, .int .u32 9, .int .i64 2] W (InsR W pT3 0)) := fun u W h => by
    have := insert_any u pT2 9 2 W h (by decide) (wu_p (by decide))
    rwa [show rI pT2 (9, 2) = pT3 by decide +kernel, show eI pT2 (9, 2) = 0 by decide +kernel] at this
  have H4 : Hid (∀ u W, CRow W u pT3 → Calls Try.prog 14 #[u, .int .u32 7, .int .i64 1] W (InsR W pT4 0)) := fun u W h => by
    have := delete_any u pT3 7 1 W h (by decide) (wu_p (by decide))
    rwa [show rD pT3 (7, 1) = pT4 by decide +kernel, show eD pT3 (7, 1) = 0 by decide +kernel] at this
  have H5 : Hid (∀ u W, CRow W u pT4 → Calls Try.prog 10 #[u, .int .u32 9, .int .i64 2] W fun e w' => e = .returned (.tuple #[.int .i64 2, .bool true]) ∧ Below W.heap.size W w') := fun u W h => by
    have := Find_any u pT4 9 2 W h (by decide) (wu_p (by decide))
    rwa [show FiC pT4 (9, 2) = (2, true) by decide +kernel] at this
  have H6 : Hid (∀ u W, CRow W u pT3 → Calls Try.prog 19 #[u] W fun e w' => e = .returned (.int .i64 1) ∧ Below W.heap.size W w') := fun u W h => by
    have := longest_any u pT3 W h (by decide) (wu_p (by decide))
    rwa [show loT pT3 = 1 by decide +kernel] at this
  have H7 : Hid (∀ u W, CRow W u pT4 → Calls Try.prog 16 #[u] W fun e w' => e = .returned (.bool true) ∧ Below W.heap.size W w') := fun u W h => by
    have := right_any u pT4 W h (by decide) (wu_p (by decide))
    rwa [show RC pT4 = true by decide +kernel] at this
  have H8 : Hid (∀ W, Calls Try.prog 21 #[.int .i64 4, .int .i64 3, .int .i64 1] W fun e w' => e = .returned (.int .i64 2) ∧ W = w') := fun W => dist_any 4 3 1 W (by omega) (by omega)
  have HB0 := Lib.hid (below_made w (.cells (madeCells #[.int .u32 0, .int .i64 0] (4 * 2)) 48))
  have HR0w := Lib.hid (HR0.out w)
  simp only [Int.cast_ofNat_Int] at hm
  generalize madeCells #[.int .u32 0, .int .i64 0] (4 * 2) = M at hm HB0 HR0w
  clear HR0
  go_enter Try.func8, Try.ntmps8
  go_wp2_with fail
  refine (H1.out _ _ HR0w.out).mono ?_
  rintro e w1 ⟨u1, rfl, hb1, hr1⟩
  have HB1 := Lib.hid (HB0.out.trans (hb1.mono (by rw [size_alloc]; omega)))
  have HR1 := Lib.hid hr1
  clear hm hb1 hr1
  go_wp2_with fail
  refine (H2.out _ _ HR1.out).mono ?_
  rintro e w2 ⟨u2, rfl, hb2, hr2⟩
  have HB2 := Lib.hid (HB1.out.trans (hb2.mono HB1.out.size))
  have HR2 := Lib.hid hr2
  clear hb2 hr2
  go_wp2_with fail
  refine (H3.out _ _ HR2.out).mono ?_
  rintro e w3 ⟨u3, rfl, hb3, hr3⟩
  have HB3 := Lib.hid (HB2.out.trans (hb3.mono HB2.out.size))
  have HR3 := Lib.hid hr3
  clear hb3 hr3
  go_wp2_with fail
  refine (H4.out _ _ HR3.out).mono ?_
  rintro e w4 ⟨u4, rfl, hb4, hr4⟩
  have HB4 := Lib.hid (HB3.out.trans (hb4.mono HB3.out.size))
  have HR4 := Lib.hid hr4
  have HR34 := Lib.hid (HR3.out.mono hb4 (Nat.le_refl _))
  clear hb4 hr4
  go_wp2_with fail
  refine (H5.out _ _ HR4.out).mono ?_
  rintro e w5 ⟨rfl, hb5⟩
  have HB5 := Lib.hid (HB4.out.trans (hb5.mono HB4.out.size))
  have HR35 := Lib.hid (HR34.out.mono hb5 (Nat.le_refl _))
  have HR45 := Lib.hid (HR4.out.mono hb5 (Nat.le_refl _))
  clear hb5
  obtain ⟨b3, o3, k3, rfl, s1, s2, s3, s4⟩ := HR35.out.open (by decide)
  obtain ⟨b4, o4, k4, rfl, t1, t2, t3, t4⟩ := HR45.out.open (by decide)
  have x1 : w5.cell? ⟨b3, o3 + 1 * 2, none⟩ = some (.int .u32 7) := (s4 1 (by decide)).1
  have x2 : w5.cell? ⟨b3, o3 + 2 * 2, none⟩ = some (.int .u32 8) := (s4 2 (by decide)).1
  have x3 : w5.cell? ⟨b3, o3 + 3 * 2, none⟩ = some (.int .u32 9) := (s4 3 (by decide)).1
  have x4 : w5.cell? ⟨b4, o4 + 1 * 2, none⟩ = some (.int .u32 8) := (t4 1 (by decide)).1
  simp only [Nat.reduceMul] at x1 x2 x3 x4
  have e3 : pT3.length = 4 := rfl
  have e4 : pT4.length = 4 := rfl
  rw [e3] at s1 HR35
  rw [e4] at t1 HR45
  rw [e3, e4]
  clear s4 t4
  go_wp2_with fail
  refine (H6.out _ _ HR35.out).mono ?_
  rintro e w6 ⟨rfl, hb6⟩
  have HB6 := Lib.hid (HB5.out.trans (hb6.mono HB5.out.size))
  have HR46 := Lib.hid (HR45.out.mono hb6 (Nat.le_refl _))
  clear hb6 x1 x2 x3 x4
  go_wp2_with fail
  refine (H8.out _).mono ?_
  rintro e w7 ⟨rfl, rfl⟩
  go_wp2_with fail
  refine (H7.out _ _ HR46.out).mono ?_
  rintro e w8 ⟨rfl, hb8⟩
  go_wp2
  go_ret
  exact ⟨rfl, HB6.out.trans (hb8.mono HB6.out.size)⟩
end Go.Proofs.Ytjikikiconhlaaa.Pro
