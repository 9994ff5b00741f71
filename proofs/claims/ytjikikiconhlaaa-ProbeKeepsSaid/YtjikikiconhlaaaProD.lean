/- Contracts of probe: Find, tests of all cells, Clone, carry. -/
import Derived.Test.YtjikikiconhlaaaProC
import Derived.Lib.SliceRun
namespace Go.Proofs.Ytjikikiconhlaaa.Pro
open Go.RowKit
set_option linter.unusedVariables false

theorem na_home {T : List Cel} {x y : Int} (h : naC T (x, y) = true) : ∃ k : Nat, y = k ∧ k < T.length := by
  have := of_decide_eq_true h
  simp only at this
  exact ⟨y.toNat, by omega, by omega⟩
theorem ck_ok {T : List Cel} {c : Cel} (h : ckC T c = 0) : naC T c = true ∧ RC T = true := by
  unfold ckC at h
  split at h
  · cases h
  · split at h
    · cases h
    · simp_all
/-- What Find answers. -/
def FiC (T : List Cel) (c : Cel) : Nat × Bool := if ckC T c = 0 then fiC T c c.2.toNat else (0, false)
theorem Find_any (u : Value) (T : List Cel) (x y : Int) (w : World) (hr : CRow w u T) (hn : T.length ≤ 1000) (hu : WU T) :
    Calls Try.prog 10 #[u, .int .u32 x, .int .i64 y] w fun e w' => e = .returned (.tuple #[.int .i64 ((FiC T (x, y)).1 : Int), .bool (FiC T (x, y)).2]) ∧ Below w.heap.size w w' := by
  have HC := Lib.hid (check_any u T x y w hr hn hu)
  by_cases h0 : ckC T (x, y) = 0
  · obtain ⟨h1, h2⟩ := ck_ok h0
    obtain ⟨k, rfl, hk⟩ := na_home h1
    have E := Lib.hid (show FiC T (x, (k : Int)) = fiC T (x, (k : Int)) k from by rw [FiC, if_pos h0]; simp)
    rw [h0] at HC
    have HF := Lib.hid (fun W hW => find_any u T x k W (hr.mono hW (Nat.le_refl _)) hk hn)
    rw [E.out]
    generalize fiC T (x, (k : Int)) k = R at *
    clear E h0 h1 h2 hr hu
    go_enter Try.func10, Try.ntmps10
    go_wp2_with fail
    refine HC.out.mono ?_
    rintro e w1 ⟨rfl, hb1⟩
    have HB1 := Lib.hid hb1
    clear hb1
    go_wp2_with fail
    refine (HF.out _ HB1.out).mono ?_
    rintro e w2 ⟨rfl, hb2⟩
    go_wp2
    go_ret2
    exact ⟨rfl, HB1.out.trans (hb2.mono HB1.out.size)⟩
  · have E := Lib.hid (show FiC T (x, y) = (0, false) from by rw [FiC, if_neg h0])
    rw [E.out]
    have h3 : (ckC T (x, y) != 0) = true := by simp [h0]
    generalize ckC T (x, y) = z at *
    clear E hr hu
    have h4 : (z == 0) = false := by simp [h0]
    clear h0
    go_enter Try.func10, Try.ntmps10
    go_wp2_with fail
    refine HC.out.mono ?_
    rintro e w1 ⟨rfl, hb1⟩
    go_wp2
    go_ret2
    exact ⟨rfl, hb1⟩

/-- slices.IndexFunc over cells, by whether any cell meets a test. -/
theorem any_take (P : Cel → Bool) (T : List Cel) (k : Nat) (hk : k < T.length) (h : P (gt T k) = true) : T.any P = true := by
  rw [List.any_eq_true]
  exact ⟨gt T k, by simp [gt, List.getD, hk], h⟩
theorem any_none (P : Cel → Bool) (T : List Cel) (h : ∀ j, j < T.length → P (gt T j) = false) : T.any P = false := by
  rw [List.any_eq_false]
  intro c hc
  obtain ⟨i, hi, rfl⟩ := List.getElem_of_mem hc
  have := h i hi
  simp [gt, List.getD, hi] at this
  simp [this]
set_option maxRecDepth 100000 in
theorem indexFunc_any (u : Value) (T : List Cel) (Ff : Nat) (fc : Array Value) (P : Cel → Bool) (w : World) (hr : CRow w u T) (hn : T.length ≤ 1000)
    (hF : ∀ args w, (callFunc Ff args).run Try.prog w = .ok (.enter Ff args) w)
    (hP : ∀ (x y : Int) W, Below w.heap.size w W → Calls Try.prog Ff (#[.agg #[.int .u32 x, .int .i64 y]] ++ fc) W fun e w' => e = .returned (.bool (P (x, y))) ∧ Below W.heap.size W w') :
    Calls Try.prog 47 #[u, .func (.func Ff) #[] fc] w fun e w' => ∃ z : Int, e = .returned (.int .i64 z) ∧ decide (z ≥ 0) = T.any P ∧ Below w.heap.size w w' := by
  by_cases h0 : 0 < T.length
  · obtain ⟨b, off, c, rfl, q1, q2, hblt, hc⟩ := hr.open h0
    have HC := Lib.hid hc
    have HP := Lib.hid hP
    have HY := Lib.hid (any_take P T)
    have HN := Lib.hid (any_none P T)
    clear hc hP hr
    go_enter Try.func47, Try.ntmps47
    go_wp2
    go_loopw [8] (fun i wr => ∃ k : Nat, k ≤ T.length ∧ i = .int .i64 k ∧ Hid (Below w.heap.size w wr) ∧ Hid (∀ j, j < k → P (gt T j) = false)) (fun i _ => T.length - (intOf i).toNat)
    case atStart => exact ⟨0, Nat.zero_le _, rfl, Below.refl _ _, fun j hj => by omega⟩
    case round =>
      obtain ⟨k, hk, rfl, HB, HK⟩ := hrel
      by_cases hlt : k < T.length
      · have hlt1 : (k : Int) < (T.length : Int) := by omega
        obtain ⟨d1, d2⟩ := HC.out k hlt
        have c1 := (HB.out.cell (p := ⟨b, off + k * 2, none⟩) hblt).trans d1
        have c2 := (HB.out.cell (p := ⟨b, off + k * 2 + 1, none⟩) hblt).trans d2
        have HPk := Lib.hid (HP.out (gt T k).1 (gt T k).2 wr HB.out)
        rw [show P ((gt T k).1, (gt T k).2) = P (gt T k) from rfl] at HPk
        have HYk := Lib.hid (HY.out k hlt)
        have hp : ∃ p, p = P (gt T k) := ⟨_, rfl⟩
        obtain ⟨p, hp⟩ := hp
        rw [← hp] at HPk HYk
        have HE := Lib.hid hp
        generalize (gt T k).1 = x at HPk c1
        generalize (gt T k).2 = y at HPk c2
        clear hp d1 d2
        cases p with
        | true =>
          go_wp2_with fail
          refine HPk.out.mono ?_
          rintro e w1 ⟨rfl, hb1⟩
          go_wp2
          go_ret
          exact ⟨_, rfl, by rw [HYk.out (by first | rfl | trivial)]; simp, HB.out.trans (hb1.mono HB.out.size)⟩
        | false =>
          go_wp2_with fail
          refine HPk.out.mono ?_
          rintro e w1 ⟨rfl, hb1⟩
          have HB1 := Lib.hid (HB.out.trans (hb1.mono HB.out.size))
          clear hb1 c1 c2
          go_wp2
          go_roundw
          case rel =>
            refine ⟨k + 1, by omega, by go_num, HB1, fun j hj => ?_⟩
            by_cases e : j = k
            · subst e; exact HE.out.symm
            · exact HK.out j (by omega)
          case measure => simp [intOf]; omega
      · obtain rfl : k = T.length := by omega
        have HE := Lib.hid (HN.out HK.out)
        go_wp2
        go_ret
        exact ⟨_, rfl, by rw [HE.out]; rfl, HB.out⟩
  · obtain rfl : T = [] := List.length_eq_zero_iff.1 (by omega)
    obtain ⟨a, c, rfl, -, -⟩ := hr.slice
    clear hr hP hF
    go_enter Try.func47, Try.ntmps47
    go_wp2
    go_loopw [8] (fun i wr => i = .int .i64 0 ∧ w = wr) (fun i _ => 0)
    case atStart => exact ⟨rfl, rfl⟩
    case round =>
      obtain ⟨rfl, rfl⟩ := hrel
      go_wp2
      go_ret
      exact ⟨_, rfl, rfl, Below.refl _ _⟩
theorem contains_any (u : Value) (T : List Cel) (Ff : Nat) (fc : Array Value) (P : Cel → Bool) (w : World) (hr : CRow w u T) (hn : T.length ≤ 1000)
    (hF : ∀ args w, (callFunc Ff args).run Try.prog w = .ok (.enter Ff args) w)
    (hP : ∀ (x y : Int) W, Below w.heap.size w W → Calls Try.prog Ff (#[.agg #[.int .u32 x, .int .i64 y]] ++ fc) W fun e w' => e = .returned (.bool (P (x, y))) ∧ Below W.heap.size W w') :
    Calls Try.prog 28 #[u, .func (.func Ff) #[] fc] w fun e w' => e = .returned (.bool (T.any P)) ∧ Below w.heap.size w w' := by
  have HI := Lib.hid (indexFunc_any u T Ff fc P w hr hn hF hP)
  generalize T.any P = q at *
  clear hr hP
  go_enter Try.func28, Try.ntmps28
  go_wp2_with fail
  refine HI.out.mono ?_
  rintro e w1 ⟨z, rfl, hz, hb1⟩
  have HZ := Lib.hid hz
  clear hz
  go_wp2
  go_ret
  exact ⟨ret_bool (by rw [← HZ.out]), hb1⟩
theorem enters_ins1 : ∀ args w, (callFunc 29 args).run Try.prog w = .ok (.enter 29 args) w := enters_of Try.func29 (by kernel_rfl) rfl
theorem enters_ins2 : ∀ args w, (callFunc 34 args).run Try.prog w = .ok (.enter 34 args) w := enters_of Try.func34 (by kernel_rfl) rfl
theorem enters_ins3 : ∀ args w, (callFunc 36 args).run Try.prog w = .ok (.enter 36 args) w := enters_of Try.func36 (by kernel_rfl) rfl
theorem enters_del1 : ∀ args w, (callFunc 41 args).run Try.prog w = .ok (.enter 41 args) w := enters_of Try.func41 (by kernel_rfl) rfl
theorem enters_emp : ∀ args w, (callFunc 30 args).run Try.prog w = .ok (.enter 30 args) w := enters_of Try.func30 (by kernel_rfl) rfl

/-- The table at a block's head, the call's own. -/
def TA (w : World) (g : Nat) (T : List Cel) : Prop := g < w.heap.size ∧ ∀ i, i < T.length → (w.cell? ⟨g, i * 2, none⟩ = some (.int .u32 (gt T i).1) ∧ w.cell? ⟨g, i * 2 + 1, none⟩ = some (.int .i64 (gt T i).2)) ∧ w.frozen? ⟨g, i * 2, none⟩ = false ∧ w.frozen? ⟨g, i * 2 + 1, none⟩ = false
theorem TA.below {w w' : World} {g : Nat} {T : List Cel} (h : TA w g T) (hb : Below w.heap.size w w') : TA w' g T :=
  ⟨Nat.lt_of_lt_of_le h.1 hb.size, fun i hi => ⟨⟨(hb.cell (p := ⟨g, i * 2, none⟩) h.1).trans (h.2 i hi).1.1, (hb.cell (p := ⟨g, i * 2 + 1, none⟩) h.1).trans (h.2 i hi).1.2⟩,
    (hb.frozen (p := ⟨g, i * 2, none⟩) h.1).trans (h.2 i hi).2.1, (hb.frozen (p := ⟨g, i * 2 + 1, none⟩) h.1).trans (h.2 i hi).2.2⟩⟩
theorem TA.row {w : World} {g cap : Nat} {T : List Cel} (h : TA w g T) (h1 : T.length ≤ cap) (h2 : cap ≤ 9223372036854775807) : CRow w (.slice (some ⟨g, 0, none⟩) T.length cap) T := by
  refine ⟨_, _, rfl, h1, h2, fun _ => ⟨g, 0, rfl, h.1, fun i hi j x hx => ?_⟩⟩
  rw [Nat.zero_add]
  match j, hx with
  | 0, hx => simp [encC] at hx; subst hx; exact (h.2 i hi).1.1
  | 1, hx => simp [encC] at hx; subst hx; exact (h.2 i hi).1.2
  | j + 2, hx => simp [encC] at hx
theorem gt_set (T : List Cel) (i j : Nat) (c : Cel) (h : i < T.length) : gt (T.set i c) j = if j = i then c else gt T j := by
  unfold gt
  by_cases e : j = i
  · subst e; rw [if_pos rfl]; simp [List.getD, h]
  · rw [if_neg e]; simp [List.getD, show ¬ i = j from fun q => e q.symm]
/-- A cell stored at its place. -/
theorem TA.set {w : World} {g : Nat} {T : List Cel} (h : TA w g T) (j : Nat) (hj : j < T.length) (c : Cel) : TA ((w.setCell ⟨g, j * 2, none⟩ (.int .u32 c.1)).setCell ⟨g, j * 2 + 1, none⟩ (.int .i64 c.2)) g (T.set j c) := by
  refine ⟨by simpa [World.setCell] using h.1, fun i hi => ?_⟩
  rw [List.length_set] at hi
  obtain ⟨⟨e1, e2⟩, f1, f2⟩ := h.2 i hi
  rw [gt_set _ _ _ _ hj]
  refine ⟨?_, by rw [World.frozen?_setCell, World.frozen?_setCell]; exact f1, by rw [World.frozen?_setCell, World.frozen?_setCell]; exact f2⟩
  by_cases e : i = j
  · subst e
    rw [if_pos rfl]
    refine ⟨?_, World.cell?_setCell_same _ _ _ (by rw [World.cell?_setCell_other _ _ _ _ (by simp)]; exact e2)⟩
    rw [World.cell?_setCell_other _ _ _ _ (by simp)]
    exact World.cell?_setCell_same _ _ _ e1
  · rw [if_neg e]
    constructor
    · rw [World.cell?_setCell_other _ _ _ _ (by intro q; injection q with _ q _; omega), World.cell?_setCell_other _ _ _ _ (by intro q; injection q with _ q _; omega)]
      exact e1
    · rw [World.cell?_setCell_other _ _ _ _ (by intro q; injection q with _ q _; omega), World.cell?_setCell_other _ _ _ _ (by intro q; injection q with _ q _; omega)]
      exact e2
theorem infoC : (Try.prog.info? 48).map (fun i => (i.zero, i.size, i.bytes)) = some (some (.agg #[.int .u32 0, .int .i64 0]), 2, 16) := by kernel_rfl
theorem cell_cells {w : World} {ad : Addr} {n c : Nat} {T : List Cel} (h : CRow w (.slice (some ad) n c) T) : ∀ j u, (valsA encC T)[j]? = some u → w.cell? (ad.add j) = some u := by
  intro j u hj
  have hj2 := (List.getElem?_eq_some_iff.1 hj).1
  rw [valsA_length encC_len] at hj2
  have hne : 0 < T.length := by omega
  obtain ⟨b, off, cp, e, -, -, -, hc⟩ := h.open hne
  injection e with e1 e2 e3
  injection e1 with e1
  subst e1
  have hi : j / 2 < T.length := by omega
  have hg := valsA_get encC_len (0, 0) T (j / 2) hi (j % 2) (by omega)
  rw [show j / 2 * 2 + j % 2 = j by omega, hj] at hg
  rw [Addr_add]
  obtain ⟨c1, c2⟩ := hc _ hi
  rcases Nat.mod_two_eq_zero_or_one j with h2 | h2
  · rw [h2] at hg
    simp [encC] at hg
    rw [show off + j = off + j / 2 * 2 by omega, c1, hg]
    rfl
  · rw [h2] at hg
    simp [encC] at hg
    rw [show off + j = off + j / 2 * 2 + 1 by omega, c2, hg]
    rfl
theorem valsC_one (T : List Cel) : ∀ u ∈ valsA encC T, u.oneCell' = true := by
  intro u hu
  unfold valsA at hu
  obtain ⟨c, hc, hu⟩ := List.mem_flatMap.1 hu
  simp [encC] at hu
  rcases hu with rfl | rfl <;> rfl
theorem TA.own {w : World} {base : Nat} {t : TypeId} {v : Value} {T : List Cel} (h : w.ownsRow base t 2 v T.length (valsA encC T)) (h0 : 0 < T.length) :
    ∃ g cap, v = .slice (some ⟨g, 0, none⟩) T.length cap ∧ T.length ≤ cap ∧ cap ≤ 9223372036854775807 ∧ base ≤ g ∧ TA w g T := by
  obtain ⟨h1, ⟨rfl, h2⟩ | ⟨g, cap, cur, rfl, hg, hh, hc1, hc2, hc3, hc4⟩⟩ := h
  · omega
  · refine ⟨g, cap, rfl, hc1, by unfold maxLen at hc2; omega, hg, (Array.getElem?_eq_some_iff.1 hh).1, fun i hi => ⟨?_, frozen_own hh _, frozen_own hh _⟩⟩
    have e0 := valsA_get encC_len (0, 0) T i hi 0 (by omega)
    have e1 := valsA_get encC_len (0, 0) T i hi 1 (by omega)
    rw [← hc4, List.getElem?_take_of_lt (by omega)] at e0 e1
    rw [cell_block hh, cell_block hh]
    simp [encC] at e0 e1
    exact ⟨e0, e1⟩
theorem own_emptyC (w : World) (e : TypeId) : (w.alloc (.cells #[] e)).ownsRow w.heap.size e 2 (.slice (some ⟨w.heap.size, 0, none⟩) 0 0) 0 (valsA encC []) := ⟨rfl, .inr ⟨w.heap.size, 0, #[], rfl, Nat.le_refl _, heap_alloc_new _ _, by omega, by unfold maxLen; omega, rfl, rfl⟩⟩

set_option maxRecDepth 100000 in
theorem clone_any (u : Value) (T : List Cel) (w : World) (hr : CRow w u T) (h0 : 0 < T.length) (hn : T.length ≤ 1000) :
    Calls Try.prog 31 #[u] w fun e w' => ∃ g cap, e = .returned (.slice (some ⟨g, 0, none⟩) T.length cap) ∧ T.length ≤ cap ∧ cap ≤ 9223372036854775807 ∧ w.heap.size ≤ g ∧ TA w' g T ∧ Below w.heap.size w w' := by
  obtain ⟨i0, hi, hz0, hz1, hz2⟩ := info_parts infoC
  obtain ⟨b, off, c, rfl, q1, q2, hblt, -⟩ := hr.open h0
  have HOw := Lib.hid (own_emptyC w 48)
  have HB0 := Lib.hid (below_made w (.cells #[] 48))
  have HCe := Lib.hid (cell_cells (hr.mono HB0.out (Nat.le_refl _)))
  have HV := Lib.hid (valsA_length encC_len T)
  have HV1 := Lib.hid (valsC_one T)
  have HTA := Lib.hid (fun (W : World) (v : Value) (h : W.ownsRow w.heap.size 48 2 v T.length (valsA encC T)) => TA.own h h0)
  have hsz := size_alloc w (.cells #[] 48)
  have hnil : ∀ W, (binOp .eql 25 (.slice (some ⟨b, off, none⟩) T.length c) (.slice none 0 0)).run Try.prog W = .ok (.bool false) W := fun W => Lib.run_eql_slice_nil W _ _ _ _ _ _ _ Try.underlying25
  clear hr
  go_enter Try.func31, Try.ntmps31
  go_wp2_with (at_builtin; refine wpList_append_own _ rfl (.tmp 5) (.tmp 6) 25 rfl w.heap.size 48 i0 (.agg #[.int .u32 0, .int .i64 0]) 2 16 Try.underlying25 hi hz0 hz1 hz2 rfl (by decide) _ _ _ rfl HOw.out ⟨b, off, none⟩ T.length c (valsA encC T) rfl HV.out HCe.out HV1.out (by unfold maxLen; omega) (by omega) (by omega) ?_)
  intro v' w2 hown' hgrow _
  have HB2 : Hid (Below w.heap.size w w2) := HB0.out.grown hgrow (by omega) (fun r hr => by have : w.heap.size = r := Option.some.inj hr; omega)
  obtain ⟨g, cap, rfl, k1, k2, k3, k4⟩ := HTA.out _ _ hown'
  have HT2 := Lib.hid k4
  clear hown' hgrow k4
  go_wp2
  go_ret
  exact ⟨g, cap, rfl, k1, k2, k3, HT2.out, HB2.out⟩

/-- Two cells of a table change places. -/
def swp (T : List Cel) (i j : Nat) : List Cel := (T.set i (gt T j)).set j (gt T i)
def carT (T : List Cel) (pos : Nat → Nat) : Nat → List Cel
  | 0 => T
  | k + 1 => swp (carT T pos k) (pos k) (pos (k + 1))
theorem swp_length (T : List Cel) (i j : Nat) : (swp T i j).length = T.length := by simp [swp]
theorem carT_length (T : List Cel) (pos : Nat → Nat) (k : Nat) : (carT T pos k).length = T.length := by
  induction k with
  | zero => rfl
  | succ k ih => rw [carT, swp_length, ih]
theorem TA.swp {w : World} {g : Nat} {T : List Cel} (h : TA w g T) (i j : Nat) (hi : i < T.length) (hj : j < T.length) :
    TA ((((w.setCell ⟨g, i * 2, none⟩ (.int .u32 (gt T j).1)).setCell ⟨g, i * 2 + 1, none⟩ (.int .i64 (gt T j).2)).setCell ⟨g, j * 2, none⟩ (.int .u32 (gt T i).1)).setCell ⟨g, j * 2 + 1, none⟩ (.int .i64 (gt T i).2)) g (swp T i j) :=
  (h.set i hi (gt T j)).set j (by rw [List.length_set]; exact hj) (gt T i)

set_option maxRecDepth 100000 in
set_option maxHeartbeats 1000000 in
theorem carry_any (g cap : Nat) (T : List Cel) (m : Nat) (Pf : Nat) (pc : Array Value) (pos : Nat → Nat) (w : World) (hT : TA w g T) (h1 : T.length ≤ cap) (hm : m ≤ 1000) (hn : T.length ≤ 1000)
    (hpos : ∀ s, s ≤ m → pos s < T.length) (hne : ∀ s, s < m → pos s ≠ pos (s + 1))
    (hF : ∀ args w, (callFunc Pf args).run Try.prog w = .ok (.enter Pf args) w)
    (hP : ∀ s : Nat, s ≤ m → ∀ W, Fr w.heap.size (fun b => b = g) w W → Calls Try.prog Pf (#[.int .i64 (s : Int)] ++ pc) W fun e w' => e = .returned (.int .i64 (pos s : Int)) ∧ W = w') :
    Calls Try.prog 37 #[.slice (some ⟨g, 0, none⟩) T.length cap, .int .i64 (m : Int), .func (.func Pf) #[] pc] w fun e w' => e = .returned (.tuple #[]) ∧ Fr w.heap.size (fun b => b = g) w w' ∧ TA w' g (carT T pos m) := by
  have HP := Lib.hid hP
  have HT := Lib.hid hT
  have HPo := Lib.hid hpos
  have HNe := Lib.hid hne
  clear hP hT hpos hne
  go_enter Try.func37, Try.ntmps37
  go_wp2
  go_loopw [6, 7, 8, 10] (fun _ _ _ i wr => ∃ k : Nat, k ≤ m ∧ i = .int .i64 k ∧ Hid (Fr w.heap.size (fun b => b = g) w wr) ∧ Hid (TA wr g (carT T pos k))) (fun _ _ _ i _ => m - (intOf i).toNat)
  case atStart => exact ⟨0, Nat.zero_le _, rfl, Fr.refl _ _ _, HT⟩
  case round =>
    obtain ⟨k, hk, rfl, HB, HK⟩ := hrel
    by_cases hlt : k < m
    · have hlt1 : (k : Int) < (m : Int) := by omega
      have HP1 := Lib.hid (HP.out k hk wr HB.out)
      have HP2 := Lib.hid (HP.out (k + 1) hlt wr HB.out)
      have hl := carT_length T pos k
      have i1 := HPo.out k hk
      have i2 := HPo.out (k + 1) hlt
      have i3 := HNe.out k hlt
      have HS := Lib.hid (HK.out.swp (pos k) (pos (k + 1)) (by omega) (by omega))
      rw [show swp (carT T pos k) (pos k) (pos (k + 1)) = carT T pos (k + 1) from rfl] at HS
      obtain ⟨⟨a1, a2⟩, f1, f2⟩ := HK.out.2 (pos k) (by omega)
      obtain ⟨⟨b1, b2⟩, f3, f4⟩ := HK.out.2 (pos (k + 1)) (by omega)
      obtain ⟨p, hp⟩ : ∃ p, p = pos k := ⟨_, rfl⟩
      obtain ⟨q, hq⟩ : ∃ q, q = pos (k + 1) := ⟨_, rfl⟩
      rw [← hp] at HP1 i1 i3 HS a1 a2 f1 f2
      rw [← hq] at HP2 i2 i3 HS b1 b2 f3 f4
      generalize (gt (carT T pos k) p).1 = x1 at *
      generalize (gt (carT T pos k) p).2 = y1 at *
      generalize (gt (carT T pos k) q).1 = x2 at *
      generalize (gt (carT T pos k) q).2 = y2 at *
      clear hp hq hl
      have j1 : (p : Int) < (T.length : Int) := by omega
      have j2 : (q : Int) < (T.length : Int) := by omega
      go_wp2_with fail
      refine HP1.out.mono ?_
      rintro e w1 ⟨rfl, rfl⟩
      go_wp2_with fail
      refine HP2.out.mono ?_
      rintro e w1 ⟨rfl, rfl⟩
      go_wp2_with fail
      go_region
      go_wp2
      go_roundw
      case rel =>
        refine ⟨k + 1, by omega, by go_num, ?_, HS.out⟩
        exact ((((HB.out.setCell (.inr rfl) _).setCell (.inr rfl) _).setCell (.inr rfl) _).setCell (.inr rfl) _).drew
      case measure => simp [intOf]; omega
    · obtain rfl : k = m := by omega
      go_wp2
      refine bodyPost_end (results_none rfl _ _ _) rfl ⟨rfl, HB.out, HK.out⟩
end Go.Proofs.Ytjikikiconhlaaa.Pro
