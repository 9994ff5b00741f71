/- The document's Encode. -/
import Derived.Test.YtkknegnipodcnaaDoorHeaC
import Derived.Test.YtkknegnipodcnaaDoorNumE
import Derived.Test.YtkknegnipodcnaaDoorKit11
namespace Go.Proofs.YtkknegnipodcnaaDoor.Hea
open Go.RowKit Num
set_option linter.unusedVariables false

/-- A head's bytes behind k fields. -/
def foldE (b : Blk) : Nat → List Int
  | 0 => List.replicate (szF b.tag).toNat 0
  | k + 1 => stl (foldE b k) (whF b.tag k).1.toNat (whF b.tag k).2.toNat (numF b k)
theorem wh_fit {t : Int} (ht : 0 ≤ t ∧ t ≤ 2) (k : Nat) (hk : k < 12) : 0 ≤ (whF t k).1 ∧ 0 ≤ (whF t k).2 ∧ (whF t k).2 ≤ 8 ∧ (whF t k).1 + (whF t k).2 ≤ szF t := by
  have h1 : t = 0 ∨ t = 1 ∨ t = 2 := by omega
  have h2 : k = 0 ∨ k = 1 ∨ k = 2 ∨ k = 3 ∨ k = 4 ∨ k = 5 ∨ k = 6 ∨ k = 7 ∨ k = 8 ∨ k = 9 ∨ k = 10 ∨ k = 11 := by omega
  rcases h1 with rfl | rfl | rfl <;> rcases h2 with rfl | rfl | rfl | rfl | rfl | rfl | rfl | rfl | rfl | rfl | rfl | rfl <;> decide
theorem stl_none (l : List Int) (a : Nat) (v : Int) : stl l a 0 v = l := by
  unfold stl
  rw [List.take_zero, List.nil_append, Nat.add_zero, List.take_append_drop]
theorem sz_bd {t : Int} (ht : 0 ≤ t ∧ t ≤ 2) : 8 ≤ szF t ∧ szF t ≤ 32 := by
  have h1 : t = 0 ∨ t = 1 ∨ t = 2 := by omega
  rcases h1 with rfl | rfl | rfl <;> decide
theorem foldE_length {b : Blk} (ht : 0 ≤ b.tag ∧ b.tag ≤ 2) : ∀ k, k ≤ 12 → (foldE b k).length = (szF b.tag).toNat := by
  intro k
  induction k with
  | zero => intro _; simp [foldE]
  | succ k ih =>
    intro hk
    have h := wh_fit ht k (by omega)
    rw [foldE, stl_length _ _ _ _ (by rw [ih (by omega)]; omega) (by omega), ih (by omega)]
theorem foldE_bytes {b : Blk} (hb : b.Ok) : ∀ k, ∀ i, 0 ≤ (foldE b k).getD i 0 ∧ (foldE b k).getD i 0 < 256 := by
  intro k
  induction k with
  | zero =>
    intro i
    have : ∀ x ∈ List.replicate (szF b.tag).toNat (0 : Int), x = 0 := fun x hx => List.eq_of_mem_replicate hx
    by_cases hi : i < (szF b.tag).toNat
    · simp [foldE, List.getD, hi]
    · simp [foldE, List.getD, hi]
  | succ k ih =>
    have h := numF_bd hb k
    exact stl_bd _ _ _ _ h.1 h.2 ih
theorem list_of_getD {a b : List Int} (hl : a.length = b.length) (h : ∀ i, i < a.length → a.getD i 0 = b.getD i 0) : a = b := by
  refine List.ext_getElem hl fun i h1 h2 => ?_
  have := h i h1
  simpa [List.getD, h1, h2] using this
theorem stl_at (l : List Int) (a n : Nat) (v : Int) (i : Nat) (h : a + n ≤ l.length) (hn : n ≤ 8) : (stl l a n v).getD i 0 = if a ≤ i ∧ i < a + n then (parts v).getD (i - a) 0 else l.getD i 0 := by
  unfold stl List.getD
  rw [List.getElem?_append, List.length_take, Nat.min_eq_left (by omega), List.getElem?_append, List.length_take, parts_length, Nat.min_eq_left hn]
  split
  · rw [if_neg (by omega), List.getElem?_take_of_lt (by omega)]
  · split
    · rw [if_pos (by omega), List.getElem?_take_of_lt (by omega)]
    · rw [if_neg (by omega), List.getElem?_drop, show a + n + (i - a - n) = i by omega]
theorem stl_step (l : List Int) (a n : Nat) (v : Int) (h : a + n < l.length) (hn : n < 8) : (stl l a n v).set (a + n) ((parts v).getD n 0) = stl l a (n + 1) v := by
  have h1 := stl_length l a n v (by omega) (by omega)
  have h2 := stl_length l a (n + 1) v (by omega) (by omega)
  refine list_of_getD (by rw [List.length_set, h1, h2]) fun i hi => ?_
  rw [List.length_set, h1] at hi
  rw [stl_at _ _ _ _ _ (by omega) (by omega)]
  have e : ((stl l a n v).set (a + n) ((parts v).getD n 0)).getD i 0 = if a + n = i then (parts v).getD n 0 else (stl l a n v).getD i 0 := by
    unfold List.getD
    rw [List.getElem?_set]
    split
    · rename_i h3
      rw [if_pos (by omega)]
      rfl
    · rfl
  rw [e]
  split
  · rename_i h3
    subst h3
    rw [if_pos (by omega), show a + n - a = n by omega]
  · rw [stl_at _ _ _ _ _ (by omega) (by omega)]
    by_cases h4 : a ≤ i ∧ i < a + n
    · rw [if_pos h4, if_pos (by omega)]
    · rw [if_neg h4, if_neg (by omega)]
theorem parts_pow (v : Int) (j : Nat) (hj : j < 8) (h0 : 0 ≤ v) (h1 : v < 18446744073709551616) : (parts v).getD j 0 = v / 256 ^ j % 256 := by
  match j, hj with
  | 0, _ => simp [parts]
  | 1, _ => simp [parts]
  | 2, _ => simp [parts]
  | 3, _ => simp [parts]
  | 4, _ => simp [parts]
  | 5, _ => simp [parts]
  | 6, _ => simp [parts]
  | 7, _ => simp [parts]; omega

theorem foldE_end {b : Blk} (hb : b.Ok) (hr : RightP b) : foldE b 12 = encL b := by
  obtain ⟨k1, k2, k3, k4, k5, k6, k7, k8, k9, k10, k11⟩ := hb
  simp only [i64, u32, u64, u16] at *
  obtain ⟨tag, cls, used, lab, name, next, prev, refs, exp, typ, size, hash⟩ := b
  simp only [] at *
  rcases hr with ⟨h0, h1, h2, h3, h4, h5, h6, h7, h8, h9, h10⟩ | ⟨h0, h1, h2, h3, h4, h5, h6⟩ | ⟨h0, h1, h2, h3, h4, h5, h6, h7, h8, h9, h10⟩
  · simp only [] at h0 h1 h2 h3 h4 h5 h6 h7 h8 h9 h10
    subst h0 h1 h2 h3
    simp [foldE, szF, whF, stl, parts, encL, p1, p4, numF, u64_id, List.replicate]
    omega
  · simp only [] at h0 h1 h2 h3 h4 h5 h6
    subst h0 h3
    have e1 : IntKind.u64.wrap cls = cls := u64_id (by omega) (by omega)
    have e2 : IntKind.u64.wrap size = size := u64_id (by omega) (by omega)
    cases used <;> simp [foldE, szF, whF, stl, parts, encL, p1, p4, p8, p2, numF, u64_id, List.replicate, e1, e2] <;> omega
  · simp only [] at h0 h1 h2 h3 h4 h5 h6 h7 h8 h9 h10
    subst h0 h3
    have e1 : IntKind.u64.wrap cls = cls := u64_id (by omega) (by omega)
    have e2 : IntKind.u64.wrap lab = lab := u64_id (by omega) (by omega)
    simp [foldE, szF, whF, stl, parts, encL, p1, p4, p8, p2, numF, u64_id, List.replicate, e1, e2]
    omega
theorem encF_yes {b : Blk} (h : rightF b = true) : encF b = (encL b, 0) := by rw [encF, if_pos h]
theorem encF_no {b : Blk} (h : rightF b = false) : encF b = ([], 2) := by rw [encF, if_neg (by rw [h]; decide)]
theorem right_tag {b : Blk} (h : RightP b) : 0 ≤ b.tag ∧ b.tag ≤ 2 := by
  rcases h with h | h | h <;> omega

theorem madeCells_one (z : Value) (n : Nat) : madeCells #[z] n = (List.replicate n z).toArray := by
  apply Array.ext
  · simp [madeCells]
  · intro i h1 h2
    simp [madeCells, Nat.mod_one]
theorem zeros_cells (n : Nat) : madeCells #[Value.int .u8 0] n = (vals (List.replicate n 0)).toArray := by
  rw [madeCells_one]; simp [vals]
theorem frozen_block {w : World} {g : Nat} {c : Array Value} {e : TypeId} (h : w.heap[g]? = some (.cells c e (0, 0))) (i : Nat) : w.frozen? ⟨g, i, none⟩ = false := by simp [World.frozen?, h]
theorem vals_set (l : List Int) (i : Nat) (y : Int) : (vals l).toArray.setIfInBounds i (.int .u8 y) = (vals (l.set i y)).toArray := by
  simp [vals, List.map_set]
theorem heap_setCell_own {w : World} {g o : Nat} {c : Array Value} {t : TypeId} {fr : Nat × Nat} (hg : w.heap[g]? = some (.cells c t fr)) (u : Value) : (w.setCell ⟨g, o, none⟩ u).heap[g]? = some (.cells (c.setIfInBounds o u) t fr) := by
  have hlt : g < w.heap.size := (Array.getElem?_eq_some_iff.1 hg).1
  have hv : w.heap[g] = .cells c t fr := (Array.getElem?_eq_some_iff.1 hg).2
  unfold World.setCell
  rw [Array.getElem?_eq_getElem (by simpa using hlt), Array.getElem_modify]
  simp [hv]
theorem lt_block {w : World} {g : Nat} {o : Obj} (h : w.heap[g]? = some o) : g < w.heap.size := (Array.getElem?_eq_some_iff.1 h).1

set_option maxRecDepth 100000 in
set_option maxHeartbeats 4000000 in
theorem refEncode_any (b : Blk) (hb : b.Ok) (w : World) : Calls Tryd.prog 10 #[b.agg] w fun e w' => ∃ u, e = .returned (.tuple #[u, .int .i64 (encF b).2]) ∧ Below w.heap.size w w' ∧ Row .u8 w' u (encF b).1 := by
  have hx := BX.first w b
  have HRi := Lib.hid (fun W => refRight_any b hb W)
  by_cases hr : rightF b = true
  · have hp : RightP b := by simpa [rightF] using hr
    rw [encF_yes hr]
    rw [hr] at HRi
    rw [← foldE_end hb hp]
    have HN := Lib.hid (fun k hk W => refNumber_any b hb k hk W)
    have HBd := Lib.hid (numF_bd hb)
    have ht := right_tag hp
    have HFit := Lib.hid (wh_fit ht)
    have HLen := Lib.hid (foldE_length ht)
    have HByt := Lib.hid (foldE_bytes hb)
    have hsz := sz_bd ht
    have HSz := Lib.hid (fun W => refSize_any b.tag W)
    have HW := Lib.hid (fun (k : Int) W => refWhere_any b.tag k W)
    have HStep : Hid (∀ k, foldE b (k + 1) = stl (foldE b k) (whF b.tag k).1.toNat (whF b.tag k).2.toNat (numF b k)) := fun k => rfl
    have HZ : Hid (foldE b 0 = List.replicate (szF b.tag).toNat 0) := rfl
    obtain ⟨BB, hBB⟩ : ∃ BB : World → Prop, BB = fun W => BX w W b := ⟨_, rfl⟩
    have HBB : Hid (∀ W V, BB W → Below W.heap.size W V → BB V) := fun W V h hb => by rw [hBB] at h ⊢; exact h.below hb
    have HBel : Hid (∀ W, BB W → Below w.heap.size w W ∧ w.heap.size < W.heap.size) := fun W h => by rw [hBB] at h; exact ⟨h.bel, h.lt⟩
    have HBS : Hid (∀ W g o u, BB W → w.heap.size < g → BB (W.setCell ⟨g, o, none⟩ u)) := fun W g o u h hg => by
      rw [hBB] at h ⊢
      have hs : (W.setCell ⟨g, o, none⟩ u).heap.size = W.heap.size := by simp
      have hc : ∀ j x, W.cell? ⟨w.heap.size, j, none⟩ = some x → (W.setCell ⟨g, o, none⟩ u).cell? ⟨w.heap.size, j, none⟩ = some x := fun j x e => (World.cell?_setCell_other _ _ _ _ (fun h4 => by injection h4 with h5; omega)).trans e
      exact ⟨hc _ _ h.c0, hc _ _ h.c1, hc _ _ h.c2, hc _ _ h.c3, hc _ _ h.c4, hc _ _ h.c5, hc _ _ h.c6, hc _ _ h.c7, hc _ _ h.c8, hc _ _ h.c9, hc _ _ h.c10, hc _ _ h.c11, by rw [hs]; exact h.lt, h.bel.setCell (p := ⟨g, o, none⟩) (by show w.heap.size ≤ g; omega) _⟩
    have HCell : Hid (∀ W, BB W → W.cell? ⟨w.heap.size, 0, none⟩ = some (.int .i64 b.tag) ∧ W.cell? ⟨w.heap.size, 1, none⟩ = some (.int .i64 b.cls) ∧ W.cell? ⟨w.heap.size, 2, none⟩ = some (.bool b.used) ∧ W.cell? ⟨w.heap.size, 3, none⟩ = some (.int .i64 b.lab) ∧ W.cell? ⟨w.heap.size, 4, none⟩ = some (.int .u32 b.name) ∧ W.cell? ⟨w.heap.size, 5, none⟩ = some (.int .u32 b.next) ∧ W.cell? ⟨w.heap.size, 6, none⟩ = some (.int .u32 b.prev) ∧ W.cell? ⟨w.heap.size, 7, none⟩ = some (.int .u32 b.refs) ∧ W.cell? ⟨w.heap.size, 8, none⟩ = some (.int .u64 b.exp) ∧ W.cell? ⟨w.heap.size, 9, none⟩ = some (.int .u16 b.typ) ∧ W.cell? ⟨w.heap.size, 10, none⟩ = some (.int .i64 b.size) ∧ W.cell? ⟨w.heap.size, 11, none⟩ = some (.int .u32 b.hash)) := fun W h => by
      rw [hBB] at h
      exact ⟨h.c0, h.c1, h.c2, h.c3, h.c4, h.c5, h.c6, h.c7, h.c8, h.c9, h.c10, h.c11⟩
    have HX : Hid (BB (BW w b)) := by unfold Hid; rw [hBB]; exact hx
    obtain ⟨FE, hFE⟩ : ∃ FE : Nat → List Int, FE = foldE b := ⟨_, rfl⟩
    obtain ⟨num, hnum⟩ : ∃ num : Nat → Int, num = numF b := ⟨_, rfl⟩
    rw [← hFE] at HLen HByt HStep HZ ⊢
    rw [← hnum] at HStep HN HBd
    clear hBB hFE hnum hx hp hr hb ht
    unfold BW at HX
    unfold Blk.agg at HN HRi ⊢
    obtain ⟨tag, cls, used, lab, name, next, prev, refs, exp, typ, size, hash⟩ := b
    simp only [] at HLen HByt HStep HZ HW HFit HSz hsz HCell HX HN HRi
    obtain ⟨z, hz⟩ : ∃ z : Nat, szF tag = z := ⟨(szF tag).toNat, by omega⟩
    rw [hz] at HLen HZ HFit HSz hsz
    rw [Int.toNat_natCast] at HLen HZ
    obtain ⟨i0, hi, hz0, hz1, hz2⟩ := info_parts infoU8
    obtain ⟨c0, c1, c2, c3, c4, c5, c6, c7, c8, c9, c10, c11⟩ := HCell.out _ HX.out
    clear hz
    go_enter Tryd.func10, Tryd.ntmps10
    go_wp2_with fail
    refine (HRi.out _).mono ?_
    rintro e w1 ⟨rfl, hb1⟩
    have HV1 := Lib.hid (HBB.out _ _ HX.out hb1)
    clear hb1 c0 c1 c2 c3 c4 c5 c6 c7 c8 c9 c10 c11
    obtain ⟨c0, -⟩ := HCell.out _ HV1.out
    go_wp2_with fail
    refine (HSz.out _).mono ?_
    rintro e w2 ⟨rfl, hb2⟩
    have HV2 := Lib.hid (HBB.out _ _ HV1.out hb2)
    clear hb2 c0 HX HV1
    go_wp2_with (refine wpList_make_row rfl (.tmp 15) (.tmp 15) 27 rfl 5 i0 (.int .u8 0) 1 Tryd.underlying27 hi hz0 hz1 hz2 .i64 .i64 z rfl rfl (by omega) (by omega) ?_)
    have hblk := heap_alloc_new w2 (.cells (madeCells #[.int .u8 0] z) 5)
    have hbm := below_made w2 (.cells (madeCells #[.int .u8 0] z) 5)
    obtain ⟨g, hg⟩ : ∃ g, g = w2.heap.size := ⟨_, rfl⟩
    rw [← hg] at hblk ⊢
    have HG : Hid (w.heap.size < g) := by unfold Hid; rw [hg]; exact (HBel.out _ HV2.out).2
    rw [zeros_cells] at hblk
    have HS0 : Hid (BB (w2.alloc (.cells (madeCells #[.int .u8 0] z) 5)) ∧ (w2.alloc (.cells (madeCells #[.int .u8 0] z) 5)).heap[g]? = some (.cells (vals (FE 0)).toArray 5 (0, 0))) := ⟨HBB.out _ _ HV2.out hbm, by rw [HZ.out, zeros_cells]; exact hblk⟩
    clear hblk hbm HV2 hg
    generalize w2.alloc (.cells (madeCells #[.int .u8 0] z) 5) = w3 at HS0 ⊢
    go_loopw [5] (fun i wr => ∃ k : Nat, k ≤ 12 ∧ i = .int .i64 k ∧ Hid (BB wr ∧ wr.heap[g]? = some (.cells (vals (FE k)).toArray 5 (0, 0)))) (fun i _ => 12 - (intOf i).toNat)
    case atStart => exact ⟨0, Nat.zero_le _, rfl, HS0.out⟩
    case round =>
      obtain ⟨k, hk, rfl, HV⟩ := hrel
      by_cases hlt : k < 12
      · have hlt1 : (k : Int) < 12 := by omega
        obtain ⟨c0, -⟩ := HCell.out _ HV.out.1
        have hfit := HFit.out k hlt
        have hlen := HLen.out k hk
        have HWk := Lib.hid (HW.out k wr)
        obtain ⟨a, ha⟩ : ∃ a : Nat, (whF tag k).1 = a := ⟨(whF tag k).1.toNat, by omega⟩
        obtain ⟨n, hn⟩ : ∃ n : Nat, (whF tag k).2 = n := ⟨(whF tag k).2.toNat, by omega⟩
        have hstep := HStep.out k
        rw [ha, hn] at HWk hfit hstep
        rw [Int.toNat_natCast, Int.toNat_natCast] at hstep
        have hY := HBd.out k
        have HNk := Lib.hid (HN.out k hlt)
        obtain ⟨Y, hYe⟩ : ∃ Y, Y = num k := ⟨_, rfl⟩
        rw [← hYe] at HNk hY hstep
        obtain ⟨L, hL⟩ : ∃ L, L = FE k := ⟨_, rfl⟩
        rw [← hL] at hlen HV hstep
        have hby := HByt.out k
        rw [← hL] at hby
        have HSt := Lib.hid hstep
        have HBy := Lib.hid hby
        have hfit2 : a + n ≤ z := by omega
        have hn8 : n ≤ 8 := by omega
        clear ha hn hstep hYe hL hby hfit
        go_wp2_with fail
        refine HWk.out.mono ?_
        rintro e w4 ⟨rfl, hb4⟩
        have HV4 : Hid (BB w4 ∧ w4.heap[g]? = some (.cells (vals L).toArray 5 (0, 0))) := ⟨HBB.out _ _ HV.out.1 hb4, (hb4.block _ (lt_block HV.out.2)).trans HV.out.2⟩
        clear hb4 c0 HV
        obtain ⟨c0, c1, c2, c3, c4, c5, c6, c7, c8, c9, c10, c11⟩ := HCell.out _ HV4.out.1
        go_wp2_with fail
        refine (HNk.out w4).mono ?_
        rintro e w5 ⟨rfl, hb5⟩
        have HV5 : Hid (BB w5 ∧ w5.heap[g]? = some (.cells (vals (stl L a 0 Y)).toArray 5 (0, 0))) := ⟨HBB.out _ _ HV4.out.1 hb5, by rw [stl_none]; exact (hb5.block _ (lt_block HV4.out.2)).trans HV4.out.2⟩
        clear hb5 c0 c1 c2 c3 c4 c5 c6 c7 c8 c9 c10 c11 HV4
        go_wp2
        go_loopw [8, 9] (fun nn i wi => ∃ j : Nat, j ≤ n ∧ i = .int .i64 j ∧ nn = .int .u64 (Y / 256 ^ j) ∧ Hid (BB wi ∧ wi.heap[g]? = some (.cells (vals (stl L a j Y)).toArray 5 (0, 0)))) (fun _ i _ => n - (intOf i).toNat)
        case atStart => exact ⟨0, Nat.zero_le _, rfl, by simp, HV5.out⟩
        case round =>
          obtain ⟨j, hj, rfl, rfl, HI⟩ := hrel
          by_cases hjn : j < n
          · have hjn1 : (j : Int) < (n : Int) := by omega
            obtain ⟨s, hs⟩ : ∃ s : Nat, s = a + j := ⟨_, rfl⟩
            have hst := stl_step L a j Y (by omega) (by omega)
            have hpw := parts_pow Y j (by omega) hY.1 hY.2
            have hll := stl_length L a j Y (by omega) (by omega)
            have g0 : 0 ≤ Y / 256 ^ j := Int.ediv_nonneg hY.1 (Int.pow_nonneg (by omega))
            have g1 : Y / 256 ^ j ≤ Y := Int.ediv_le_self _ hY.1
            have he2 := Lib.hid (show Y / 256 ^ (j + 1) = Y / 256 ^ j / 256 by rw [Int.pow_succ, Int.ediv_ediv_of_nonneg (Int.pow_nonneg (by omega))])
            obtain ⟨V, hV⟩ : ∃ V, V = Y / 256 ^ j := ⟨_, rfl⟩
            rw [← hV] at g0 g1 he2 hpw ⊢
            rw [← hs, hpw] at hst
            have q0 : wr.cell? ⟨g, s, none⟩ = some (.int .u8 ((stl L a j Y).getD s 0)) := by
              rw [cell_block HI.out.2, List.getElem?_toArray, vals_get _ _ (by omega)]
            have q1 := frozen_block HI.out.2 s
            have HNx : Hid (BB (wr.setCell ⟨g, s, none⟩ (.int .u8 (V % 256))) ∧ (wr.setCell ⟨g, s, none⟩ (.int .u8 (V % 256))).heap[g]? = some (.cells (vals (stl L a (j + 1) Y)).toArray 5 (0, 0))) := by
              refine ⟨HBS.out _ _ _ _ HI.out.1 HG.out, ?_⟩
              have h1 := heap_setCell_own (o := s) HI.out.2 (.int .u8 (V % 256))
              rw [vals_set, hst] at h1
              exact h1
            have hsz2 : s < z := by omega
            have hs1 : (s : Int) < (z : Int) := by omega
            have hs0 : (0 : Int) ≤ (s : Int) := by omega
            have u8w : IntKind.u8.wrap (V % 256) = V % 256 := by simp [IntKind.wrap, IntKind.bits, IntKind.signed]
            obtain ⟨hw1, hw2⟩ : IntKind.i64.wrap ((a : Int) + (j : Int)) = (s : Int) ∧ wrap64 ((a : Int) + (j : Int)) = (s : Int) := ⟨(wrap_id (by omega) (by omega)).trans (by omega), (IntWalk.wrap64_in _ (by omega)).trans (by omega)⟩
            clear hV hs hst hpw hll HI
            go_wp2
            go_roundw
            case rel => exact ⟨j + 1, by omega, by go_num, by rw [he2.out], HNx.out⟩
            case measure => simp [intOf]; omega
          · obtain rfl : j = n := by omega
            have HNx : Hid (BB wr ∧ wr.heap[g]? = some (.cells (vals (FE (k + 1))).toArray 5 (0, 0))) := by
              refine ⟨HI.out.1, ?_⟩
              rw [HSt.out]
              exact HI.out.2
            clear HI
            go_wp2
            go_roundw
            case rel => exact ⟨k + 1, by omega, by go_num, HNx.out⟩
            case measure => simp [intOf]; omega
      · obtain rfl : k = 12 := by omega
        have HE : Hid (Below w.heap.size w wr ∧ Row .u8 wr (.slice (some ⟨g, 0, none⟩) z z) (FE 12)) := by
          refine ⟨(HBel.out _ HV.out.1).1, ?_⟩
          have h1 := row_of_block HV.out.2 (HByt.out 12) (by rw [HLen.out 12 (by omega)]; omega)
          rw [HLen.out 12 (by omega)] at h1
          exact h1
        clear HV
        go_wp2
        go_ret2
        exact ⟨_, rfl, HE.out⟩
  · have hr' : rightF b = false := by simpa using hr
    rw [encF_no hr']
    rw [hr'] at HRi
    have HBel : Hid (∀ W, Below (BW w b).heap.size (BW w b) W → Below w.heap.size w W) := fun W h => (hx.below h).bel
    unfold BW at HBel hx
    obtain ⟨c0, c1, c2, c3, c4, c5, c6, c7, c8, c9, c10, c11, -, -⟩ := hx
    unfold Blk.agg at HRi ⊢
    obtain ⟨tag, cls, used, lab, name, next, prev, refs, exp, typ, size, hash⟩ := b
    simp only [] at HRi HBel c0 c1 c2 c3 c4 c5 c6 c7 c8 c9 c10 c11
    clear hr hr' hb
    go_enter Tryd.func10, Tryd.ntmps10
    go_wp2_with fail
    refine (HRi.out _).mono ?_
    rintro e w1 ⟨rfl, hb1⟩
    have HB1 := Lib.hid (HBel.out _ hb1)
    clear hb1
    go_wp2
    go_ret2
    exact ⟨_, rfl, HB1.out, Row.nil _ _⟩
end Go.Proofs.YtkknegnipodcnaaDoor.Hea
