/- The landed head: the numbers in a header's bytes; Decode. -/
import Derived.Test.YtkknegnipodcnaaDoorHeaY
namespace Go.Proofs.YtkknegnipodcnaaDoor.Hea
open Go.RowKit Num
set_option linter.unusedVariables false

/-- The number in a field of bytes. -/
def rdv (l : List Int) (t f : Int) : Int := (ldv l (whF t f).1 (whF t f).2).1
theorem wh_all {t : Int} (ht : 0 ≤ t ∧ t ≤ 2) (f : Nat) (hf : f < 12) (h1 : (whF t f).2 ≠ 0) : isW (whF t f).2 = true ∧ (whF t f).1 % (whF t f).2 = 0 := by
  have k1 : t = 0 ∨ t = 1 ∨ t = 2 := by omega
  have all : ∀ t : Fin 3, ∀ f : Fin 12, (whF (t.val : Int) (f.val : Int)).2 ≠ 0 → isW (whF (t.val : Int) (f.val : Int)).2 = true ∧ (whF (t.val : Int) (f.val : Int)).1 % (whF (t.val : Int) (f.val : Int)).2 = 0 := by
    decide +kernel
  rcases k1 with rfl | rfl | rfl
  · exact all 0 ⟨f, hf⟩ h1
  · exact all 1 ⟨f, hf⟩ h1
  · exact all 2 ⟨f, hf⟩ h1
theorem rdv_is {l : List Int} {t : Int} (ht : 0 ≤ t ∧ t ≤ 2) (hs : szF t ≤ (l.length : Int)) (f : Nat) (hf : f < 12) : rdv l t f = if (whF t f).2 = 0 then 0 else rdF l (whF t f).1.toNat (whF t f).2.toNat := by
  unfold rdv
  by_cases hz : (whF t f).2 = 0
  · rw [if_pos hz, hz]
    rfl
  · rw [if_neg hz]
    obtain ⟨h1, h2⟩ := wh_all ht f hf hz
    have h3 := wh_fit ht f hf
    have hsz := sz_bd ht
    have hp : plc l.length (whF t f).1 (whF t f).2 = 0 := by
      unfold plc
      rw [if_neg (by omega), if_pos h2]
    unfold ldv
    rw [if_pos h1, if_pos hp]
    rfl
def parB (l : List Int) (t : Int) : Blk := ⟨t, rdv l t 1, rdv l t 2 != 0, rdv l t 3, rdv l t 4, rdv l t 5, rdv l t 6, rdv l t 11, rdv l t 7, rdv l t 8, rdv l t 9, rdv l t 10⟩
structure ParOk (l : List Int) (t : Int) : Prop where
  b1 : 0 ≤ rdv l t 1 ∧ rdv l t 1 < 65536
  b2 : 0 ≤ rdv l t 2 ∧ rdv l t 2 < 65536
  b3 : 0 ≤ rdv l t 3 ∧ rdv l t 3 < 65536
  b4 : 0 ≤ rdv l t 4 ∧ rdv l t 4 < 4294967296
  b5 : 0 ≤ rdv l t 5 ∧ rdv l t 5 < 4294967296
  b6 : 0 ≤ rdv l t 6 ∧ rdv l t 6 < 4294967296
  b7 : 0 ≤ rdv l t 7 ∧ rdv l t 7 < 18446744073709551616
  b8 : 0 ≤ rdv l t 8 ∧ rdv l t 8 < 65536
  b9 : 0 ≤ rdv l t 9 ∧ rdv l t 9 < 65536
  b10 : 0 ≤ rdv l t 10 ∧ rdv l t 10 < 4294967296
  b11 : 0 ≤ rdv l t 11 ∧ rdv l t 11 < 4294967296
theorem par_is {l : List Int} (hl : ∀ i, 0 ≤ l.getD i 0 ∧ l.getD i 0 < 256) {t : Int} (he : t = l.getD 0 0) (ht : 0 ≤ t ∧ t ≤ 2) (hs : szF t ≤ (l.length : Int)) :
    parB l t = { decB l with used := l.getD 2 0 != 0 } ∧ ParOk l t ∧ rdv l t 2 = l.getD 2 0 := by
  have h8 := (sz_bd ht).1
  have e1 : rdF l 1 1 = l.getD 1 0 := rdF_one _ (by omega)
  have e2 : rdF l 2 1 = l.getD 2 0 := rdF_one _ (by omega)
  have e3 : rdF l 3 1 = l.getD 3 0 := rdF_one _ (by omega)
  have b1 := hl 1
  have b2 := hl 2
  have b3 := hl 3
  have c4 := rdF_4 hl 4
  have c8 := rdF_4 hl 8
  have c12 := rdF_4 hl 12
  have c16 := rdF_8 hl 16
  have c24 := rdF_2 hl 24
  have c26 := rdF_2 hl 26
  have c28 := rdF_4 hl 28
  have hv := fun f hf => rdv_is ht hs f hf
  have v1 := hv 1 (by omega)
  have v2 := hv 2 (by omega)
  have v3 := hv 3 (by omega)
  have v4 := hv 4 (by omega)
  have v5 := hv 5 (by omega)
  have v6 := hv 6 (by omega)
  have v7 := hv 7 (by omega)
  have v8 := hv 8 (by omega)
  have v9 := hv 9 (by omega)
  have v10 := hv 10 (by omega)
  have v11 := hv 11 (by omega)
  clear hv
  unfold decB
  rw [← he]
  have htt : t = 0 ∨ t = 1 ∨ t = 2 := by omega
  clear hs he h8 hl
  obtain ⟨y1, hy1⟩ : ∃ y, y = l.getD 1 0 := ⟨_, rfl⟩
  obtain ⟨y2, hy2⟩ : ∃ y, y = l.getD 2 0 := ⟨_, rfl⟩
  obtain ⟨y3, hy3⟩ : ∃ y, y = l.getD 3 0 := ⟨_, rfl⟩
  rw [← hy1] at b1 e1 ⊢
  rw [← hy2] at b2 e2 ⊢
  rw [← hy3] at b3 e3 ⊢
  clear hy1 hy2 hy3
  rcases htt with rfl | rfl | rfl
  all_goals
    simp [whF, e1, e2, e3] at v1 v2 v3 v4 v5 v6 v7 v8 v9 v10 v11
    refine ⟨?_, ?_, v2⟩
    · unfold parB
      simp [v1, v2, v3, v4, v5, v6, v7, v8, v9, v10, v11]
    · constructor <;> simp only [v1, v2, v3, v4, v5, v6, v7, v8, v9, v10, v11] <;> omega

theorem read_int (v : Value) (l : List Int) (t f : Int) (w : World) (htb : Tab w) (hr : Row .u8 w v l) (hx : 0 ≤ rdv l t f ∧ rdv l t f < 65536) :
    Calls Tryd.prog 32 #[v, .int .i64 t, .int .i64 f] w fun e w' => e = .returned (.int .i64 (rdv l t f)) ∧ Below w.heap.size w w' := by
  have HW := Lib.hid (where_any t f w htb)
  have HL := Lib.hid (fun W (hb : Below w.heap.size w W) => load_any v (whF t f).1 (whF t f).2 l W (hr.mono hb (Nat.le_refl _)))
  have hw : wrap64 (rdv l t f) = rdv l t f := w64 hx.1 (by omega)
  unfold rdv at hx hw ⊢
  generalize (ldv l (whF t f).1 (whF t f).2).1 = x at HL hx hw ⊢
  generalize (ldv l (whF t f).1 (whF t f).2).2 = y at HL
  generalize (whF t f).1 = p at HW HL
  generalize (whF t f).2 = q at HW HL
  clear htb hr hx
  go_enter Tryd.func32, Tryd.ntmps32
  go_wp2_with fail
  refine HW.out.mono ?_
  rintro e w1 ⟨rfl, hb1⟩
  have HB1 := Lib.hid hb1
  clear hb1
  go_wp2_with fail
  refine (HL.out _ HB1.out).mono ?_
  rintro e w2 ⟨rfl, hb2⟩
  have HB2 := Lib.hid (HB1.out.trans (hb2.mono HB1.out.size))
  clear hb2
  go_wp2
  go_ret
  exact ⟨ret_int hw, HB2.out⟩
theorem read_u32 (v : Value) (l : List Int) (t f : Int) (w : World) (htb : Tab w) (hr : Row .u8 w v l) (hx : 0 ≤ rdv l t f ∧ rdv l t f < 4294967296) :
    Calls Tryd.prog 56 #[v, .int .i64 t, .int .i64 f] w fun e w' => e = .returned (.int .u32 (rdv l t f)) ∧ Below w.heap.size w w' := by
  have HW := Lib.hid (where_any t f w htb)
  have HL := Lib.hid (fun W (hb : Below w.heap.size w W) => load_any v (whF t f).1 (whF t f).2 l W (hr.mono hb (Nat.le_refl _)))
  have hw : (rdv l t f) % 4294967296 = rdv l t f := Int.emod_eq_of_lt hx.1 hx.2
  unfold rdv at hx hw ⊢
  generalize (ldv l (whF t f).1 (whF t f).2).1 = x at HL hx hw ⊢
  generalize (ldv l (whF t f).1 (whF t f).2).2 = y at HL
  generalize (whF t f).1 = p at HW HL
  generalize (whF t f).2 = q at HW HL
  clear htb hr hx
  go_enter Tryd.func56, Tryd.ntmps56
  go_wp2_with fail
  refine HW.out.mono ?_
  rintro e w1 ⟨rfl, hb1⟩
  have HB1 := Lib.hid hb1
  clear hb1
  go_wp2_with fail
  refine (HL.out _ HB1.out).mono ?_
  rintro e w2 ⟨rfl, hb2⟩
  have HB2 := Lib.hid (HB1.out.trans (hb2.mono HB1.out.size))
  clear hb2
  go_wp2
  go_ret
  exact ⟨rfl, HB2.out⟩
theorem read_u16 (v : Value) (l : List Int) (t f : Int) (w : World) (htb : Tab w) (hr : Row .u8 w v l) (hx : 0 ≤ rdv l t f ∧ rdv l t f < 65536) :
    Calls Tryd.prog 58 #[v, .int .i64 t, .int .i64 f] w fun e w' => e = .returned (.int .u16 (rdv l t f)) ∧ Below w.heap.size w w' := by
  have HW := Lib.hid (where_any t f w htb)
  have HL := Lib.hid (fun W (hb : Below w.heap.size w W) => load_any v (whF t f).1 (whF t f).2 l W (hr.mono hb (Nat.le_refl _)))
  have hw : (rdv l t f) % 65536 = rdv l t f := Int.emod_eq_of_lt hx.1 hx.2
  unfold rdv at hx hw ⊢
  generalize (ldv l (whF t f).1 (whF t f).2).1 = x at HL hx hw ⊢
  generalize (ldv l (whF t f).1 (whF t f).2).2 = y at HL
  generalize (whF t f).1 = p at HW HL
  generalize (whF t f).2 = q at HW HL
  clear htb hr hx
  go_enter Tryd.func58, Tryd.ntmps58
  go_wp2_with fail
  refine HW.out.mono ?_
  rintro e w1 ⟨rfl, hb1⟩
  have HB1 := Lib.hid hb1
  clear hb1
  go_wp2_with fail
  refine (HL.out _ HB1.out).mono ?_
  rintro e w2 ⟨rfl, hb2⟩
  have HB2 := Lib.hid (HB1.out.trans (hb2.mono HB1.out.size))
  clear hb2
  go_wp2
  go_ret
  exact ⟨rfl, HB2.out⟩
theorem read_u64 (v : Value) (l : List Int) (t f : Int) (w : World) (htb : Tab w) (hr : Row .u8 w v l) (hx : 0 ≤ rdv l t f ∧ rdv l t f < 18446744073709551616) :
    Calls Tryd.prog 57 #[v, .int .i64 t, .int .i64 f] w fun e w' => e = .returned (.int .u64 (rdv l t f)) ∧ Below w.heap.size w w' := by
  have HW := Lib.hid (where_any t f w htb)
  have HL := Lib.hid (fun W (hb : Below w.heap.size w W) => load_any v (whF t f).1 (whF t f).2 l W (hr.mono hb (Nat.le_refl _)))
  have hw : (rdv l t f) % 18446744073709551616 = rdv l t f := Int.emod_eq_of_lt hx.1 hx.2
  unfold rdv at hx hw ⊢
  generalize (ldv l (whF t f).1 (whF t f).2).1 = x at HL hx hw ⊢
  generalize (ldv l (whF t f).1 (whF t f).2).2 = y at HL
  generalize (whF t f).1 = p at HW HL
  generalize (whF t f).2 = q at HW HL
  clear htb hr hx
  go_enter Tryd.func57, Tryd.ntmps57
  go_wp2_with fail
  refine HW.out.mono ?_
  rintro e w1 ⟨rfl, hb1⟩
  have HB1 := Lib.hid hb1
  clear hb1
  go_wp2_with fail
  refine (HL.out _ HB1.out).mono ?_
  rintro e w2 ⟨rfl, hb2⟩
  have HB2 := Lib.hid (HB1.out.trans (hb2.mono HB1.out.size))
  clear hb2
  go_wp2
  go_ret
  exact ⟨rfl, HB2.out⟩

set_option maxRecDepth 100000 in
set_option maxHeartbeats 4000000 in
theorem parse_any (v : Value) (l : List Int) (t : Int) (w : World) (htb : Tab w) (hr : Row .u8 w v l) (hp : ParOk l t) :
    Calls Tryd.prog 31 #[v, .int .i64 t] w fun e w' => e = .returned (parB l t).agg ∧ Below w.heap.size w w' := by
  have hblk := heap_alloc_new w (.cells (cellsA Blk.zero) 26)
  have hbl0 := below_made w (.cells (cellsA Blk.zero) 26)
  have hz0 : w.heap.size < (w.alloc (.cells (cellsA Blk.zero) 26)).heap.size := by simp
  obtain ⟨BB, hBB⟩ : ∃ BB : World → Prop, BB = fun W => Below (w.alloc (.cells (cellsA Blk.zero) 26)).heap.size (w.alloc (.cells (cellsA Blk.zero) 26)) W := ⟨_, rfl⟩
  have HX : Hid (BB (w.alloc (.cells (cellsA Blk.zero) 26))) := by unfold Hid; rw [hBB]; exact Below.refl _ _
  have HBB : Hid (∀ W V, BB W → Below W.heap.size W V → BB V) := fun W V h hb => by rw [hBB] at h ⊢; exact h.trans (hb.mono h.size)
  have HKeep : Hid (∀ W, BB W → W.heap[w.heap.size]? = some (.cells (cellsA Blk.zero) 26 (0, 0)) ∧ Below w.heap.size w W) := fun W hb => by rw [hBB] at hb; exact ⟨(hb.block _ hz0).trans hblk, hbl0.trans (hb.mono hbl0.size)⟩
  have hk := fun W (h : BB W) => (HKeep.out W h).2
  have H1 := Lib.hid (fun W (h : BB W) => read_int v l t 1 W (htb.keep (hk W h)) (hr.mono (hk W h) (Nat.le_refl _)) hp.b1)
  have H2 := Lib.hid (fun W (h : BB W) => read_int v l t 2 W (htb.keep (hk W h)) (hr.mono (hk W h) (Nat.le_refl _)) hp.b2)
  have H3 := Lib.hid (fun W (h : BB W) => read_int v l t 3 W (htb.keep (hk W h)) (hr.mono (hk W h) (Nat.le_refl _)) hp.b3)
  have H4 := Lib.hid (fun W (h : BB W) => read_u32 v l t 4 W (htb.keep (hk W h)) (hr.mono (hk W h) (Nat.le_refl _)) hp.b4)
  have H5 := Lib.hid (fun W (h : BB W) => read_u32 v l t 5 W (htb.keep (hk W h)) (hr.mono (hk W h) (Nat.le_refl _)) hp.b5)
  have H6 := Lib.hid (fun W (h : BB W) => read_u32 v l t 6 W (htb.keep (hk W h)) (hr.mono (hk W h) (Nat.le_refl _)) hp.b6)
  have H11 := Lib.hid (fun W (h : BB W) => read_u32 v l t 11 W (htb.keep (hk W h)) (hr.mono (hk W h) (Nat.le_refl _)) hp.b11)
  have H7 := Lib.hid (fun W (h : BB W) => read_u64 v l t 7 W (htb.keep (hk W h)) (hr.mono (hk W h) (Nat.le_refl _)) hp.b7)
  have H8 := Lib.hid (fun W (h : BB W) => read_u16 v l t 8 W (htb.keep (hk W h)) (hr.mono (hk W h) (Nat.le_refl _)) hp.b8)
  have H9 := Lib.hid (fun W (h : BB W) => read_int v l t 9 W (htb.keep (hk W h)) (hr.mono (hk W h) (Nat.le_refl _)) hp.b9)
  have H10 := Lib.hid (fun W (h : BB W) => read_u32 v l t 10 W (htb.keep (hk W h)) (hr.mono (hk W h) (Nat.le_refl _)) hp.b10)
  unfold parB
  unfold cellsA Blk.zero at HX
  obtain ⟨x1, hx1⟩ : ∃ x, x = rdv l t 1 := ⟨_, rfl⟩
  obtain ⟨x2, hx2⟩ : ∃ x, x = rdv l t 2 := ⟨_, rfl⟩
  obtain ⟨x3, hx3⟩ : ∃ x, x = rdv l t 3 := ⟨_, rfl⟩
  obtain ⟨x4, hx4⟩ : ∃ x, x = rdv l t 4 := ⟨_, rfl⟩
  obtain ⟨x5, hx5⟩ : ∃ x, x = rdv l t 5 := ⟨_, rfl⟩
  obtain ⟨x6, hx6⟩ : ∃ x, x = rdv l t 6 := ⟨_, rfl⟩
  obtain ⟨x11, hx11⟩ : ∃ x, x = rdv l t 11 := ⟨_, rfl⟩
  obtain ⟨x7, hx7⟩ : ∃ x, x = rdv l t 7 := ⟨_, rfl⟩
  obtain ⟨x8, hx8⟩ : ∃ x, x = rdv l t 8 := ⟨_, rfl⟩
  obtain ⟨x9, hx9⟩ : ∃ x, x = rdv l t 9 := ⟨_, rfl⟩
  obtain ⟨x10, hx10⟩ : ∃ x, x = rdv l t 10 := ⟨_, rfl⟩
  rw [← hx1] at H1
  rw [← hx2] at H2
  rw [← hx3] at H3
  rw [← hx4] at H4
  rw [← hx5] at H5
  rw [← hx6] at H6
  rw [← hx11] at H11
  rw [← hx7] at H7
  rw [← hx8] at H8
  rw [← hx9] at H9
  rw [← hx10] at H10
  rw [← hx1, ← hx2, ← hx3, ← hx4, ← hx5, ← hx6, ← hx11, ← hx7, ← hx8, ← hx9, ← hx10]
  clear hblk hbl0 hz0 hBB hk htb hr hp hx1 hx2 hx3 hx4 hx5 hx6 hx11 hx7 hx8 hx9 hx10
  go_enter Tryd.func31, Tryd.ntmps31
  go_wp2_with fail
  refine (H1.out _ HX.out).mono ?_
  rintro e w1 ⟨rfl, hb⟩
  have HV1 := Lib.hid (HBB.out _ _ HX.out hb)
  clear hb
  go_wp2_with fail
  refine (H2.out _ HV1.out).mono ?_
  rintro e w2 ⟨rfl, hb⟩
  have HV2 := Lib.hid (HBB.out _ _ HV1.out hb)
  clear hb
  go_wp2_with fail
  refine (H3.out _ HV2.out).mono ?_
  rintro e w3 ⟨rfl, hb⟩
  have HV3 := Lib.hid (HBB.out _ _ HV2.out hb)
  clear hb
  go_wp2_with fail
  refine (H4.out _ HV3.out).mono ?_
  rintro e w4 ⟨rfl, hb⟩
  have HV4 := Lib.hid (HBB.out _ _ HV3.out hb)
  clear hb
  go_wp2_with fail
  refine (H5.out _ HV4.out).mono ?_
  rintro e w5 ⟨rfl, hb⟩
  have HV5 := Lib.hid (HBB.out _ _ HV4.out hb)
  clear hb
  go_wp2_with fail
  refine (H6.out _ HV5.out).mono ?_
  rintro e w6 ⟨rfl, hb⟩
  have HV6 := Lib.hid (HBB.out _ _ HV5.out hb)
  clear hb
  go_wp2_with fail
  refine (H11.out _ HV6.out).mono ?_
  rintro e w7 ⟨rfl, hb⟩
  have HV7 := Lib.hid (HBB.out _ _ HV6.out hb)
  clear hb
  go_wp2_with fail
  refine (H7.out _ HV7.out).mono ?_
  rintro e w8 ⟨rfl, hb⟩
  have HV8 := Lib.hid (HBB.out _ _ HV7.out hb)
  clear hb
  go_wp2_with fail
  refine (H8.out _ HV8.out).mono ?_
  rintro e w9 ⟨rfl, hb⟩
  have HV9 := Lib.hid (HBB.out _ _ HV8.out hb)
  clear hb
  go_wp2_with fail
  refine (H9.out _ HV9.out).mono ?_
  rintro e w10 ⟨rfl, hb⟩
  have HV10 := Lib.hid (HBB.out _ _ HV9.out hb)
  clear hb
  go_wp2_with fail
  refine (H10.out _ HV10.out).mono ?_
  rintro e w11 ⟨rfl, hb⟩
  have HV11 := Lib.hid (HBB.out _ _ HV10.out hb)
  clear hb
  obtain ⟨hk1, hk2⟩ := HKeep.out w11 HV11.out
  have f := free_of hk1
  have f0 := f 0
  have f1 := f 1
  have f2 := f 2
  have f3 := f 3
  have f4 := f 4
  have f5 := f 5
  have f6 := f 6
  have f7 := f 7
  have f8 := f 8
  have f9 := f 9
  have f10 := f 10
  have f11 := f 11
  obtain ⟨c0, c1, c2, c3, c4, c5, c6, c7, c8, c9, c10, c11⟩ := cells_of hk1
  have HQ := Lib.hid (cells_of (s12_block hk1 ⟨t, x1, x2 != 0, x3, x4, x5, x6, x11, x7, x8, x9, x10⟩))
  have HBz := Lib.hid (s12_below hk2 (Nat.le_refl _) ⟨t, x1, x2 != 0, x3, x4, x5, x6, x11, x7, x8, x9, x10⟩)
  simp only [] at HQ
  clear hk1 hk2 f
  go_wp2
  show bodyPost _ _ _ _ _ (S12 w11 w.heap.size ⟨t, x1, x2 != 0, x3, x4, x5, x6, x11, x7, x8, x9, x10⟩)
  generalize S12 w11 w.heap.size ⟨t, x1, x2 != 0, x3, x4, x5, x6, x11, x7, x8, x9, x10⟩ = W at HQ HBz ⊢
  obtain ⟨q0, q1, q2, q3, q4, q5, q6, q7, q8, q9, q10, q11⟩ := HQ.out
  refine bodyPost_ret (v := Blk.agg ⟨t, x1, x2 != 0, x3, x4, x5, x6, x11, x7, x8, x9, x10⟩) (by simp [results, Tryd.results31, go_sem, q0, q1, q2, q3, q4, q5, q6, q7, q8, q9, q10, q11, Blk.agg]) rfl ⟨rfl, HBz.out⟩
end Go.Proofs.YtkknegnipodcnaaDoor.Hea
