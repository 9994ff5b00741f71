/- HeadWhere, HeadCodes. -/
import Derived.Test.YtkknegnipodcnaaDoorHeaL
import Derived.BigQuiet
namespace Go.Proofs.YtkknegnipodcnaaDoor.Hea
open Go.RowKit Num
set_option linter.unusedVariables false

theorem conv_bytes {w : World} {v : Value} {l : List Int} (h : Row .u8 w v l) : (convert 27 9 v).run Tryd.prog w = .ok (.string (strOfNums l)) w :=
  Row.string (P := Tryd.prog) h 27 9 5 Tryd.underlying27 Tryd.underlying5 Tryd.underlying9

set_option maxRecDepth 100000 in
theorem headWhere_walk {Tb : World → Prop} (D : Does Tb) (t f : Int) (w : World) (ht : Tb w) (t64 : i64 t) (f64 : i64 f) : Calls Tryd.prog 4 #[.int .i64 t, .int .i64 f] w fun e w' => e = .returned (.bool true) ∧ Below w.heap.size w w' := by
  have HW := Lib.hid (fun u (hu : Tb u) => D.whr t f u hu t64 f64)
  have HS := Lib.hid (fun u (hu : Tb u) => D.size t u hu t64)
  have RW := Lib.hid (fun u => refWhere_any t f u)
  have RS := Lib.hid (fun u => refSize_any t u)
  have HH := Lib.hid (fun u (hu : Tb u) => heads_any D u hu)
  have HK := Lib.hid D.keep
  obtain ⟨a, ha⟩ : ∃ a, a = (whF t f).1 := ⟨_, rfl⟩
  obtain ⟨n, hn⟩ : ∃ n, n = (whF t f).2 := ⟨_, rfl⟩
  obtain ⟨z, hz⟩ : ∃ z, z = szF t := ⟨_, rfl⟩
  rw [← ha, ← hn] at HW RW
  rw [← hz] at HS RS
  have haa : (a == a) = true := by simp
  have hnn : (n == n) = true := by simp
  have hzz : (z == z) = true := by simp
  clear ha hn hz t64 f64 D
  go_enter Tryd.func4, Tryd.ntmps4
  go_wp2_with fail
  refine (HW.out _ ht).mono ?_
  rintro e w1 ⟨rfl, hb1⟩
  have h1 := HK.out _ _ hb1 ht
  go_wp2_with fail
  refine (RW.out _).mono ?_
  rintro e w2 ⟨rfl, hb2⟩
  have h2 := HK.out _ _ hb2 h1
  have hB2 := hb1.trans (hb2.mono hb1.size)
  clear hb1 hb2 h1
  go_wp2_with fail
  refine (HS.out _ h2).mono ?_
  rintro e w3 ⟨rfl, hb3⟩
  have h3 := HK.out _ _ hb3 h2
  have hB3 := hB2.trans (hb3.mono hB2.size)
  clear hb3 hB2 h2
  go_wp2_with fail
  refine (RS.out _).mono ?_
  rintro e w4 ⟨rfl, hb4⟩
  have h4 := HK.out _ _ hb4 h3
  have hB4 := hB3.trans (hb4.mono hB3.size)
  clear hb4 hB3 h3
  go_wp2_with fail
  refine (HH.out _ h4).mono ?_
  rintro e w5 ⟨rfl, hb5⟩
  have HE := Lib.hid (hB4.trans (hb5.mono hB4.size))
  clear hb5 hB4 h4
  go_wp2
  go_ret
  exact ⟨rfl, HE.out⟩

theorem newBlk (w : World) (b : Blk) : (w.alloc (.cells (cellsA b) 26)).heap[w.heap.size]? = some (.cells (cellsA b) 26 (0, 0)) := heap_alloc_new w _
set_option maxRecDepth 100000 in
set_option maxHeartbeats 4000000 in
theorem headCodes_walk {Tb : World → Prop} (D : Does Tb) (b : Blk) (v : Value) (l : List Int) (w : World) (ht : Tb w) (hb : b.Ok) (hr : Row .u8 w v l) : Calls Tryd.prog 3 #[b.agg, v] w fun e w' => e = .returned (.bool true) ∧ Below w.heap.size w w' := by
  have HH := Lib.hid (fun u (hu : Tb u) => heads_any D u hu)
  have HK := Lib.hid D.keep
  have hx := BX.first w b
  have hb0 : Below w.heap.size w (BW w b) := hx.bel
  have ht0 := HK.out _ _ hb0 ht
  have HRow := Lib.hid hr
  have hrr := hr
  obtain ⟨ad, cap, rfl, q2, q3, -, -⟩ := hr
  by_cases hl : 600 < l.length
  · have hl1 : (600 : Int) < (l.length : Int) := by omega
    have HB0 := Lib.hid hb0
    unfold BW at ht0 HB0
    unfold Blk.agg
    clear hx hb0 HRow hrr hb D
    go_enter Tryd.func3, Tryd.ntmps3
    go_wp2_with fail
    refine (HH.out _ ht0).mono ?_
    rintro e w1 ⟨rfl, hb1⟩
    have HE := Lib.hid (HB0.out.trans (hb1.mono HB0.out.size))
    clear hb1
    go_wp2
    go_ret
    exact ⟨rfl, HE.out⟩
  · have hl1 : ¬ (600 : Int) < (l.length : Int) := by omega
    have HE := Lib.hid (fun u (hu : Tb u) => D.encode b u hu hb)
    have RE := Lib.hid (fun u => refEncode_any b hb u)
    have HD := Lib.hid (fun u (hu : Tb u) (hbel : Below w.heap.size w u) => D.decode _ l u hu (HRow.out.mono hbel (Nat.le_refl _)) (by omega))
    have RD := Lib.hid (fun u (hbel : Below w.heap.size w u) => refDecode_any _ l u (HRow.out.mono hbel (Nat.le_refl _)) (by omega))
    have HRi := Lib.hid (fun u (hu : Tb u) => D.right b u hu hb)
    have RRi := Lib.hid (fun u => refRight_any b hb u)
    obtain ⟨en, hen⟩ : ∃ en, en = encF b := ⟨_, rfl⟩
    obtain ⟨de, hde⟩ : ∃ de, de = decF l := ⟨_, rfl⟩
    obtain ⟨ri, hri⟩ : ∃ ri, ri = rightF b := ⟨_, rfl⟩
    rw [← hen] at HE RE
    rw [← hde] at HD RD
    rw [← hri] at HRi RRi
    obtain ⟨X, xe⟩ := en
    obtain ⟨Y, ye⟩ := de
    simp only [] at HE RE HD RD
    have hxe : (xe == xe) = true := by simp
    have hye : (ye == ye) = true := by simp
    have hrq : (ri == ri) = true := by simp
    obtain ⟨S, hS⟩ : ∃ S, S = strOfNums X := ⟨_, rfl⟩
    have hSS : (S.toList == S.toList) = true := by simp
    have HS := Lib.hid hS
    have HX : Hid (∀ W, Below (BW w b).heap.size (BW w b) W → BX w W b) := fun W hb => hx.below hb
    obtain ⟨c0, c1, c2, c3, c4, c5, c6, c7, c8, c9, c10, c11, -, -⟩ := hx
    have HB0 := Lib.hid hb0
    unfold BW at ht0 HB0 HX c0 c1 c2 c3 c4 c5 c6 c7 c8 c9 c10 c11
    unfold Blk.agg at HE RE HRi RRi HD RD ⊢
    obtain ⟨tag, cls, used, lab, name, next, prev, refs, exp, typ, size, hash⟩ := b
    simp only [] at HE RE HRi RRi c0 c1 c2 c3 c4 c5 c6 c7 c8 c9 c10 c11 HX ht0 HB0
    clear hen hde hri hS hb0 hrr D hb hl ht
    go_enter Tryd.func3, Tryd.ntmps3
    go_wp2_with fail
    refine (HE.out _ ht0).mono ?_
    rintro e w1 ⟨u1, rfl, hb1, hr1⟩
    have HB1 := Lib.hid hb1
    have HR1 := Lib.hid hr1
    have HT1 := Lib.hid (HK.out _ _ hb1 ht0)
    obtain ⟨a1, k1, rfl, -, -, -, -⟩ := hr1
    clear c0 c1 c2 c3 c4 c5 c6 c7 c8 c9 c10 c11 hb1 ht0 HE
    obtain ⟨c0, c1, c2, c3, c4, c5, c6, c7, c8, c9, c10, c11, -, -⟩ := HX.out _ HB1.out
    simp only [] at c0 c1 c2 c3 c4 c5 c6 c7 c8 c9 c10 c11
    go_wp2_with fail
    refine (RE.out _).mono ?_
    rintro e w2 ⟨u2, rfl, hb2, hr2⟩
    have HB2 := Lib.hid (HB1.out.trans (hb2.mono HB1.out.size))
    have HR1' := Lib.hid (HR1.out.mono hb2 (Nat.le_refl _))
    have HR2 := Lib.hid hr2
    have HT2 := Lib.hid (HK.out _ _ hb2 HT1.out)
    obtain ⟨a2, k2, rfl, -, -, -, -⟩ := hr2
    clear c0 c1 c2 c3 c4 c5 c6 c7 c8 c9 c10 c11 hb2 RE HR1 HT1 HB1
    have HBw2 := Lib.hid (HB0.out.trans (HB2.out.mono HB0.out.size))
    go_wp2_with fail
    refine (HD.out _ HT2.out HBw2.out).mono ?_
    rintro e w3 ⟨rfl, hb3⟩
    have hy := newBlk w3 Y
    have ha3 := hb3.trans ((below_made w3 (.cells (cellsA Y) 26)).mono hb3.size)
    have HB3 := Lib.hid (HB2.out.trans (ha3.mono HB2.out.size))
    have HBw3 := Lib.hid (HBw2.out.trans (ha3.mono HBw2.out.size))
    have HR1 := Lib.hid (HR1'.out.mono ha3 (Nat.le_refl _))
    have HR2' := Lib.hid (HR2.out.mono ha3 (Nat.le_refl _))
    have HT3 := Lib.hid (HK.out _ _ ha3 HT2.out)
    obtain ⟨o1, ho1⟩ : ∃ o1, o1 = w3.heap.size := ⟨_, rfl⟩
    rw [← ho1] at hy
    have HY := Lib.hid hy
    have HO1 := Lib.hid ho1
    clear hy ha3 hb3 HB2 HBw2 HR1' HR2 HT2 HD ho1
    obtain ⟨w4, hw4⟩ : ∃ w4, w4 = w3.alloc (.cells (cellsA Y) 26) := ⟨_, rfl⟩
    have HW4 := Lib.hid hw4
    rw [← hw4] at HB3 HBw3 HR1 HR2' HT3 HY
    clear hw4
    unfold cellsA at HW4
    go_wp2_with fail
    rw [← HW4.out, ← HO1.out]
    refine (RD.out _ HBw3.out).mono ?_
    rintro e w5 ⟨rfl, hb5⟩
    have hz := newBlk w5 Y
    have ha5 := hb5.trans ((below_made w5 (.cells (cellsA Y) 26)).mono hb5.size)
    have HB5 := Lib.hid (HB3.out.trans (ha5.mono HB3.out.size))
    have HBw5 := Lib.hid (HBw3.out.trans (ha5.mono HBw3.out.size))
    have HR1f := Lib.hid (HR1.out.mono ha5 (Nat.le_refl _))
    have HR2f := Lib.hid (HR2'.out.mono ha5 (Nat.le_refl _))
    have HT5 := Lib.hid (HK.out _ _ ha5 HT3.out)
    have HY5 := Lib.hid ((ha5.block _ (lt_block HY.out)).trans HY.out)
    obtain ⟨o2, ho2⟩ : ∃ o2, o2 = w5.heap.size := ⟨_, rfl⟩
    rw [← ho2] at hz
    have HZ := Lib.hid hz
    have HO2 := Lib.hid ho2
    clear hz ha5 hb5 HB3 HBw3 HR1 HR2' HT3 HY HW4 HO1 ho2 RD
    obtain ⟨w6, hw6⟩ : ∃ w6, w6 = w5.alloc (.cells (cellsA Y) 26) := ⟨_, rfl⟩
    have HW6 := Lib.hid hw6
    rw [← hw6] at HB5 HBw5 HR1f HR2f HT5 HY5 HZ
    clear hw6
    unfold cellsA at HW6
    go_wp2_with fail
    rw [← HW6.out, ← HO2.out]
    obtain ⟨c0, c1, c2, c3, c4, c5, c6, c7, c8, c9, c10, c11, hxl, hbel⟩ := HX.out _ HB5.out
    obtain ⟨ytag, ycls, yused, ylab, yname, ynext, yprev, yrefs, yexp, ytyp, ysize, yhash⟩ := Y
    have hyl := lt_block HY5.out
    have hzl := lt_block HZ.out
    obtain ⟨d0, d1, d2, d3, d4, d5, d6, d7, d8, d9, d10, d11⟩ := cells_of HY5.out
    obtain ⟨e0, e1, e2, e3, e4, e5, e6, e7, e8, e9, e10, e11⟩ := cells_of HZ.out
    simp only [] at c0 c1 c2 c3 c4 c5 c6 c7 c8 c9 c10 c11 d0 d1 d2 d3 d4 d5 d6 d7 d8 d9 d10 d11 e0 e1 e2 e3 e4 e5 e6 e7 e8 e9 e10 e11
    have f0 := Kept.cell c0 hxl
    have f1 := Kept.cell c1 hxl
    have f2 := Kept.cell c2 hxl
    have f3 := Kept.cell c3 hxl
    have f4 := Kept.cell c4 hxl
    have f5 := Kept.cell c5 hxl
    have f6 := Kept.cell c6 hxl
    have f7 := Kept.cell c7 hxl
    have f8 := Kept.cell c8 hxl
    have f9 := Kept.cell c9 hxl
    have f10 := Kept.cell c10 hxl
    have f11 := Kept.cell c11 hxl
    have g0 := Kept.cell d0 hyl
    have g1 := Kept.cell d1 hyl
    have g2 := Kept.cell d2 hyl
    have g3 := Kept.cell d3 hyl
    have g4 := Kept.cell d4 hyl
    have g5 := Kept.cell d5 hyl
    have g6 := Kept.cell d6 hyl
    have g7 := Kept.cell d7 hyl
    have g8 := Kept.cell d8 hyl
    have g9 := Kept.cell d9 hyl
    have g10 := Kept.cell d10 hyl
    have g11 := Kept.cell d11 hyl
    have h0 := Kept.cell e0 hzl
    have h1 := Kept.cell e1 hzl
    have h2 := Kept.cell e2 hzl
    have h3 := Kept.cell e3 hzl
    have h4 := Kept.cell e4 hzl
    have h5 := Kept.cell e5 hzl
    have h6 := Kept.cell e6 hzl
    have h7 := Kept.cell e7 hzl
    have h8 := Kept.cell e8 hzl
    have h9 := Kept.cell e9 hzl
    have h10 := Kept.cell e10 hzl
    have h11 := Kept.cell e11 hzl
    have t1 : ∀ kk : Kept w6.heap.size w6, (convert 27 9 (.slice a1 X.length k1)).run Tryd.prog kk.w = .ok (.string S) kk.w := fun kk => by
      have := conv_bytes (HR1f.out.mono kk.below (Nat.le_refl _))
      rwa [← HS.out] at this
    have t2 : ∀ kk : Kept w6.heap.size w6, (convert 27 9 (.slice a2 X.length k2)).run Tryd.prog kk.w = .ok (.string S) kk.w := fun kk => by
      have := conv_bytes (HR2f.out.mono kk.below (Nat.le_refl _))
      rwa [← HS.out] at this
    have HKt := Lib.hid (fun kk : Kept w6.heap.size w6 => HK.out _ _ kk.below HT5.out)
    have HBel := Lib.hid hbel
    clear c0 c1 c2 c3 c4 c5 c6 c7 c8 c9 c10 c11 d0 d1 d2 d3 d4 d5 d6 d7 d8 d9 d10 d11 e0 e1 e2 e3 e4 e5 e6 e7 e8 e9 e10 e11 hxl hyl hzl hbel HW6 HO2 HR1f HR2f HZ HY5 HT5 HB5 HBw5 HX HRow
    refine wp_region_kept (by kernel_rfl) (by kernel_rfl) ?_
    repeat (go_big_quiet_step (first
      | (go_at_call 13; exact Calls.kept_of (HRi.out _ (HKt.out _)) (Nat.le_refl _))
      | (go_at_call 14; exact Calls.kept_of (RRi.out _) (Nat.le_refl _))
      | (go_at_call 8; exact Calls.kept_of (HH.out _ (HKt.out _)) (Nat.le_refl _))))
    refine wpQuiet_nil ?_
    intro _ hw'
    obtain ⟨kk, rfl⟩ := hw'
    have HE := Lib.hid (HBel.out.trans (kk.below.mono HBel.out.size))
    go_wp2
    go_ret
    exact ⟨rfl, HE.out⟩
end Go.Proofs.YtkknegnipodcnaaDoor.Hea
