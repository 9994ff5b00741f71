/- The runs of a slab of a class. -/
import Derived.Test.YtlcnhnhpaddkfaaGreatDoorJ19
import Derived.Test.YtlcnhnhpaddkfaaGreatDoorJ4
import Derived.Deep.RegionWith
import Derived.Deep.DeepCutAuto
namespace Go.Proofs.YtlcnhnhpaddkfaaGreatDoor.Reg
open Go.RowKit
open Cls (szC blC pdC)
open Sla (pl aT Sl bl_in bl_apart)
open Mem (rd)
set_option linter.unusedVariables false

theorem own_kept {w w' : World} {base n k : Nat} {t : TypeId} {v : Value} {xs : List Value} {r : Option Nat} (h : w.ownsRow base t k v n xs) (hg : w.grownBy w' r) (hne : ∀ b, v.ownBlock = some b → some b ≠ r) : w'.ownsRow base t k v n xs := by
  refine ⟨h.1, ?_⟩
  rcases h.2 with hn | ⟨g, cap, cur, rfl, hb, hgg, rest⟩
  · exact .inl hn
  · exact .inr ⟨g, cap, cur, rfl, hb, (hg.block g (Array.getElem?_eq_some_iff.1 hgg).1 (hne g rfl)).trans hgg, rest⟩
theorem own_at {w : World} {base n k : Nat} {t : TypeId} {v : Value} {xs : List Value} (h : w.ownsRow base t k v n xs) : ∀ b, v.ownBlock = some b → base ≤ b ∧ b < w.heap.size := by
  intro b hb
  rcases h.2 with ⟨rfl, -⟩ | ⟨g, cap, cur, rfl, hg, hgg, rest⟩
  · cases hb
  · cases hb; exact ⟨hg, (Array.getElem?_eq_some_iff.1 hgg).1⟩
theorem grown_none {w w' : World} {r : Option Nat} (hb : Below w.heap.size w w') : w.grownBy w' r := ⟨hb.os, hb.tape, hb.output, hb.size, fun k hk _ => hb.block k hk⟩
theorem grown_setCell (W : World) (p : Addr) (v : Value) : W.grownBy (W.setCell p v) (some p.block) := by
  refine ⟨rfl, rfl, rfl, by simp, fun k hk hne => ?_⟩
  exact Below.heap_setCell _ _ _ _ (fun q => hne (by rw [q]))
theorem run_cells {w : World} {g : Nat} {a n k : Int} (h : w.heap[g]? = some (.cells #[.int .i64 a, .int .i64 n, .int .i64 k] 67 (0, 0))) :
    w.cell? ⟨g, 0, none⟩ = some (.int .i64 a) ∧ w.cell? ⟨g, 1, none⟩ = some (.int .i64 n) ∧ w.cell? ⟨g, 2, none⟩ = some (.int .i64 k) ∧ w.frozen? ⟨g, 2, none⟩ = false :=
  ⟨(cell_block h 0).trans rfl, (cell_block h 1).trans rfl, (cell_block h 2).trans rfl, by simp [World.frozen?, h]⟩
theorem box_zero (w : World) : ∀ W, Below (w.alloc (.cells #[.int .i64 0, .int .i64 0, .int .i64 0] 67)).heap.size (w.alloc (.cells #[.int .i64 0, .int .i64 0, .int .i64 0] 67)) W → W.heap[w.heap.size]? = some (.cells #[.int .i64 0, .int .i64 0, .int .i64 0] 67 (0, 0)) ∧
    W.cell? ⟨w.heap.size, 0, none⟩ = some (.int .i64 0) ∧ W.cell? ⟨w.heap.size, 1, none⟩ = some (.int .i64 0) ∧ W.cell? ⟨w.heap.size, 2, none⟩ = some (.int .i64 0) ∧ W.frozen? ⟨w.heap.size, 0, none⟩ = false ∧ W.frozen? ⟨w.heap.size, 1, none⟩ = false ∧ W.frozen? ⟨w.heap.size, 2, none⟩ = false := by
  intro W hW
  have hb := (hW.block w.heap.size (size_alloc1 w _)).trans (heap_alloc_new w _)
  exact ⟨hb, (cell_block hb 0).trans rfl, (cell_block hb 1).trans rfl, (cell_block hb 2).trans rfl, by simp [World.frozen?, hb], by simp [World.frozen?, hb], by simp [World.frozen?, hb]⟩
theorem set_three {w : World} {g : Nat} {x y z : Int} (h : w.heap[g]? = some (.cells #[.int .i64 x, .int .i64 y, .int .i64 z] 67 (0, 0))) (a n k : Int) :
    (((w.setCell ⟨g, 0, none⟩ (.int .i64 a)).setCell ⟨g, 1, none⟩ (.int .i64 n)).setCell ⟨g, 2, none⟩ (.int .i64 k)).heap[g]? = some (.cells #[.int .i64 a, .int .i64 n, .int .i64 k] 67 (0, 0)) :=
  (Hea.heap_setCell_own (o := 2) (Hea.heap_setCell_own (o := 1) (Hea.heap_setCell_own (o := 0) h (.int .i64 a)) (.int .i64 n)) (.int .i64 k)).trans rfl
def blkL (A : Nat) (c : Int) (F : List Nat) (k : Nat) : List RZ := (List.range k).map (blkR A c F)
theorem blkL_succ (A : Nat) (c : Int) (F : List Nat) (k : Nat) : blkL A c F (k + 1) = blkL A c F k ++ [blkR A c F k] := by simp [blkL, List.range_succ]
theorem blkL_len (A : Nat) (c : Int) (F : List Nat) (k : Nat) : (blkL A c F k).length = k := by simp [blkL]
set_option maxRecDepth 100000 in
set_option maxHeartbeats 4000000 in
theorem divided_ok (u : Value) (l : List Int) (A : Nat) (cl lv fr : Int) (F : List Nat) (w : World) (ht : Cls.Tab w) (hr : Row .u8 w u l) (hA : A + 1024 ≤ l.length) (hA16 : A % 16 = 0) (hl : l.length ≤ 1000000)
    (hf : flw l A cl (blC cl + 1) fr [] = some F) (hF : F.length ≠ blC cl) (hlv : lv = ((blC cl - F.length : Nat) : Int)) (hb0 : 1 ≤ blC cl) :
    Calls Tryz.prog 224 #[sV u (A : Int) cl lv fr] w (ROk w (dvR A cl F)) := by
  obtain ⟨i0, hi, hz0, hz1, hz2⟩ := info_parts Lay.infoRun
  have hbl := blC_le cl
  obtain ⟨p, c, rfl, h2, h3, h4, h5⟩ := id hr
  obtain ⟨hc, hlt, hb⟩ := box_slab w (u := .slice p l.length c) rfl (A : Int) cl lv fr
  have hRe := remaining_ok (.slice p l.length c) l A cl lv fr F (w.alloc (sB (.slice p l.length c) (A : Int) cl lv fr)) (tab_keep hb ht) (hr.mono hb (Nat.le_refl _)) hA hA16 hl hf hF hlv hb0
  have HRe := Lib.hid hRe
  have HBk := Lib.hid (fun (k : Nat) (W : World) (hW : Below w.heap.size w W) (hk : k < blC cl) => block_any p l.length c A cl lv fr k W (tab_keep hW ht) hk (by omega))
  have HBl := Lib.hid (fun (W : World) (hW : Below w.heap.size w W) => Cls.blocks_any cl W (tab_keep hW ht))
  have HPd := Lib.hid (fun (W : World) (hW : Below w.heap.size w W) => Cls.pad_any cl W (tab_keep hW ht))
  obtain ⟨z, hz⟩ : ∃ z, z = szC cl := ⟨_, rfl⟩
  have HSi : Hid (∀ (W : World), Below w.heap.size w W → Calls Tryz.prog 140 #[.int .i64 cl] W fun e w' => e = .returned (.int .i64 (z : Int)) ∧ W = w') := fun W hW => by rw [hz]; exact Cls.size_any cl W (tab_keep hW ht)
  have HBox : Hid (∀ W, Below (w.alloc (sB (.slice p l.length c) (A : Int) cl lv fr)).heap.size (w.alloc (sB (.slice p l.length c) (A : Int) cl lv fr)) W → _) := hc
  have HIn : Hid (∀ k, k < blC cl → w64 (pl A cl k : Int)) := fun k hk => by
    have h1 := bl_in hk
    exact w64_of (by omega) (by unfold pl; omega)
  have HR1 : Hid (∀ k, k < blC cl → blkL A cl F (k + 1) = blkL A cl F k ++ [((pl A cl k : Int), (z : Int), if k ∈ F then 6 else 5)]) := fun k hk => by rw [blkL_succ, hz]; rfl
  obtain ⟨y, hy⟩ : ∃ y, y = pdC cl := ⟨_, rfl⟩
  have hy1 : y ≤ 1024 := by rw [hy]; unfold pdC; split <;> omega
  have HDv : Hid (dvR A cl F = blkL A cl F (blC cl) ++ if 0 < y then ([(((A + 1024 - y : Nat) : Int), (y : Int), 8)] : List RZ) else []) := by unfold Hid dvR padR; rw [← hy]; rfl
  rw [← hy] at HPd
  have hB1 := Lib.hid hb
  obtain ⟨c0, c1, c2, c3, c4⟩ := hc _ (Below.refl _ _)
  unfold sV at HRe HBk ⊢
  unfold sB at HRe HBox c0 c1 c2 c3 c4 hB1
  obtain ⟨n, hn⟩ : ∃ n, n = blC cl := ⟨_, rfl⟩
  rw [← hn] at HBl HBk HIn HR1 HDv hbl hb0
  have HNn := Lib.hid hn
  clear hf hF hlv hr hc hb ht h4 h5 hlt hn hA16 hRe hz hy
  go_enter Tryz.func224, Tryz.ntmps224
  obtain ⟨w1, hw1⟩ : ∃ w1, w1 = w.alloc (.cells #[.slice p l.length c, .int .i64 (A : Int), .int .i64 cl, .int .i64 lv, .int .i64 fr] 204) := ⟨_, rfl⟩
  rw [← hw1] at HRe HBox hB1
  have HSz : Hid (w1.heap.size = w.heap.size + 1) := by rw [hw1]; exact Array.size_push _
  go_wp2_with fail
  rw [← hw1]
  clear hw1 c0 c1 c2 c3 c4
  refine HRe.out.mono ?_
  rintro e w2 ⟨b, L, rfl, hb2, hS2, hLe2, hbb⟩
  have HLe : Hid (∀ k, k < n → decide ((pl A cl k : Int) ∈ L) = decide (k ∉ F)) := fun k hk => by
    rw [decide_eq_decide, hLe2.mem]
    constructor
    · rintro ⟨j, h1, h2, h3⟩
      rw [HNn.out] at hk
      rw [pl_one (A := A) hk h1 (by omega)]
      exact h2
    · intro h1
      exact ⟨k, by rw [← HNn.out]; exact hk, h1, rfl⟩
  have HS2 := Lib.hid hS2
  have HB2 : Hid (Below w.heap.size w w2 ∧ Below w1.heap.size w1 w2) := ⟨hB1.out.trans (hb2.mono hB1.out.size), hb2⟩
  have hbl2 := hS2.lt
  have HBz : Hid (w.heap.size ≤ w2.heap.size ∧ w1.heap.size ≤ w2.heap.size) := ⟨HB2.out.1.size, HB2.out.2.size⟩
  clear hb2 hS2 hLe2 hbb HRe
  obtain ⟨c0, c1, c2, c3, c4⟩ := HBox.out _ HB2.out.2
  go_wp2_with fail
  refine (HBl.out _ HB2.out.1).mono ?_
  rintro e w' ⟨rfl, rfl⟩
  go_wp2
  go_loopw [6, 21] (fun v i wr => ∃ k : Nat, k ≤ n ∧ i = .int .i64 k ∧ Hid (wr.ownsRow w2.heap.size 67 3 v k (valsA encZ (blkL A cl F k))) ∧ Hid (SetM wr b L) ∧ Hid (Below w.heap.size w wr ∧ Below w1.heap.size w1 wr ∧ Below w2.heap.size w2 wr)) (fun _ i _ => n - (intOf i).toNat)
  case atStart => exact ⟨0, Nat.zero_le _, rfl, World.ownsRow_nil _ _ _ _, HS2.out, HB2.out.1, HB2.out.2, Below.refl _ _⟩
  case round =>
    clear HS2 HB2 c0 c1 c2 c3 c4
    obtain ⟨k, hk, rfl, HO, HS, HB⟩ := hrel
    obtain ⟨c0, c1, c2, c3, c4⟩ := HBox.out _ HB.out.2.1
    by_cases hlt : k < n
    · have hlt1 : (k : Int) < (n : Int) := by omega
      have hkw : IntKind.i64.wrap ((k : Int) + 1) = ((k + 1 : Nat) : Int) := (wrap_id (by omega) (by omega)).trans (by omega)
      have h64 := HIn.out k hlt
      have hr1 := HR1.out k hlt
      have hle := HLe.out k hlt
      have HBk2 := Lib.hid (fun (W : World) (hW : Below w.heap.size w W) => HBk.out k W hW hlt)
      generalize pl A cl k = P at h64 hr1 hle HBk2
      have hB := HB.out.1
      have hBb := HB.out.2.1
      go_upto_region 8 with fail
      go_cut [8] (fun s wc => ∃ g, s = .pointer (some ⟨g, 0, none⟩) ∧ wr.heap.size ≤ g ∧ Hid (Below wr.heap.size wr wc) ∧ Hid (wc.heap[g]? = some (.cells #[.int .i64 (P : Int), .int .i64 (z : Int), .int .i64 6] 67 (0, 0))))
      case first =>
        clear hkw h64 hr1 hle
        have hr0 := Below.refl wr.heap.size wr
        have zc := box_zero wr
        have zd := (Below.refl (wr.alloc (.cells #[.int .i64 0, .int .i64 0, .int .i64 0] 67)).heap.size (wr.alloc (.cells #[.int .i64 0, .int .i64 0, .int .i64 0] 67))).drew
        have hBa := hB.alloc hB.size (.cells #[.int .i64 0, .int .i64 0, .int .i64 0] 67)
        have hra := hr0.alloc hr0.size (.cells #[.int .i64 0, .int .i64 0, .int .i64 0] 67)
        have hBc := hBb.alloc hBb.size (.cells #[.int .i64 0, .int .i64 0, .int .i64 0] 67)
        obtain ⟨a0, a1, a2, a3, a4⟩ := HBox.out _ hBc
        go_region_with (first
          | (go_at_call 252
             refine (HBk2.out _ (by first | exact hB | exact hB.drew | exact hBa | exact hBa.drew)).mono ?_
             rintro e w3 ⟨rfl, hb3⟩
             have hB3 : Below w.heap.size w w3 := (by first | exact hB.trans (hb3.mono hB.size) | exact hB.drew.trans (hb3.mono hB.drew.size) | exact hBa.trans (hb3.mono hBa.size) | exact hBa.drew.trans (hb3.mono hBa.drew.size))
             have hr3 : Below wr.heap.size wr w3 := (by first | exact hr0.trans hb3 | exact hr0.drew.trans hb3 | exact hra.trans (hb3.mono hra.size) | exact hra.drew.trans (hb3.mono hra.drew.size))
             have hb1w : Below w1.heap.size w1 w3 := (by first | exact hBb.trans (hb3.mono hBb.size) | exact hBb.drew.trans (hb3.mono hBb.drew.size) | exact hBc.trans (hb3.mono hBc.size) | exact hBc.drew.trans (hb3.mono hBc.drew.size))
             obtain ⟨d0, d1, d2, d3, d4⟩ := HBox.out w3 hb1w
             obtain ⟨y0, y1, y2, y3, y4⟩ := HBox.out _ (hb1w.alloc hb1w.size (.cells #[.int .i64 0, .int .i64 0, .int .i64 0] 67))
             first | (have hz3 := zc _ hb3; obtain ⟨hzb, z0, z1, z2, z3, z4, z5⟩ := hz3) | (have hz3 := zc _ (zd.trans hb3); obtain ⟨hzb, z0, z1, z2, z3, z4, z5⟩ := hz3) | skip)
          | (go_at_call 140
             refine (HSi.out _ (by first | exact hB3 | exact hB3.drew | exact hB3.alloc hB3.size _)).mono ?_
             rintro e w4 ⟨rfl, rfl⟩))
        all_goals go_wp2_with fail
        all_goals go_meet
        all_goals first
          | exact ⟨_, rfl, hr3.size, hr3.alloc hr3.size _, heap_alloc_new w3 _⟩
          | exact ⟨_, rfl, hr3.size, (hr3.alloc hr3.size _).drew, heap_alloc_new w3 _⟩
          | exact ⟨_, rfl, Nat.le_refl _, ((hr3.setCell (Nat.le_refl _) _).setCell (Nat.le_refl _) _).setCell (Nat.le_refl _) _, set_three hzb _ _ _⟩
          | exact ⟨_, rfl, Nat.le_refl _, (((hr3.setCell (Nat.le_refl _) _).setCell (Nat.le_refl _) _).setCell (Nat.le_refl _) _).drew, set_three hzb _ _ _⟩
      case rest =>
        obtain ⟨g, rfl, hgw, HBw, HG⟩ := hcut
        have hS3 := HS.out.below HBw.out
        have hO3 := ownsRow_stays HO.out HBw.out
        have hlk := hS3.look h64
        rw [hle] at hlk
        obtain ⟨e0, e1, e2, e3⟩ := run_cells HG.out
        have HB3 : Hid (Below w.heap.size w wc ∧ Below w1.heap.size w1 wc ∧ Below w2.heap.size w2 wc) := ⟨HB.out.1.trans (HBw.out.mono HB.out.1.size), HB.out.2.1.trans (HBw.out.mono HB.out.2.1.size), HB.out.2.2.trans (HBw.out.mono HB.out.2.2.size)⟩
        have hrow : ∀ r, u6.ownBlock = some r → w2.heap.size ≤ r ∧ r < wr.heap.size := own_at HO.out
        have hw2c : w2.heap.size ≤ wc.heap.size := HB3.out.2.2.size
        have hwr2 : w2.heap.size ≤ wr.heap.size := HB.out.2.2.size
        have hbz := HBz.out
        clear hB hBb HO HS HB HBk2 hle c0 c1 c2 c3 c4
        by_cases hkF : k ∈ F
        · rw [show decide (k ∉ F) = false by simp [hkF]] at hlk
          rw [if_pos hkF] at hr1
          have HS5 := Lib.hid hS3
          have hO5 := hO3
          have HB5 := HB3
          have HR2 := Lib.hid hr1
          clear hS3 hO3 hr1 hkF
          go_wp2_with (at_builtin; refine wpList_append_own _ rfl (.tmp 36) (.tmp 38) 53 rfl w2.heap.size 67 i0 (.agg #[.int .i64 0, .int .i64 0, .int .i64 0]) 3 24 Tryz.underlying53 hi hz0 hz1 hz2 rfl (by decide) _ _ _ rfl (World.ownsRow.alloc hO5 _) ⟨wc.heap.size, 0, none⟩ 1 1 [.int .i64 (P : Int), .int .i64 (z : Int), .int .i64 6] rfl rfl (Lay.news_three_at _ wc.heap.size (by simp) _ _ _ _) (Lay.oneCell_three _ _ _) (by unfold maxLen; omega) (by omega) (le_alloc _ hw2c) ?_)
          intro v3 w3 hown3 hgrow3 _
          have hal := below_made wc (.cells #[.int .i64 (P : Int), .int .i64 (z : Int), .int .i64 6] 67)
          have HN : Hid (w3.ownsRow w2.heap.size 67 3 v3 (k + 1) (valsA encZ (blkL A cl F (k + 1)))) := by
            unfold Hid
            rw [HR2.out, valsA_snoc]
            exact hown3
          have hrl : ∀ r, u6.ownBlock = some r → w2.heap.size ≤ r := fun r hr => (hrow r hr).1
          have HSn := Lib.hid ((HS5.out.below hal).grown hgrow3 (fun q => by have := hrl b q.symm; omega))
          have HBn : Hid (Below w.heap.size w w3 ∧ Below w1.heap.size w1 w3 ∧ Below w2.heap.size w2 w3) := ⟨(HB5.out.1.alloc HB5.out.1.size _).grown hgrow3 (le_alloc _ HB5.out.1.size) (fun r hr => by have := hrl r hr; have := HBz.out; omega), (HB5.out.2.1.alloc HB5.out.2.1.size _).grown hgrow3 (le_alloc _ HB5.out.2.1.size) (fun r hr => by have := hrl r hr; have := HBz.out; omega), (HB5.out.2.2.alloc HB5.out.2.2.size _).grown hgrow3 (le_alloc _ HB5.out.2.2.size) (fun r hr => hrl r hr)⟩
          clear hown3 hgrow3 hal hO5 HS5 HB5 hrow hrl
          go_wp2
          go_roundw
          case rel => exact ⟨k + 1, by omega, by go_num, HN.out, HSn.out, HBn.out⟩
          case measure => simp [intOf]; omega
        · rw [show decide (k ∉ F) = true by simp [hkF]] at hlk
          rw [if_neg hkF] at hr1
          have hg5 := grown_setCell wc ⟨g, 2, none⟩ (.int .i64 5)
          have hbg : b ≠ g := by omega
          have HS5 := Lib.hid (hS3.grown hg5 (by simp [hbg]))
          have hO5 := own_kept hO3 hg5 (fun r hr q => by simp at q; have := hrow r hr; omega)
          have hw12 := HSz.out
          have HB5 : Hid (Below w.heap.size w (wc.setCell ⟨g, 2, none⟩ (.int .i64 5)) ∧ Below w1.heap.size w1 (wc.setCell ⟨g, 2, none⟩ (.int .i64 5)) ∧ Below w2.heap.size w2 (wc.setCell ⟨g, 2, none⟩ (.int .i64 5))) := ⟨HB3.out.1.setCell (show w.heap.size ≤ g by omega) _, HB3.out.2.1.setCell (show w1.heap.size ≤ g by omega) _, HB3.out.2.2.setCell (show w2.heap.size ≤ g by omega) _⟩
          have HR2 := Lib.hid hr1
          have hG5 := Hea.heap_setCell_own (o := 2) HG.out (.int .i64 5)
          obtain ⟨f0, f1, f2, f3⟩ := run_cells (g := g) (w := wc.setCell ⟨g, 2, none⟩ (.int .i64 5)) (a := (P : Int)) (n := (z : Int)) (k := 5) hG5
          have hw5c : w2.heap.size ≤ (wc.setCell ⟨g, 2, none⟩ (.int .i64 5)).heap.size := HB5.out.2.2.size
          clear hS3 hO3 hr1 hkF hg5 hG5 hw12 hbg
          go_wp2_with (at_builtin; refine wpList_append_own _ rfl (.tmp 36) (.tmp 38) 53 rfl w2.heap.size 67 i0 (.agg #[.int .i64 0, .int .i64 0, .int .i64 0]) 3 24 Tryz.underlying53 hi hz0 hz1 hz2 rfl (by decide) _ _ _ rfl (World.ownsRow.alloc hO5 _) ⟨wc.heap.size, 0, none⟩ 1 1 [.int .i64 (P : Int), .int .i64 (z : Int), .int .i64 5] rfl rfl (Lay.news_three_at _ wc.heap.size (by simp) _ _ _ _) (Lay.oneCell_three _ _ _) (by unfold maxLen; omega) (by omega) (le_alloc _ hw5c) ?_)
          intro v3 w3 hown3 hgrow3 _
          have hal := below_made (wc.setCell ⟨g, 2, none⟩ (.int .i64 5)) (.cells #[.int .i64 (P : Int), .int .i64 (z : Int), .int .i64 5] 67)
          have HN : Hid (w3.ownsRow w2.heap.size 67 3 v3 (k + 1) (valsA encZ (blkL A cl F (k + 1)))) := by
            unfold Hid
            rw [HR2.out, valsA_snoc]
            exact hown3
          have hrl : ∀ r, u6.ownBlock = some r → w2.heap.size ≤ r := fun r hr => (hrow r hr).1
          have HSn := Lib.hid ((HS5.out.below hal).grown hgrow3 (fun q => by have := hrl b q.symm; omega))
          have HBn : Hid (Below w.heap.size w w3 ∧ Below w1.heap.size w1 w3 ∧ Below w2.heap.size w2 w3) := ⟨(HB5.out.1.alloc HB5.out.1.size _).grown hgrow3 (le_alloc _ HB5.out.1.size) (fun r hr => by have := hrl r hr; have := HBz.out; omega), (HB5.out.2.1.alloc HB5.out.2.1.size _).grown hgrow3 (le_alloc _ HB5.out.2.1.size) (fun r hr => by have := hrl r hr; have := HBz.out; omega), (HB5.out.2.2.alloc HB5.out.2.2.size _).grown hgrow3 (le_alloc _ HB5.out.2.2.size) (fun r hr => hrl r hr)⟩
          clear hown3 hgrow3 hal hO5 HS5 HB5 hrow hrl
          go_wp2
          go_roundw
          case rel => exact ⟨k + 1, by omega, by go_num, HN.out, HSn.out, HBn.out⟩
          case measure => simp [intOf]; omega
    · obtain rfl : k = n := by omega
      have hO := HO.out
      have HPd2 := HPd
      clear HR1 HLe HBk HIn HS
      go_wp2_with fail
      refine (HPd2.out _ HB.out.1).mono ?_
      rintro e w' ⟨rfl, rfl⟩
      have HDn := HDv.out
      by_cases hy0 : 0 < y
      · have hy2 : (0 : Int) < (y : Int) := by omega
        rw [if_pos hy0] at HDn
        obtain ⟨s, hs⟩ : ∃ s, s = A + 1024 := ⟨_, rfl⟩
        have hw1 : IntKind.i64.wrap ((A : Int) + 1024) = (s : Int) := (wrap_id (by omega) (by omega)).trans (by omega)
        obtain ⟨q, hq⟩ : ∃ q, q = s - y := ⟨_, rfl⟩
        have hw2 : IntKind.i64.wrap ((s : Int) - (y : Int)) = (q : Int) := (wrap_id (by omega) (by omega)).trans (by omega)
        rw [← hs, ← hq] at HDn
        have HDm := Lib.hid HDn
        have hw2r := HB.out.2.2.size
        clear hs hq HDn hy0
        go_wp2_with (at_builtin; refine wpList_append_own _ rfl (.tmp 46) (.tmp 54) 53 rfl w2.heap.size 67 i0 (.agg #[.int .i64 0, .int .i64 0, .int .i64 0]) 3 24 Tryz.underlying53 hi hz0 hz1 hz2 rfl (by decide) _ _ _ rfl (World.ownsRow.alloc hO _) ⟨wr.heap.size, 0, none⟩ 1 1 [.int .i64 (q : Int), .int .i64 (y : Int), .int .i64 8] rfl rfl (Lay.news_three _ _ _ _ _) (Lay.oneCell_three _ _ _) (by unfold maxLen; omega) (by omega) (le_alloc _ hw2r) ?_)
        intro v3 w3 hown3 hgrow3 _
        have HBn : Hid (Below w.heap.size w w3) := (HB.out.1.alloc HB.out.1.size _).grown hgrow3 (le_alloc _ HB.out.1.size) (fun r hr => by have := own_at hO r hr; have := HBz.out; omega)
        have hlen : (dvR A cl F).length = k + 1 := by rw [HDm.out, List.length_append, blkL_len]; rfl
        have HN : Hid (ZRow w3 v3 (dvR A cl F)) := by
          refine arow_of_owns (n := k + 1) (base := w2.heap.size) (t := 67) encZ_length rz0 ?_ hlen
          rw [HDm.out, valsA_snoc]
          exact hown3
        clear hown3 hgrow3 hO hlen
        go_wp2
        go_ret2
        exact ⟨_, rfl, HBn.out, HN.out⟩
      · have hy2 : ¬ (0 : Int) < (y : Int) := by omega
        rw [if_neg hy0, List.append_nil] at HDn
        have hlen : (dvR A cl F).length = k := by rw [HDn, blkL_len]
        have HN : Hid (ZRow wr u6 (dvR A cl F)) := by
          refine arow_of_owns (n := k) (base := w2.heap.size) (t := 67) encZ_length rz0 ?_ hlen
          rw [HDn]
          exact hO
        clear hO hlen HDn hy0
        go_wp2
        go_ret2
        exact ⟨_, rfl, HB.out.1, HN.out⟩
end Go.Proofs.YtlcnhnhpaddkfaaGreatDoor.Reg
