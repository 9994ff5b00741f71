/- The document's probe: Insert. -/
import Derived.Test.YtjikikiconhlaaaProR
import Derived.Deep.DeepCutAuto
namespace Go.Proofs.Ytjikikiconhlaaa.Pro
open Go.RowKit
set_option linter.unusedVariables false

/-- The cell that is on its way, and the table, behind j steps. -/
def nV (T : List Cel) (c : Cel) (p : Nat) : Nat → Cel
  | 0 => c
  | j + 1 => gt T (ps T.length p j)
def rS (T : List Cel) (c : Cel) (p : Nat) : Nat → List Cel
  | 0 => T
  | j + 1 => (rS T c p j).set (ps T.length p j) (nV T c p j)
theorem rS_length (T : List Cel) (c : Cel) (p j : Nat) : (rS T c p j).length = T.length := by
  induction j with
  | zero => rfl
  | succ j ih => rw [rS, List.length_set, ih]
theorem rS_gt {T : List Cel} {c : Cel} {p : Nat} (hp : p < T.length) (j : Nat) (hj : j ≤ T.length) (q : Nat) (hq : q < T.length) :
    gt (rS T c p j) q = if off T.length p q < j then (if off T.length p q = 0 then c else gt T (pv T.length q)) else gt T q := by
  induction j with
  | zero => rw [if_neg (by omega)]; rfl
  | succ j ih =>
    have hpl := ps_lt (i := j) hp (by omega)
    have o1 := off_ps (i := j) hp (by omega)
    rw [rS, gt_set _ _ _ _ (by rw [rS_length]; exact hpl), ih (by omega)]
    by_cases e : q = ps T.length p j
    · rw [if_pos e, e, o1, if_pos (by omega)]
      cases j with
      | zero => rw [if_pos rfl]; rfl
      | succ j => rw [if_neg (by omega), nV, pv_ps hp (by omega)]
    · have n1 : off T.length p q ≠ j := fun h => e (by rw [← h, ps_off hp hq])
      rw [if_neg e]
      by_cases h1 : off T.length p q < j
      · have h2 : off T.length p q < j + 1 := by omega
        simp only [h1, h2, if_true]
      · have h2 : ¬ off T.length p q < j + 1 := by omega
        simp only [h1, h2, if_false]
theorem rS_here {T : List Cel} {c : Cel} {p j : Nat} (hp : p < T.length) (hj : j < T.length) : gt (rS T c p j) (ps T.length p j) = gt T (ps T.length p j) := by
  rw [rS_gt hp j (by omega) _ (ps_lt hp (by omega)), off_ps hp hj, if_neg (by omega)]
theorem rS_ins {T : List Cel} {x : Int} {h : Nat} (he : eI T (x, (h : Int)) = 0) : rS T (x, (h : Int)) (ps T.length h (opK T h)) (moK T (ps T.length h (opK T h)) + 1) = insT T (x, (h : Int)) h := by
  obtain ⟨I, hh⟩ := ins_h he
  refine gt_tab (n := T.length) (f := insf T.length (gt T) (x, (h : Int)) (ps T.length h (opK T h)) (moK T (ps T.length h (opK T h)))) (rS_length _ _ _ _) (fun j hj => ?_) _ (insT_length _ _ _) (ins_gt he)
  rw [rS_gt I.pn _ (by have := I.mn; omega) j hj]
  unfold insf
  by_cases h1 : off T.length (ps T.length h (opK T h)) j < moK T (ps T.length h (opK T h)) + 1
  · rw [if_pos h1]
    by_cases h2 : off T.length (ps T.length h (opK T h)) j = 0
    · rw [if_pos h2, if_pos h2]
    · rw [if_neg h2, if_neg h2, if_pos (by omega)]
  · rw [if_neg h1, if_neg (by omega), if_neg (by omega)]

theorem TA.other {w : World} {g b o : Nat} {T : List Cel} (h : TA w g T) (u : Value) (hb : b ≠ g) : TA (w.setCell ⟨b, o, none⟩ u) g T := by
  refine ⟨by simpa [World.setCell] using h.1, fun i hi => ?_⟩
  obtain ⟨⟨e1, e2⟩, f1, f2⟩ := h.2 i hi
  refine ⟨⟨?_, ?_⟩, by rw [World.frozen?_setCell]; exact f1, by rw [World.frozen?_setCell]; exact f2⟩
  · rw [World.cell?_setCell_other _ _ _ _ (by intro q; injection q with q _ _; exact hb q)]; exact e1
  · rw [World.cell?_setCell_other _ _ _ _ (by intro q; injection q with q _ _; exact hb q)]; exact e2
theorem set_box {w : World} {b : Nat} {x y : Int} {T : TypeId} (h : w.heap[b]? = some (.cells #[.int .u32 x, .int .i64 y] T (0, 0))) (x' y' : Int) :
    ((w.setCell ⟨b, 0, none⟩ (.int .u32 x')).setCell ⟨b, 1, none⟩ (.int .i64 y')).heap[b]? = some (.cells #[.int .u32 x', .int .i64 y'] T (0, 0)) := two_set1 (two_set0 h _) _
theorem box_cells {w : World} {b : Nat} {x y : Int} {T : TypeId} (h : w.heap[b]? = some (.cells #[.int .u32 x, .int .i64 y] T (0, 0))) :
    w.cell? ⟨b, 0, none⟩ = some (.int .u32 x) ∧ w.cell? ⟨b, 1, none⟩ = some (.int .i64 y) ∧ w.frozen? ⟨b, 0, none⟩ = false ∧ w.frozen? ⟨b, 1, none⟩ = false :=
  ⟨by rw [cell_block h]; rfl, by rw [cell_block h]; rfl, frozen_own h _, frozen_own h _⟩

set_option maxRecDepth 100000 in
set_option maxHeartbeats 2000000 in
theorem rInsert_ok (u : Value) (T : List Cel) (x : Int) (h : Nat) (w : World) (hr : CRow w u T) (hn : T.length ≤ 1000) (he : eI T (x, (h : Int)) = 0) :
    Calls Try.prog 13 #[u, .int .u32 x, .int .i64 (h : Int)] w (InsR w (insT T (x, (h : Int)) h) 0) := by
  obtain ⟨I, hh⟩ := ins_h he
  obtain ⟨hck, ha, hem⟩ := ei_zero he
  obtain ⟨hna, hrc⟩ := ck_ok hck
  have H := rc_rtf hrc
  have hem2 : (T.any fun a => decide (a.1 = 0)) = true := by
    obtain ⟨c, hc, hce⟩ := List.any_eq_true.1 hem
    rw [List.any_eq_true]
    exact ⟨c, hc, by rw [(emC_iff c).1 hce]; rfl⟩
  have hx := I.id
  simp only at hx
  have hx1 : (x == 0) = false := by simp [hx]
  have hh1 : ¬ ((h : Int) ≥ (T.length : Int)) := by omega
  have HT := Lib.hid (rright_any u T w hr hn)
  rw [hrc] at HT
  have HH := Lib.hid (fun W (hW : Below w.heap.size w W) z => has_any u T z W (hr.mono hW (Nat.le_refl _)) hn)
  have HHx := Lib.hid (fun W hW => HH.out W hW x)
  rw [ha] at HHx
  have HH0 := Lib.hid (fun W hW => HH.out W hW 0)
  rw [hem2] at HH0
  have HPl := Lib.hid (fun W (hW : Below w.heap.size w W) => place_any u T h (opK T h) W (hr.mono hW (Nat.le_refl _)) hn H hh I.kn I.shut I.opn)
  have hRe := rS_ins he
  have hpn := I.pn
  have hmn := I.mn
  have HS0 : Hid (∀ j, j < moK T (ps T.length h (opK T h)) → (gt T (ps T.length (ps T.length h (opK T h)) j)).1 ≠ 0) := I.run
  have HS1 : Hid ((gt T (ps T.length (ps T.length h (opK T h)) (moK T (ps T.length h (opK T h))))).1 = 0) := I.hole
  generalize opK T h = k at *
  generalize ps T.length h k = p at *
  generalize moK T p = m at *
  have HRe := Lib.hid hRe
  have HRl := Lib.hid (insT_length T (x, (h : Int)) h)
  generalize insT T (x, (h : Int)) h = R at *
  obtain ⟨i0, hi, hz0, hz1, hz2⟩ := info_parts infoR
  obtain ⟨b, off, c, rfl, q1, q2, hblt, -⟩ := hr.open H.pos
  have HRow := Lib.hid hr
  have HV := Lib.hid (valsA_length encC_len T)
  have HV1 := Lib.hid (valsC_one T)
  have h0 := H.pos
  have HTA := Lib.hid (fun (W : World) (v : Value) (hO : W.ownsRow w.heap.size 51 2 v T.length (valsA encC T)) => TA.own hO h0)
  clear hr I hck ha hem hna hrc H hem2 he hRe HH
  go_enter Try.func13, Try.ntmps13
  go_wp2_with fail
  refine HT.out.mono ?_
  rintro e w1 ⟨rfl, hb1⟩
  have HB1 := Lib.hid hb1
  clear hb1
  go_wp2_with fail
  refine (HHx.out _ HB1.out).mono ?_
  rintro e w2 ⟨rfl, rfl⟩
  go_wp2_with fail
  refine (HH0.out _ HB1.out).mono ?_
  rintro e w2 ⟨rfl, rfl⟩
  have HOw : Hid ((w1.alloc (.cells #[] 51)).ownsRow w.heap.size 51 2 (.slice (some ⟨w1.heap.size, 0, none⟩) 0 0) 0 (valsA encC [])) :=
    ⟨rfl, .inr ⟨w1.heap.size, 0, #[], rfl, HB1.out.size, heap_alloc_new _ _, by omega, by unfold maxLen; omega, rfl, rfl⟩⟩
  have HB2 := Lib.hid (HB1.out.alloc HB1.out.size (.cells #[] 51))
  have HCe := Lib.hid (cell_cells (HRow.out.mono HB2.out (Nat.le_refl _)))
  have hsz := size_alloc w1 (.cells #[] 51)
  have hsz1 := HB1.out.size
  go_wp2_with (at_builtin; refine wpList_append_own _ rfl (.tmp 33) (.tmp 34) 22 rfl w.heap.size 51 i0 (.agg #[.int .u32 0, .int .i64 0]) 2 16 Try.underlying22 hi hz0 hz1 hz2 rfl (by decide) _ _ _ rfl HOw.out ⟨b, off, none⟩ T.length c (valsA encC T) rfl HV.out HCe.out HV1.out (by unfold maxLen; omega) (by omega) (by omega) ?_)
  intro v' w3 hown' hgrow _
  have HB3 : Hid (Below w.heap.size w w3) := HB2.out.grown hgrow (by omega) (fun r hr => by have : w1.heap.size = r := Option.some.inj hr; omega)
  obtain ⟨g, cap, rfl, k1, k2, k3, k4⟩ := HTA.out _ _ hown'
  have HT3 := Lib.hid k4
  have hg3 := k4.1
  clear hown' hgrow k4 HOw HCe HB2 hsz hi hz0 hz1 hz2
  go_wp2_with fail
  refine (HPl.out _ HB3.out).mono ?_
  rintro e w4 ⟨rfl, rfl⟩
  obtain ⟨w5, hw5⟩ : ∃ w5, w5 = w3.alloc (.cells #[.int .u32 x, .int .i64 (h : Int)] 51) := ⟨_, rfl⟩
  have hs5 : w5.heap.size = w3.heap.size + 1 := by rw [hw5, size_alloc]
  have hX5 : w5.heap[w3.heap.size]? = some (.cells #[.int .u32 x, .int .i64 (h : Int)] 51 (0, 0)) := by rw [hw5]; exact heap_alloc_new _ _
  have HB35 : Hid (Below w3.heap.size w3 w5) := by rw [hw5]; exact below_made _ _
  have HB5 := Lib.hid (HB3.out.trans (HB35.out.mono HB3.out.size))
  have HT5 := Lib.hid (HT3.out.below HB35.out)
  have HX5 := Lib.hid hX5
  have hw3s := HB3.out.size
  clear hX5 HT3 HB35
  go_upto_region 12 with fail
  rw [← hw5]
  clear hw5
  obtain ⟨B, hB⟩ : ∃ B, B = w3.heap.size := ⟨_, rfl⟩
  rw [← hB] at HX5 hs5 hw3s hg3 ⊢
  clear hB
  have hBg : B ≠ g := by omega
  go_loopw [9, 11] (fun a9 _ wr => ∃ j : Nat, j ≤ m ∧ Hid (a9 = .int .i64 (ps T.length p j : Nat)) ∧ Hid (Below w.heap.size w wr) ∧ Hid (TA wr g (rS T (x, (h : Int)) p j)) ∧ Hid (wr.heap[B]? = some (.cells #[.int .u32 (nV T (x, (h : Int)) p j).1, .int .i64 (nV T (x, (h : Int)) p j).2] 51 (0, 0)))) (fun a9 _ _ => T.length - offI T.length p a9)
  case atStart => exact ⟨0, Nat.zero_le _, by unfold Hid; rw [ps_zero hpn], HB5, HT5, HX5⟩
  case round =>
    obtain ⟨j, hj, ha9, HB, HT', HX⟩ := hrel
    have e9 := ha9.out
    subst e9
    clear ha9 HT5 HX5 HB5
    have hpl := ps_lt (i := j) hpn (by omega)
    have hl := rS_length T (x, (h : Int)) p j
    obtain ⟨⟨a1, a2⟩, f1, f2⟩ := HT'.out.2 (ps T.length p j) (by rw [hl]; exact hpl)
    rw [rS_here hpn (by omega)] at a1 a2
    have HSe := Lib.hid (fun (W : World) (hW : TA W g (rS T (x, (h : Int)) p j)) => hW.set (ps T.length p j) (by rw [hl]; exact hpl) (nV T (x, (h : Int)) p j))
    rw [show (rS T (x, (h : Int)) p j).set (ps T.length p j) (nV T (x, (h : Int)) p j) = rS T (x, (h : Int)) p (j + 1) from rfl] at HSe
    have hmod : (((ps T.length p j : Nat) : Int) + 1) % (T.length : Int) = (ps T.length p (j + 1) : Nat) := by
      rw [← mod_ps hpn (show j + 1 ≤ T.length by omega), ← mod_ps hpn (show j ≤ T.length by omega), Int.natCast_emod, Int.natCast_emod]
      rw [Int.natCast_add, Int.natCast_add, Int.emod_add_emod]
      congr 1
      try omega
    have o1 := off_ps (i := j) hpn (by omega)
    have HNx : Hid (nV T (x, (h : Int)) p (j + 1) = gt T (ps T.length p j)) := rfl
    generalize (nV T (x, (h : Int)) p j).1 = nx at *
    generalize (nV T (x, (h : Int)) p j).2 = ny at *
    by_cases hjm : j < m
    · have hz := HS0.out j hjm
      have o2 := off_ps (i := j + 1) hpn (by omega)
      have HN1 : Hid ((nV T (x, (h : Int)) p (j + 1)).1 = (gt T (ps T.length p j)).1 ∧ (nV T (x, (h : Int)) p (j + 1)).2 = (gt T (ps T.length p j)).2) := ⟨rfl, rfl⟩
      generalize (gt T (ps T.length p j)).1 = zx at *
      generalize (gt T (ps T.length p j)).2 = zy at *
      generalize hpq : ps T.length p j = a at *
      generalize hpr : ps T.length p (j + 1) = a' at *
      have HO1 := Lib.hid o1
      have HO2 := Lib.hid o2
      have HPr := Lib.hid hpr
      clear hpq hpr o1 o2 HNx
      have hz1 : (zx != 0) = true := by simp [hz]
      have hai : (a : Int) < (T.length : Int) := by omega
      obtain ⟨b1, b2, b3, b4⟩ := box_cells HX.out
      have hsr := HB.out.size
      have hgr := HT'.out.1
      have hBr := (Array.getElem?_eq_some_iff.1 HX.out).1
      obtain ⟨wb, hwb⟩ : ∃ wb, wb = wr.alloc (.cells #[.int .u32 zx, .int .i64 zy] 51) := ⟨_, rfl⟩
      have hsb : wb.heap.size = wr.heap.size + 1 := by rw [hwb, size_alloc]
      have hY : wb.heap[wr.heap.size]? = some (.cells #[.int .u32 zx, .int .i64 zy] 51 (0, 0)) := by rw [hwb]; exact heap_alloc_new _ _
      have hBb : Below wr.heap.size wr wb := by rw [hwb]; exact below_made _ _
      have HTb := Lib.hid (HT'.out.below hBb)
      have HXb := Lib.hid ((hBb.block B hBr).trans HX.out)
      have HBb := Lib.hid (HB.out.trans (hBb.mono HB.out.size))
      have HYb := Lib.hid hY
      go_upto_region 14 with fail
      rw [← hwb]
      clear hwb a1 a2 f1 f2 b1 b2 b3 b4 hY hBb HX HT' HB
      obtain ⟨⟨a1, a2⟩, f1, f2⟩ := HTb.out.2 a (by rw [hl]; omega)
      obtain ⟨b1, b2, b3, b4⟩ := box_cells HXb.out
      have HTc := Lib.hid (HSe.out _ HTb.out)
      obtain ⟨wc, hwc⟩ : ∃ wc, wc = (wb.setCell ⟨g, a * 2, none⟩ (.int .u32 nx)).setCell ⟨g, a * 2 + 1, none⟩ (.int .i64 ny) := ⟨_, rfl⟩
      rw [← hwc] at HTc
      have hfc : Fr wb.heap.size (fun b => b = g) wb wc := by rw [hwc]; exact Fr.setCell (Fr.setCell (Fr.refl wb.heap.size (fun b => b = g) wb) (p := ⟨g, a * 2, none⟩) (.inr rfl) _) (p := ⟨g, a * 2 + 1, none⟩) (.inr rfl) _
      have HXc := Lib.hid ((hfc.block B (by omega) hBg).trans HXb.out)
      have HYc := Lib.hid ((hfc.block wr.heap.size (by omega) (by omega)).trans HYb.out)
      have HBc := Lib.hid (HBb.out.trans (hfc.toBelow (by omega) (fun k hk e => by subst e; omega)))
      clear hfc
      go_upto_region 15 with fail
      rw [← hwc]
      clear hwc a1 a2 f1 f2 b1 b2 b3 b4 HTb HXb HYb HBb
      obtain ⟨b1, b2, b3, b4⟩ := box_cells HXc.out
      obtain ⟨d1, d2, -, -⟩ := box_cells HYc.out
      obtain ⟨wd, hwd⟩ : ∃ wd, wd = (wc.setCell ⟨B, 0, none⟩ (.int .u32 zx)).setCell ⟨B, 1, none⟩ (.int .i64 zy) := ⟨_, rfl⟩
      have HXd : Hid (wd.heap[B]? = some (.cells #[.int .u32 zx, .int .i64 zy] 51 (0, 0))) := by rw [hwd]; exact set_box HXc.out _ _
      have HTd : Hid (TA wd g (rS T (x, (h : Int)) p (j + 1))) := by rw [hwd]; exact (HTc.out.other _ hBg).other _ hBg
      have HBd : Hid (Below w.heap.size w wd) := by rw [hwd]; exact (HBc.out.setCell (by show w.heap.size ≤ B; omega) _).setCell (by show w.heap.size ≤ B; omega) _
      go_upto_region 16 with fail
      rw [← hwd]
      clear hwd b1 b2 b3 b4 d1 d2 HXc HYc HTc HBc
      rw [← HN1.out.1, ← HN1.out.2] at HXd
      go_wp2
      try rw [hmod]
      go_roundw
      case rel => exact ⟨j + 1, by omega, by unfold Hid; rw [HPr.out], HBd, HTd, HXd⟩
      case measure =>
        have a1 := HO1.out
        have a2 := HO2.out
        simp [offI, intOf]
        omega
    · obtain rfl : j = m := by omega
      have hz := HS1.out
      generalize (gt T (ps T.length p j)).1 = zx at *
      generalize (gt T (ps T.length p j)).2 = zy at *
      generalize ps T.length p j = a at *
      have hz1 : (zx != 0) = false := by simp [hz]
      have hai : (a : Int) < (T.length : Int) := by omega
      obtain ⟨b1, b2, b3, b4⟩ := box_cells HX.out
      have HTe := Lib.hid (HSe.out _ HT'.out)
      rw [HRe.out] at HTe
      have HBe : Hid (Below w.heap.size w ((wr.setCell ⟨g, a * 2, none⟩ (.int .u32 nx)).setCell ⟨g, a * 2 + 1, none⟩ (.int .i64 ny))) := (HB.out.setCell (by show w.heap.size ≤ g; omega) _).setCell (by show w.heap.size ≤ g; omega) _
      clear hz HSe
      go_wp2
      go_ret2
      refine ⟨_, rfl, HBe.out, ?_⟩
      rw [← HRl.out]
      exact HTe.out.row (by rw [HRl.out]; exact k1) k2
end Go.Proofs.Ytjikikiconhlaaa.Pro
