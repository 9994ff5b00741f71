/- Contracts of probe: Insert with its errors, Delete, Longest. -/
import Derived.Test.YtjikikiconhlaaaProF
import Derived.Deep.DeepCutAuto
namespace Go.Proofs.Ytjikikiconhlaaa.Pro
open Go.RowKit
set_option linter.unusedVariables false

set_option maxRecDepth 100000 in
theorem insert_any (u : Value) (T : List Cel) (x y : Int) (w : World) (hr : CRow w u T) (hn : T.length ≤ 1000) (hu : WU T) :
    Calls Try.prog 12 #[u, .int .u32 x, .int .i64 y] w (InsR w (rI T (x, y)) (eI T (x, y))) := by
  obtain ⟨w0, hw0⟩ : ∃ w0, w0 = (w.alloc (.cells #[.int .u32 x] 23)).alloc (.cells #[.int .i64 y] 3) := ⟨_, rfl⟩
  have hs0 : w0.heap.size = w.heap.size + 2 := by rw [hw0, size_alloc, size_alloc]
  have hb0 : Below w.heap.size w w0 := by rw [hw0]; exact ((Below.refl _ w).alloc (Nat.le_refl _) _).alloc (by rw [size_alloc]; omega) _
  have h1 : w0.heap[w.heap.size]? = some (.cells #[.int .u32 x] 23 (0, 0)) := by
    rw [hw0, heap_alloc_old _ _ (by rw [size_alloc]; omega)]; exact heap_alloc_new _ _
  have h2 : w0.heap[w.heap.size + 1]? = some (.cells #[.int .i64 y] 3 (0, 0)) := by
    rw [hw0]
    have := heap_alloc_new (w.alloc (.cells #[.int .u32 x] 23)) (.cells #[.int .i64 y] 3)
    rwa [size_alloc] at this
  have c1 := cell_of_one h1
  have c2 := cell_of_one h2
  have HRo : Hid (∀ V, Below w0.heap.size w0 V → CRow V u T) := fun V hV => hr.mono (hb0.trans (hV.mono (by omega))) (Nat.le_refl _)
  have HCk := Lib.hid (check_any u T x y w0 (HRo.out _ (Below.refl _ _)) hn hu)
  have HB0 := Lib.hid hb0
  by_cases hck : ckC T (x, y) = 0
  · obtain ⟨hna, -⟩ := ck_ok hck
    obtain ⟨h, rfl, hh⟩ := na_home hna
    have HC1 : Hid (∀ V, Below w0.heap.size w0 V → Calls Try.prog 28 #[u, .func (.func 29) #[] #[.pointer (some ⟨w.heap.size, 0, none⟩)]] V fun e w' => e = .returned (.bool (T.any (fun a => decide (a.1 = x)))) ∧ Below V.heap.size V w') := fun V hV =>
      contains_any u T 29 #[.pointer (some ⟨w.heap.size, 0, none⟩)] (fun a => decide (a.1 = x)) V (HRo.out V hV) hn enters_ins1 (fun a b W hW => ins1_any a b x w.heap.size W ((hW.block _ (by have := hV.size; omega)).trans ((hV.block _ (by omega)).trans h1)))
    cases ha : T.any (fun a => decide (a.1 = x)) with
    | true =>
      have E : eI T (x, (h : Int)) = 8 := by rw [eI, if_pos hck, if_pos ha]
      have E2 : rI T (x, (h : Int)) = [] := by rw [rI, if_neg (by omega)]
      rw [ha] at HC1
      rw [E, E2]
      rw [hck] at HCk
      obtain ⟨ua, uc, rfl, -, -⟩ := hr.slice
      clear hr hck hna ha hu h1 h2 hb0 HRo E E2
      go_enter Try.func12, Try.ntmps12
      go_wp2_with fail
      rw [← hw0]
      clear hw0
      refine HCk.out.mono ?_
      rintro e w1 ⟨rfl, hb1⟩
      have HB1 := Lib.hid hb1
      clear hb1 c1 c2
      go_wp2_with fail
      refine (HC1.out _ HB1.out).mono ?_
      rintro e w2 ⟨rfl, hb2⟩
      have HB2 := Lib.hid (HB1.out.trans (hb2.mono HB1.out.size))
      clear hb2
      go_wp2
      go_ret2
      exact ⟨_, rfl, HB0.out.trans (HB2.out.mono (by omega)), CRow.nil _⟩
    | false =>
      cases he : T.any emC with
      | true =>
        have E : eI T (x, (h : Int)) = 0 := by rw [eI, if_pos hck]; simp [ha, he]
        have E2 : rI T (x, (h : Int)) = insT T (x, (h : Int)) h := by rw [rI, if_pos E]; simp
        rw [E, E2]
        exact insert_ok u T x h w hr hn hu hh hck ha he
      | false =>
        have E : eI T (x, (h : Int)) = 5 := by rw [eI, if_pos hck]; simp [ha, he]
        have E2 : rI T (x, (h : Int)) = [] := by rw [rI, if_neg (by omega)]
        rw [ha] at HC1
        rw [E, E2]
        rw [hck] at HCk
        have HC2 : Hid (∀ V, Below w0.heap.size w0 V → Calls Try.prog 28 #[u, .func (.func 30) #[] #[]] V fun e w' => e = .returned (.bool false) ∧ Below V.heap.size V w') := fun V hV => by
          have := contains_any u T 30 #[] emC V (HRo.out V hV) hn enters_emp (fun a b W hW => empty_any a b W)
          rwa [he] at this
        obtain ⟨ua, uc, rfl, -, -⟩ := hr.slice
        clear hr hck hna ha he hu h1 h2 hb0 HRo E E2
        go_enter Try.func12, Try.ntmps12
        go_wp2_with fail
        rw [← hw0]
        clear hw0
        refine HCk.out.mono ?_
        rintro e w1 ⟨rfl, hb1⟩
        have HB1 := Lib.hid hb1
        clear hb1 c1 c2
        go_wp2_with fail
        refine (HC1.out _ HB1.out).mono ?_
        rintro e w2 ⟨rfl, hb2⟩
        have HB2 := Lib.hid (HB1.out.trans (hb2.mono HB1.out.size))
        clear hb2
        go_wp2_with fail
        refine (HC2.out _ HB2.out).mono ?_
        rintro e w3 ⟨rfl, hb3⟩
        have HB3 := Lib.hid (HB2.out.trans (hb3.mono HB2.out.size))
        clear hb3
        go_wp2
        go_ret2
        exact ⟨_, rfl, HB0.out.trans (HB3.out.mono (by omega)), CRow.nil _⟩
  · have E : eI T (x, y) = ckC T (x, y) := by rw [eI, if_neg hck]
    have E2 : rI T (x, y) = [] := by rw [rI, if_neg (by omega)]
    rw [E, E2]
    have h3 : (ckC T (x, y) != 0) = true := by simp [hck]
    have h4 : (ckC T (x, y) == 0) = false := by simp [hck]
    generalize ckC T (x, y) = z at *
    obtain ⟨ua, uc, rfl, -, -⟩ := hr.slice
    clear hr hck hu h1 h2 hb0 HRo E E2
    go_enter Try.func12, Try.ntmps12
    go_wp2_with fail
    rw [← hw0]
    clear hw0
    refine HCk.out.mono ?_
    rintro e w1 ⟨rfl, hb1⟩
    have HB1 := Lib.hid hb1
    clear hb1 c1 c2
    go_wp2
    go_ret2
    exact ⟨_, rfl, HB0.out.trans (HB1.out.mono (by omega)), CRow.nil _⟩

/-- What Delete answers. -/
def delT (T : List Cel) (p : Nat) : List Cel := carT (T.set p (0, 0)) (ps T.length p) (heK (T.set p (0, 0)) (p + 1))
def eD (T : List Cel) (c : Cel) : Int := if ckC T c = 0 then (if (fiC T c c.2.toNat).2 then 0 else 7) else ckC T c
def rD (T : List Cel) (c : Cel) : List Cel := if eD T c = 0 then delT T (fiC T c c.2.toNat).1 else []
theorem heK_lt {T : List Cel} {p : Nat} (hp : p < T.length) : heK (T.set p (0, 0)) (p + 1) < T.length := by
  rcases Nat.lt_or_ge (heK (T.set p (0, 0)) (p + 1)) T.length with h | h
  · exact h
  · exfalso
    have h1 := sk_no (P := fun s => emC (gt (T.set p (0, 0)) ((p + 1 + s) % (T.set p (0, 0)).length)) || decide (fr (T.set p (0, 0)) ((p + 1 + s) % (T.set p (0, 0)).length) = 0)) (n := (T.set p (0, 0)).length) (j := T.length - 1) (by unfold heK at h; omega)
    rw [List.length_set, show (p + 1 + (T.length - 1)) % T.length = p by rw [show p + 1 + (T.length - 1) = p + T.length by omega, Nat.add_mod_right, Nat.mod_eq_of_lt hp], gt_set _ _ _ _ hp, if_pos rfl] at h1
    simp [emC] at h1
theorem fiC_lt (T : List Cel) (c : Cel) (h : Nat) (h0 : 0 < T.length) : (fiC T c h).1 < T.length := by
  unfold fiC
  split
  · exact Nat.mod_lt _ h0
  · exact h0

set_option maxRecDepth 100000 in
set_option maxHeartbeats 2000000 in
theorem delete_ok (u : Value) (T : List Cel) (x : Int) (h p : Nat) (w : World) (hr : CRow w u T) (hn : T.length ≤ 1000) (hu : WU T) (hh : h < T.length) (hck : ckC T (x, (h : Int)) = 0) (hf : fiC T (x, (h : Int)) h = (p, true)) :
    Calls Try.prog 14 #[u, .int .u32 x, .int .i64 (h : Int)] w (InsR w (delT T p) 0) := by
  have hpn : p < T.length := by have := fiC_lt T (x, (h : Int)) h (by omega); rwa [hf] at this
  have hmn := heK_lt hpn
  have E : delT T p = carT (T.set p (0, 0)) (ps T.length p) (heK (T.set p (0, 0)) (p + 1)) := rfl
  have HS2 := Lib.hid (fun g cap b1 b2 b3 W hT hc1 hc2 hX h1 => seek3_any g cap (T.set p (0, 0)) (p + 1) b1 b2 b3 W hT hc1 hc2 (by rw [List.length_set]; omega) (by rw [List.length_set]; omega) (by rw [List.length_set]; exact hn) hX h1)
  have HS3 := Lib.hid (fun g cap b1 b2 W hT hc1 hX h1 h2 => carry2_any g cap (T.set p (0, 0)) (heK (T.set p (0, 0)) (p + 1)) p b1 b2 W hT hc1 (by rw [List.length_set]; exact hmn) (by rw [List.length_set]; exact hn) (by rw [List.length_set]; exact hpn) hX h1 h2)
  rw [List.length_set] at HS2 HS3
  rw [E]
  clear E
  generalize heK (T.set p (0, 0)) (p + 1) = m at *
  obtain ⟨q, hq⟩ : ∃ q, q = (p + 1 + m) % T.length := ⟨_, rfl⟩
  rw [← hq] at HS2
  clear hq
  have HSet := Lib.hid (fun g (W : World) (hT : TA W g T) => hT.set p hpn ((0 : Int), (0 : Int)))
  have HCar := carT_length (T.set p (0, 0)) (ps T.length p) m
  rw [List.length_set] at HCar
  generalize carT (T.set p (0, 0)) (ps T.length p) m = R at *
  have hTn : (T.set p (0, 0)).length = T.length := List.length_set ..
  generalize T.set p (0, 0) = S at *
  have HCk := Lib.hid (check_any u T x (h : Int) w hr hn hu)
  rw [hck] at HCk
  have HFi := Lib.hid (fun V (hV : Below w.heap.size w V) => find_any u T x h V (hr.mono hV (Nat.le_refl _)) hh hn)
  rw [hf] at HFi
  have HCl := Lib.hid (fun V (hV : Below w.heap.size w V) => clone_any u T V (hr.mono hV (Nat.le_refl _)) (by omega) hn)
  have HFw := Lib.hid (fun g c (f : Int) W => forwards_any (some ⟨g, 0, none⟩) T.length c f W)
  have HTn := Lib.hid hTn
  have HCarl := Lib.hid HCar
  obtain ⟨ua, uc, rfl, -, -⟩ := hr.slice
  clear hr hck hu hTn HCar hf
  have hpi : (p : Int) < (T.length : Int) := by omega
  have hpw : IntKind.i64.wrap ((p : Int) + 1) = ((p + 1 : Nat) : Int) := (wrap_id (by omega) (by omega)).trans (by omega)
  go_enter Try.func14, Try.ntmps14
  go_wp2_with fail
  refine HCk.out.mono ?_
  rintro e w1 ⟨rfl, hb1⟩
  have HB1 := Lib.hid hb1
  clear hb1
  go_wp2_with fail
  refine (HFi.out _ HB1.out).mono ?_
  rintro e w2 ⟨rfl, hb2⟩
  have HB2 := Lib.hid (HB1.out.trans (hb2.mono HB1.out.size))
  clear hb2
  go_wp2_with fail
  refine (HCl.out _ HB2.out).mono ?_
  rintro e w4 ⟨g, cap, rfl, hc1, hc2, hg, hT, hb4⟩
  have HB4 := Lib.hid (HB2.out.trans (hb4.mono HB2.out.size))
  have hsg : w.heap.size ≤ g := Nat.le_trans HB2.out.size hg
  have hg4 : g < w4.heap.size := hT.1
  have hs4 : w.heap.size ≤ w4.heap.size := HB4.out.size
  obtain ⟨w5, hw5⟩ : ∃ w5, w5 = w4.alloc (.cells #[.slice (some ⟨g, 0, none⟩) T.length cap] 57) := ⟨_, rfl⟩
  have hs5 : w5.heap.size = w4.heap.size + 1 := by rw [hw5, size_alloc]
  have HBa : Hid (Below w4.heap.size w4 w5) := by rw [hw5]; exact below_made _ _
  have h95 : w5.heap[w4.heap.size]? = some (.cells #[.slice (some ⟨g, 0, none⟩) T.length cap] 57 (0, 0)) := by rw [hw5]; exact heap_alloc_new _ _
  have hT5 := hT.below HBa.out
  obtain ⟨⟨a1, a2⟩, f1, f2⟩ := hT5.2 p hpn
  have HT10 := Lib.hid (HSet.out _ _ hT5)
  have HF9 : Hid (Fr w5.heap.size (fun b => b = g) w5 ((w5.setCell ⟨g, p * 2, none⟩ (.int .u32 0)).setCell ⟨g, p * 2 + 1, none⟩ (.int .i64 0))) := Fr.setCell (Fr.setCell (Fr.refl w5.heap.size (fun b => b = g) w5) (p := ⟨g, p * 2, none⟩) (.inr rfl) _) (p := ⟨g, p * 2 + 1, none⟩) (.inr rfl) _
  have HF10 : Hid (Fr w4.heap.size (fun b => b = g) w4 ((w5.setCell ⟨g, p * 2, none⟩ (.int .u32 0)).setCell ⟨g, p * 2 + 1, none⟩ (.int .i64 0))) := (Fr.of_below HBa.out).trans (HF9.out.mono (by omega) (fun _ _ h => h))
  have hkA : Hid (((w5.setCell ⟨g, p * 2, none⟩ (.int .u32 0)).setCell ⟨g, p * 2 + 1, none⟩ (.int .i64 0)).heap[w4.heap.size]? = some (.cells #[.slice (some ⟨g, 0, none⟩) T.length cap] 57 (0, 0))) :=
    (HF9.out.block w4.heap.size (by omega) (by omega)).trans h95
  have c95 := cell_of_one h95
  clear hT hb4 hT5 HB1 HB2 HCl HCk HFi h95 HF9
  go_upto_region 8 with fail
  rw [← hw5]
  clear hw5
  go_wp2_with fail
  obtain ⟨wA, hwA⟩ : ∃ wA, wA = (w5.setCell ⟨g, p * 2, none⟩ (.int .u32 0)).setCell ⟨g, p * 2 + 1, none⟩ (.int .i64 0) := ⟨_, rfl⟩
  rw [← hwA] at HT10 HF10 hkA
  rw [← hwA]
  clear hwA a1 a2 f1 f2 hs5 HBa c95
  have c9 := cell_of_one hkA.out
  have hl9 := (Array.getElem?_eq_some_iff.1 hkA.out).1
  have hD : Hid (∀ V, Below wA.heap.size wA V → TA V g S ∧ V.heap[w4.heap.size]? = some (.cells #[.slice (some ⟨g, 0, none⟩) T.length cap] 57 (0, 0)) ∧ wA.heap.size ≤ V.heap.size) :=
    fun V hV => ⟨HT10.out.below hV, (hV.block _ hl9).trans hkA.out, hV.size⟩
  go_region_held3 (fun w' => w'.cell? ⟨w4.heap.size, 0, none⟩ = some (.slice (some ⟨g, 0, none⟩) T.length cap)) (first | exact c9 | go_keep) ((first
    | (go_at_call 33; refine (HFw.out _ _ _ _).mono ?_; rintro e w6 ⟨b1, b2, rfl, -, -, hX, hb6⟩; have hb5 := (Below.refl wA.heap.size wA).drew.trans hb6; obtain ⟨t5, k9, k1⟩ := hD.out _ hb5; have c9 := cell_of_one k9; clear hb6)
    | (go_at_call 32; refine (HS2.out _ _ _ _ _ _ t5 hc1 hc2 hX k9).mono ?_; rintro e w9 ⟨rfl, hb7⟩; have hb9 := hb5.trans (hb7.mono hb5.size); obtain ⟨t7, l9, l4⟩ := hD.out _ hb9; have c9 := cell_of_one l9; clear hb7)))
  all_goals
    have HB9 := Lib.hid hb9
    have HT9 := Lib.hid t7
    have HX9 := Lib.hid l9
    clear hX hb5 t5 k9 k1 hb9 t7 l9
    go_wp2_with fail
    go_region_held3 (fun w' => w'.cell? ⟨w4.heap.size, 0, none⟩ = some (.slice (some ⟨g, 0, none⟩) T.length cap)) (first | exact c9 | go_keep) ((first
      | (go_at_call 33; refine (HFw.out _ _ _ _).mono ?_; rintro e wB ⟨b1, b2, rfl, hl1, hl2, hX, hb6⟩; have hbB := (Below.refl w9.heap.size w9).drew.trans hb6; have c9 := cell_of_one ((hbB.block _ (show w4.heap.size < w9.heap.size by omega)).trans HX9.out); have hg1 : b1 ≠ g := by (have hl1' : w9.heap.size ≤ b1 := hl1); omega
         have hg2 : b2 ≠ g := by (have hl2' : w9.heap.size ≤ b2 := hl2); omega
         clear hb6 hl1 hl2)
      | (go_at_call 37; refine (HS3.out _ _ _ _ _ (HT9.out.below hbB) hc1 hX hg1 hg2).mono ?_; rintro e wC ⟨rfl, hfC, hTC⟩; have hsB := hbB.size; have c9 := cell_of_one ((hfC.block _ (show w4.heap.size < wB.heap.size by omega) (by omega)).trans ((hbB.block _ (show w4.heap.size < w9.heap.size by omega)).trans HX9.out)))))
    all_goals
      go_wp2
      go_ret2
      refine ⟨_, rfl, ?_, ?_⟩
      · exact HB4.out.trans ((HF10.out.toBelow (by omega) (fun k hk e => by subst e; omega)).trans ((HB9.out.mono (by omega)).trans ((hbB.mono (by omega)).trans (hfC.toBelow (by omega) (fun k hk e => by subst e; omega)))))
      · rw [← HCarl.out]
        exact hTC.row (by rw [HCarl.out]; exact hc1) hc2
set_option maxRecDepth 100000 in
theorem delete_any (u : Value) (T : List Cel) (x y : Int) (w : World) (hr : CRow w u T) (hn : T.length ≤ 1000) (hu : WU T) :
    Calls Try.prog 14 #[u, .int .u32 x, .int .i64 y] w (InsR w (rD T (x, y)) (eD T (x, y))) := by
  have HCk := Lib.hid (check_any u T x y w hr hn hu)
  by_cases hck : ckC T (x, y) = 0
  · obtain ⟨hna, -⟩ := ck_ok hck
    obtain ⟨h, rfl, hh⟩ := na_home hna
    have HFi := Lib.hid (fun V (hV : Below w.heap.size w V) => find_any u T x h V (hr.mono hV (Nat.le_refl _)) hh hn)
    rcases hf : fiC T (x, (h : Int)) h with ⟨p, b⟩
    cases b with
    | true =>
      have E : eD T (x, (h : Int)) = 0 := by rw [eD, if_pos hck]; simp [hf]
      have E2 : rD T (x, (h : Int)) = delT T p := by rw [rD, if_pos E]; simp [hf]
      rw [E, E2]
      exact delete_ok u T x h p w hr hn hu hh hck hf
    | false =>
      have E : eD T (x, (h : Int)) = 7 := by rw [eD, if_pos hck]; simp [hf]
      have E2 : rD T (x, (h : Int)) = [] := by rw [rD, if_neg (by omega)]
      rw [E, E2]
      rw [hf] at HFi
      rw [hck] at HCk
      obtain ⟨ua, uc, rfl, -, -⟩ := hr.slice
      clear hr hck hna hu hf E E2
      go_enter Try.func14, Try.ntmps14
      go_wp2_with fail
      refine HCk.out.mono ?_
      rintro e w1 ⟨rfl, hb1⟩
      have HB1 := Lib.hid hb1
      clear hb1
      go_wp2_with fail
      refine (HFi.out _ HB1.out).mono ?_
      rintro e w2 ⟨rfl, hb2⟩
      go_wp2
      go_ret2
      exact ⟨_, rfl, HB1.out.trans (hb2.mono HB1.out.size), CRow.nil _⟩
  · have E : eD T (x, y) = ckC T (x, y) := by rw [eD, if_neg hck]
    have E2 : rD T (x, y) = [] := by rw [rD, if_neg (by omega)]
    rw [E, E2]
    have h3 : (ckC T (x, y) != 0) = true := by simp [hck]
    have h4 : (ckC T (x, y) == 0) = false := by simp [hck]
    generalize ckC T (x, y) = z at *
    obtain ⟨ua, uc, rfl, -, -⟩ := hr.slice
    clear hr hck hu E E2
    go_enter Try.func14, Try.ntmps14
    go_wp2_with fail
    refine HCk.out.mono ?_
    rintro e w1 ⟨rfl, hb1⟩
    go_wp2
    go_ret2
    exact ⟨_, rfl, hb1, CRow.nil _⟩

/-- The greatest distance of the first k cells. -/
def lon (T : List Cel) : Nat → Int
  | 0 => 0
  | k + 1 => if emC (gt T k) then lon T k else if lon T k < fr T k then fr T k else lon T k
def loT (T : List Cel) : Int := if RC T then lon T T.length else 0
set_option maxRecDepth 100000 in
theorem longest_any (u : Value) (T : List Cel) (w : World) (hr : CRow w u T) (hn : T.length ≤ 1000) (hu : WU T) :
    Calls Try.prog 19 #[u] w fun e w' => e = .returned (.int .i64 (loT T)) ∧ Below w.heap.size w w' := by
  have HT := Lib.hid (right_any u T w hr hn hu)
  cases hrc : RC T with
  | false =>
    rw [hrc] at HT
    have E : loT T = 0 := by rw [loT, hrc]; simp
    rw [E]
    obtain ⟨ua, uc, rfl, -, -⟩ := hr.slice
    clear hr E hrc
    go_enter Try.func19, Try.ntmps19
    go_wp2_with fail
    refine HT.out.mono ?_
    rintro e w1 ⟨rfl, hb1⟩
    go_wp2
    go_ret
    exact ⟨rfl, hb1⟩
  | true =>
    rw [hrc] at HT
    have E : loT T = lon T T.length := by rw [loT, hrc]; simp
    rw [E]
    have h0 : 0 < T.length := by
      rcases Nat.eq_zero_or_pos T.length with h | h
      · rw [RC, h] at hrc; simp at hrc
      · exact h
    have HR := Lib.hid hr
    obtain ⟨b, off, c, rfl, q1, q2, hblt, hc⟩ := hr.open h0
    have HC := Lib.hid hc
    have HF := Lib.hid (fun k hk W hW => far_any (.slice (some ⟨b, off, none⟩) T.length c) T k W hW hk (by omega))
    have HLo := Lib.hid (fun k => show lon T (k + 1) = if emC (gt T k) then lon T k else if lon T k < fr T k then fr T k else lon T k from rfl)
    clear hc hr hu hrc E
    go_enter Try.func19, Try.ntmps19
    go_wp2_with fail
    refine HT.out.mono ?_
    rintro e w1 ⟨rfl, hb1⟩
    have HB1 := Lib.hid hb1
    clear hb1
    go_wp2
    go_loopw [3, 11] (fun l i wr => ∃ k : Nat, k ≤ T.length ∧ i = .int .i64 k ∧ Hid (l = .int .i64 (lon T k)) ∧ Hid (Below w.heap.size w wr)) (fun _ i _ => T.length - (intOf i).toNat)
    case atStart => exact ⟨0, Nat.zero_le _, rfl, rfl, HB1⟩
    case round =>
      obtain ⟨k, hk, rfl, hlo, HB⟩ := hrel
      clear HB1
      have hlo2 := hlo.out
      subst hlo2
      clear hlo
      by_cases hlt : k < T.length
      · have hlt1 : (k : Int) < (T.length : Int) := by omega
        obtain ⟨d1, d2⟩ := HC.out k hlt
        have c1 := (HB.out.cell (p := ⟨b, off + k * 2, none⟩) hblt).trans d1
        have c2 := (HB.out.cell (p := ⟨b, off + k * 2 + 1, none⟩) hblt).trans d2
        have HE := Lib.hid (fun W => empty_any (gt T k).1 (gt T k).2 W)
        rw [show emC ((gt T k).1, (gt T k).2) = emC (gt T k) from rfl] at HE
        have HFk := Lib.hid (fun W hW => HF.out k hlt W hW)
        have HLk := Lib.hid (HLo.out k)
        generalize emC (gt T k) = eb at *
        generalize (gt T k).2 = y at *
        generalize (gt T k).1 = x at *
        generalize fr T k = f at *
        have hl : ∃ L, L = lon T k := ⟨_, rfl⟩
        obtain ⟨L, hL⟩ := hl
        rw [← hL] at HLk ⊢
        clear hL
        have hsz := HB.out.size
        have HBa := Lib.hid (HB.out.alloc hsz (.cells #[.int .u32 x, .int .i64 y] 48))
        clear d1 d2
        go_wp2_with fail
        refine (HE.out _).mono ?_
        rintro e w2 ⟨rfl, hb2⟩
        have HB2 := Lib.hid (HBa.out.trans (hb2.mono (by rw [size_alloc]; omega)))
        clear hb2 c1 c2
        cases eb with
        | true =>
          have e3 : lon T (k + 1) = L := by rw [HLk.out]; simp
          rw [← e3]
          clear e3
          go_wp2
          go_roundw
          case rel => exact ⟨k + 1, by omega, by go_num, rfl, HB2⟩
          case measure => simp [intOf]; omega
        | false =>
          have HRa := Lib.hid (HR.out.mono HB2.out (Nat.le_refl _))
          go_wp2_with fail
          refine (HFk.out _ HRa.out).mono ?_
          rintro e w3 ⟨rfl, rfl⟩
          by_cases hm : L < f
          · have e3 : Hid (lon T (k + 1) = f) := by unfold Hid; rw [HLk.out]; simp [hm]
            have hmx : max L f = f := by omega
            go_wp2
            all_goals
              go_roundw
              case rel => exact ⟨k + 1, by omega, by go_num, by unfold Hid; rw [e3.out], HB2⟩
              case measure => simp [intOf]; omega
          · have e3 : Hid (lon T (k + 1) = L) := by unfold Hid; rw [HLk.out]; simp [hm]
            go_wp2
            all_goals
              go_roundw
              case rel => exact ⟨k + 1, by omega, by go_num, by unfold Hid; rw [e3.out], HB2⟩
              case measure => simp [intOf]; omega
      · obtain rfl : k = T.length := by omega
        go_wp2
        go_ret
        exact ⟨rfl, HB.out⟩
end Go.Proofs.Ytjikikiconhlaaa.Pro
