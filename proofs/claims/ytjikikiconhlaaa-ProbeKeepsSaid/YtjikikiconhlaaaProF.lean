/- Contracts of probe: Insert. -/
import Derived.Test.YtjikikiconhlaaaProE
namespace Go.Proofs.Ytjikikiconhlaaa.Pro
open Go.RowKit
set_option linter.unusedVariables false

/-- What Insert answers. -/
def eI (T : List Cel) (c : Cel) : Int := if ckC T c = 0 then (if T.any (fun a => decide (a.1 = c.1)) then 8 else if T.any emC then 0 else 5) else ckC T c
def insT (T : List Cel) (c : Cel) (h : Nat) : List Cel :=
  carT (T.set (((h + opK T h) % T.length + moK T ((h + opK T h) % T.length)) % T.length) c) (bk T.length (((h + opK T h) % T.length + moK T ((h + opK T h) % T.length)) % T.length)) (moK T ((h + opK T h) % T.length))
def rI (T : List Cel) (c : Cel) : List Cel := if eI T c = 0 then insT T c c.2.toNat else []
/-- An error, and the table that comes with it. -/
def InsR (w : World) (T : List Cel) (err : Int) (e : Ending) (w' : World) : Prop := ∃ u, e = .returned (.tuple #[u, .int .i64 err]) ∧ Below w.heap.size w w' ∧ CRow w' u T
theorem CRow.nil (w : World) : CRow w (.slice none 0 0) [] := ARow.nil _ _ _ _
theorem moK_lt {T : List Cel} {p : Nat} (hp : p < T.length) (ha : T.any emC = true) : moK T p < T.length := by
  rcases Nat.lt_or_ge (moK T p) T.length with h | h
  · exact h
  · exfalso
    obtain ⟨c, hc, hce⟩ := List.any_eq_true.1 ha
    obtain ⟨i, hi, rfl⟩ := List.getElem_of_mem hc
    have ho := off_lt hp hi
    have h1 := sk_no (P := fun s => emC (gt T ((p + s) % T.length))) (n := T.length) (j := off T.length p i) (by unfold moK at h; omega)
    rw [mod_ps hp (by omega), ps_off hp hi] at h1
    simp [gt, List.getD, hi, hce] at h1

set_option maxRecDepth 100000 in
set_option maxHeartbeats 2000000 in
theorem insert_ok (u : Value) (T : List Cel) (x : Int) (h : Nat) (w : World) (hr : CRow w u T) (hn : T.length ≤ 1000) (hu : WU T) (hh : h < T.length) (hck : ckC T (x, (h : Int)) = 0)
    (ha : T.any (fun a => decide (a.1 = x)) = false) (he : T.any emC = true) :
    Calls Try.prog 12 #[u, .int .u32 x, .int .i64 (h : Int)] w (InsR w (insT T (x, (h : Int)) h) 0) := by
  have hpn : (h + opK T h) % T.length < T.length := Nat.mod_lt _ (by omega)
  have hmn := moK_lt hpn he
  have hqn : ((h + opK T h) % T.length + moK T ((h + opK T h) % T.length)) % T.length < T.length := Nat.mod_lt _ (by omega)
  have E : insT T (x, (h : Int)) h = carT (T.set (((h + opK T h) % T.length + moK T ((h + opK T h) % T.length)) % T.length) (x, (h : Int))) (bk T.length (((h + opK T h) % T.length + moK T ((h + opK T h) % T.length)) % T.length)) (moK T ((h + opK T h) % T.length)) := rfl
  have HS1 := Lib.hid (fun g cap b1 b2 b3 b4 W hT hc1 hc2 hX h1 h2 => seek1_any g cap T h b1 b2 b3 b4 W hT hc1 hc2 hh hn hX h1 h2)
  have HS2 := Lib.hid (fun g cap b1 b2 b3 W hT hc1 hc2 hX h1 => seek2_any g cap T ((h + opK T h) % T.length) b1 b2 b3 W hT hc1 hc2 (by omega) (by omega) hn hX h1)
  have HS3 := Lib.hid (fun g cap b1 b2 W hT hc1 hX h1 h2 => carry1_any g cap (T.set (((h + opK T h) % T.length + moK T ((h + opK T h) % T.length)) % T.length) (x, (h : Int))) (moK T ((h + opK T h) % T.length)) (((h + opK T h) % T.length + moK T ((h + opK T h) % T.length)) % T.length) b1 b2 W hT hc1 (by rw [List.length_set]; exact hmn) (by rw [List.length_set]; exact hn) (by rw [List.length_set]; exact hqn) hX h1 h2)
  rw [List.length_set] at HS3
  rw [E]
  clear E
  generalize opK T h = K at *
  obtain ⟨p, hp⟩ : ∃ p, p = (h + K) % T.length := ⟨_, rfl⟩
  rw [← hp] at hpn hmn hqn HS1 HS2 HS3 ⊢
  clear hp
  generalize moK T p = m at *
  obtain ⟨q, hq⟩ : ∃ q, q = (p + m) % T.length := ⟨_, rfl⟩
  rw [← hq] at hqn HS2 HS3 ⊢
  clear hq
  have HSet := Lib.hid (fun g (W : World) (hT : TA W g T) => hT.set q hqn (x, (h : Int)))
  have HCar := carT_length (T.set q (x, (h : Int))) (bk T.length q) m
  rw [List.length_set] at HCar
  generalize carT (T.set q (x, (h : Int))) (bk T.length q) m = R at *
  have hTn : (T.set q (x, (h : Int))).length = T.length := List.length_set ..
  generalize T.set q (x, (h : Int)) = S at *
  obtain ⟨w0, hw0⟩ : ∃ w0, w0 = (w.alloc (.cells #[.int .u32 x] 23)).alloc (.cells #[.int .i64 (h : Int)] 3) := ⟨_, rfl⟩
  have hs0 : w0.heap.size = w.heap.size + 2 := by rw [hw0, size_alloc, size_alloc]
  have hb0 : Below w.heap.size w w0 := by rw [hw0]; exact ((Below.refl _ w).alloc (Nat.le_refl _) _).alloc (by rw [size_alloc]; omega) _
  have h1 : w0.heap[w.heap.size]? = some (.cells #[.int .u32 x] 23 (0, 0)) := by
    rw [hw0, heap_alloc_old _ _ (by rw [size_alloc]; omega)]; exact heap_alloc_new _ _
  have h2 : w0.heap[w.heap.size + 1]? = some (.cells #[.int .i64 (h : Int)] 3 (0, 0)) := by
    rw [hw0]
    have := heap_alloc_new (w.alloc (.cells #[.int .u32 x] 23)) (.cells #[.int .i64 (h : Int)] 3)
    rwa [size_alloc] at this
  have HKc : Hid (∀ V, Below w0.heap.size w0 V → V.heap[w.heap.size]? = some (.cells #[.int .u32 x] 23 (0, 0)) ∧ V.heap[w.heap.size + 1]? = some (.cells #[.int .i64 (h : Int)] 3 (0, 0))) :=
    fun V hV => ⟨(hV.block w.heap.size (by omega)).trans h1, (hV.block (w.heap.size + 1) (by omega)).trans h2⟩
  have HRo : Hid (∀ V, Below w0.heap.size w0 V → CRow V u T) := fun V hV => hr.mono (hb0.trans (hV.mono (by omega))) (Nat.le_refl _)
  have HCk : Hid (∀ V, Below w0.heap.size w0 V → Calls Try.prog 25 #[u, .int .u32 x, .int .i64 (h : Int)] V fun e w' => e = .returned (.int .i64 0) ∧ Below V.heap.size V w') := fun V hV => by
    have := check_any u T x (h : Int) V (HRo.out V hV) hn hu
    rwa [hck] at this
  have HC1 : Hid (∀ V, Below w0.heap.size w0 V → Calls Try.prog 28 #[u, .func (.func 29) #[] #[.pointer (some ⟨w.heap.size, 0, none⟩)]] V fun e w' => e = .returned (.bool false) ∧ Below V.heap.size V w') := fun V hV => by
    have := contains_any u T 29 #[.pointer (some ⟨w.heap.size, 0, none⟩)] (fun a => decide (a.1 = x)) V (HRo.out V hV) hn enters_ins1 (fun a b W hW => ins1_any a b x w.heap.size W ((hW.block _ (by have := hV.size; omega)).trans (HKc.out V hV).1))
    rwa [ha] at this
  have HC2 : Hid (∀ V, Below w0.heap.size w0 V → Calls Try.prog 28 #[u, .func (.func 30) #[] #[]] V fun e w' => e = .returned (.bool true) ∧ Below V.heap.size V w') := fun V hV => by
    have := contains_any u T 30 #[] emC V (HRo.out V hV) hn enters_emp (fun a b W hW => empty_any a b W)
    rwa [he] at this
  have HCl : Hid (∀ V, Below w0.heap.size w0 V → Calls Try.prog 31 #[u] V fun e w' => ∃ g cap, e = .returned (.slice (some ⟨g, 0, none⟩) T.length cap) ∧ T.length ≤ cap ∧ cap ≤ 9223372036854775807 ∧ V.heap.size ≤ g ∧ TA w' g T ∧ Below V.heap.size V w') := fun V hV => clone_any u T V (HRo.out V hV) (by omega) hn
  have HFw := Lib.hid (fun g c (f : Int) W => forwards_any (some ⟨g, 0, none⟩) T.length c f W)
  have HBw := Lib.hid (fun g c (f : Int) W => backwards_any (some ⟨g, 0, none⟩) T.length c f W)
  have HB0 := Lib.hid hb0
  have HTn := Lib.hid hTn
  have HCarl := Lib.hid HCar
  obtain ⟨k1, k2⟩ := HKc.out w0 (Below.refl _ _)
  have c1 := cell_of_one k1
  have c2 := cell_of_one k2
  obtain ⟨ua, uc, rfl, -, -⟩ := hr.slice
  clear hr hck ha he hu h1 h2 hb0 HRo hTn HCar k1 k2
  have hqi : (q : Int) < (T.length : Int) := by omega
  go_enter Try.func12, Try.ntmps12
  go_wp2_with fail
  rw [← hw0]
  clear hw0
  refine (HCk.out _ (Below.refl _ _)).mono ?_
  rintro e w1 ⟨rfl, hb1⟩
  have HB1 := Lib.hid hb1
  clear hb1 c1 c2
  go_wp2_with fail
  refine (HC1.out _ HB1.out).mono ?_
  rintro e w2 ⟨rfl, hb2⟩
  have HB2 := Lib.hid (HB1.out.trans (hb2.mono HB1.out.size))
  clear hb2
  go_wp2_with fail
  refine (HC2.out _ HB2.out).mono ?_
  rintro e w3 ⟨rfl, hb3⟩
  have HB3 := Lib.hid (HB2.out.trans (hb3.mono HB2.out.size))
  clear hb3
  go_wp2_with fail
  refine (HCl.out _ HB3.out).mono ?_
  rintro e w4 ⟨g, cap, rfl, hc1, hc2, hg, hT, hb4⟩
  have HB4 := Lib.hid (HB3.out.trans (hb4.mono HB3.out.size))
  have HT4 := Lib.hid hT
  have hsg : w0.heap.size ≤ g := Nat.le_trans HB3.out.size hg
  have hg4 : g < w4.heap.size := hT.1
  have hs4 : w0.heap.size ≤ w4.heap.size := HB4.out.size
  clear hb4 hT HB1 HB2 HB3 HC1 HC2 HCl HCk
  go_wp2_with fail
  obtain ⟨w5, hw5⟩ : ∃ w5, w5 = w4.alloc (.cells #[.slice (some ⟨g, 0, none⟩) T.length cap] 57) := ⟨_, rfl⟩
  have hs5 : w5.heap.size = w4.heap.size + 1 := by rw [hw5, size_alloc]
  have h95 : w5.heap[w4.heap.size]? = some (.cells #[.slice (some ⟨g, 0, none⟩) T.length cap] 57 (0, 0)) := by rw [hw5]; exact heap_alloc_new _ _
  have HB45 : Hid (Below w4.heap.size w4 w5) := by rw [hw5]; exact below_made _ _
  have HB5 := Lib.hid (HB4.out.trans (HB45.out.mono hs4))
  have HT5 := Lib.hid (HT4.out.below HB45.out)
  have HD : Hid (∀ V, Below w5.heap.size w5 V → TA V g T ∧ V.heap[w4.heap.size]? = some (.cells #[.slice (some ⟨g, 0, none⟩) T.length cap] 57 (0, 0)) ∧ V.heap[w.heap.size]? = some (.cells #[.int .u32 x] 23 (0, 0)) ∧ V.heap[w.heap.size + 1]? = some (.cells #[.int .i64 (h : Int)] 3 (0, 0)) ∧ Below w.heap.size w V ∧ w5.heap.size ≤ V.heap.size) := by
    intro V hV
    have hv := HB5.out.trans (hV.mono HB5.out.size)
    exact ⟨HT5.out.below hV, (hV.block _ (by omega)).trans h95, (HKc.out V hv).1, (HKc.out V hv).2, HB0.out.trans (hv.mono (by omega)), hV.size⟩
  rw [← hw5]
  clear hw5 h95 HB4 HT4 HB45 HB5 HT5 HKc HB0
  obtain ⟨t5, k9, k1, k2, -⟩ := HD.out w5 (Below.refl _ _)
  have c9 := cell_of_one k9
  have c2 := cell_of_one k2
  clear t5 k9 k1 k2
  go_region_held3 (fun w' => w'.cell? ⟨w4.heap.size, 0, none⟩ = some (.slice (some ⟨g, 0, none⟩) T.length cap) ∧ w'.cell? ⟨w.heap.size + 1, 0, none⟩ = some (.int .i64 (h : Int))) (first | exact ⟨c9, c2⟩ | go_keep) ((first
    | (go_at_call 33; refine (HFw.out _ _ _ _).mono ?_; rintro e w6 ⟨b1, b2, rfl, -, -, hX, hb6⟩; have hb5 := (Below.refl w5.heap.size w5).drew.trans hb6; obtain ⟨t5, k9, k1, k2, -⟩ := HD.out _ hb5; have c9 := cell_of_one k9; have c2 := cell_of_one k2; clear hb6)
    | (go_at_call 32; refine (HS1.out _ _ _ _ _ _ _ t5 hc1 hc2 hX k9 k2).mono ?_; rintro e w7 ⟨rfl, hb7⟩; have hb8 := hb5.trans (hb7.mono hb5.size); obtain ⟨t7, l9, l1, l2, -⟩ := HD.out _ hb8; have c9 := cell_of_one l9; have c2 := cell_of_one l2; clear hb7 t7 l9 l1 l2)))
  all_goals
    have HB8 := Lib.hid hb8
    clear hX hb5 t5 k9 k1 k2 hb8
    go_wp2_with fail
    go_region_held3 (fun w' => w'.cell? ⟨w4.heap.size, 0, none⟩ = some (.slice (some ⟨g, 0, none⟩) T.length cap)) (first | exact c9 | go_keep) ((first
      | (go_at_call 33; refine (HFw.out _ _ _ _).mono ?_; rintro e w6 ⟨b1, b2, rfl, -, -, hX, hb6⟩; have hb5 := HB8.out.drew.trans (hb6.mono HB8.out.size); obtain ⟨t5, k9, k1, k2, -⟩ := HD.out _ hb5; have c9 := cell_of_one k9; clear hb6)
      | (go_at_call 32; refine (HS2.out _ _ _ _ _ _ t5 hc1 hc2 hX k9).mono ?_; rintro e w9 ⟨rfl, hb7⟩; have hb9 := hb5.trans (hb7.mono hb5.size); obtain ⟨t7, l9, l1, l2, l3, l4⟩ := HD.out _ hb9; have c9 := cell_of_one l9; clear hb7)))
    all_goals
      clear hX hb5 t5 k9 k1 k2 HB8 hb9
      have c2 := cell_of_one l2
      have c1 := cell_of_one l1
      obtain ⟨⟨a1, a2⟩, f1, f2⟩ := t7.2 q hqn
      have HT10 := Lib.hid (HSet.out _ _ t7)
      have HF10 : Hid (Fr w9.heap.size (fun b => b = g) w9 ((w9.setCell ⟨g, q * 2, none⟩ (.int .u32 x)).setCell ⟨g, q * 2 + 1, none⟩ (.int .i64 (h : Int)))) := Fr.setCell (Fr.setCell (Fr.refl w9.heap.size (fun b => b = g) w9) (p := ⟨g, q * 2, none⟩) (.inr rfl) _) (p := ⟨g, q * 2 + 1, none⟩) (.inr rfl) _
      have HB9 := Lib.hid l3
      have HX9 := Lib.hid l9
      clear l1 l2 l3 l9 t7
      go_wp2_with fail
      obtain ⟨wA, hwA⟩ : ∃ wA, wA = (w9.setCell ⟨g, q * 2, none⟩ (.int .u32 x)).setCell ⟨g, q * 2 + 1, none⟩ (.int .i64 (h : Int)) := ⟨_, rfl⟩
      rw [← hwA] at HT10 HF10
      rw [← hwA]
      clear hwA a1 a2 f1 f2 c1 c2
      have kA : wA.heap[w4.heap.size]? = some (.cells #[.slice (some ⟨g, 0, none⟩) T.length cap] 57 (0, 0)) := (HF10.out.block _ (by omega) (by omega)).trans HX9.out
      have HKA := Lib.hid kA
      have c9 := cell_of_one kA
      have hsA := HF10.out.size
      clear kA
      go_region_held3 (fun w' => w'.cell? ⟨w4.heap.size, 0, none⟩ = some (.slice (some ⟨g, 0, none⟩) T.length cap)) (first | exact c9 | go_keep) ((first
        | (go_at_call 38; refine (HBw.out _ _ _ _).mono ?_; rintro e wB ⟨b1, b2, rfl, hl1, hl2, hX, hb6⟩; have hbB := (Below.refl wA.heap.size wA).drew.trans hb6; have c9 := cell_of_one ((hbB.block _ (show w4.heap.size < wA.heap.size by omega)).trans HKA.out); have hg1 : b1 ≠ g := by (have hl1' : wA.heap.size ≤ b1 := hl1); omega
           have hg2 : b2 ≠ g := by (have hl2' : wA.heap.size ≤ b2 := hl2); omega
           clear hb6 hl1 hl2)
        | (go_at_call 37; refine (HS3.out _ _ _ _ _ (HT10.out.below hbB) hc1 hX hg1 hg2).mono ?_; rintro e wC ⟨rfl, hfC, hTC⟩; have hsB := hbB.size; have c9 := cell_of_one ((hfC.block _ (show w4.heap.size < wB.heap.size by omega) (by omega)).trans ((hbB.block _ (show w4.heap.size < wA.heap.size by omega)).trans HKA.out)))))
      all_goals
        go_wp2
        go_ret2
        refine ⟨_, rfl, ?_, ?_⟩
        · exact HB9.out.trans ((HF10.out.toBelow (by have := HB9.out.size; omega) (fun k hk e => by subst e; omega)).trans ((hbB.mono (by have := HB9.out.size; omega)).trans (hfC.toBelow (by have := HB9.out.size; omega) (fun k hk e => by subst e; omega))))
        · rw [← HCarl.out]
          exact hTC.row (by rw [HCarl.out]; exact hc1) hc2
end Go.Proofs.Ytjikikiconhlaaa.Pro
