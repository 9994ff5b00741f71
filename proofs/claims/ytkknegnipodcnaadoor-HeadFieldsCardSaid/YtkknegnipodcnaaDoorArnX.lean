/- Contracts of the landed arena: what is written. -/
import Derived.Test.YtkknegnipodcnaaDoorArnW
import Derived.Lib.SliceRun
namespace Go.Proofs.YtkknegnipodcnaaDoor.Arn
open Go.RowKit Num
set_option linter.unusedVariables false

theorem Fr.setRow {N : Nat} {S : Nat → Prop} {a w : World} (h : Fr N S a w) {g : Nat} (hg : S g) (cs : Array Value) : Fr N S a (w.setRow g cs) :=
  h.trans ⟨rfl, rfl, rfl, by simp [World.setRow], fun k _ hs => setRow_other w g k cs (by rintro rfl; exact hs hg)⟩
theorem Fr.setCells {N : Nat} {S : Nat → Prop} {a : World} {g : Nat} (hg : S g) : ∀ (vs : List Value) (o : Nat) (w : World), Fr N S a w → Fr N S a (w.setCells g o vs)
  | [], _, _, h => h
  | v :: r, o, w, h => Fr.setCells hg r (o + 1) _ (h.setCell (p := ⟨g, o, none⟩) (.inr hg) v)
theorem wrL_cons (l : List Int) (o : Nat) (x : Int) (r : List Int) (h : o + (r.length + 1) ≤ l.length) : wrL (l.set o x) (o + 1) r = wrL l o (x :: r) := by
  unfold wrL
  rw [List.length_cons, List.drop_set_of_lt (by omega), List.take_set, List.set_eq_take_append_cons_drop, if_pos (by rw [List.length_take]; omega), List.take_take, Nat.min_eq_left (by omega), List.drop_eq_nil_of_le (by rw [List.length_take]; omega), List.append_assoc, show o + 1 + r.length = o + (r.length + 1) by omega]
  rfl
theorem wrL_nil (l : List Int) (o : Nat) : wrL l o [] = l := by simp [wrL]
theorem heap_setCells_own {g : Nat} {t : TypeId} {fr : Nat × Nat} : ∀ (vs : List Int) (o : Nat) (w : World) (l : List Int), w.heap[g]? = some (.cells (vals l).toArray t fr) → o + vs.length ≤ l.length → (w.setCells g o (vals vs)).heap[g]? = some (.cells (vals (wrL l o vs)).toArray t fr)
  | [], o, w, l, h, _ => by rw [wrL_nil]; exact h
  | v :: r, o, w, l, h, hl => by
    have h1 := heap_setCell_own (o := o) h (.int .u8 v)
    rw [vals_set] at h1
    have := heap_setCells_own r (o + 1) _ _ h1 (by rw [List.length_set]; simp only [List.length_cons] at hl; omega)
    rw [wrL_cons _ _ _ _ (by simp only [List.length_cons] at hl; omega)] at this
    exact this
theorem vals_zeros (n : Nat) : vals (List.replicate n 0) = List.replicate n (.int .u8 0) := by simp [vals]
theorem zeroU8 : ∀ w, (zeroValue 5).run Tryd.prog w = .ok (.int .u8 0) w := by
  intro w
  kernel_rfl

set_option maxRecDepth 100000 in
theorem fillC_any (b o n : Nat) (l X Y : List Int) (u : Value) (w : World) (hb : w.heap[b]? = some (.cells (vals l).toArray 5 (0, 0))) (hfit : o + n ≤ l.length) (hl : l.length ≤ 1048576) (hx : Row .u8 w u X) (hY : Y.length = n) (hXY : X = Y ∨ X = [] ∧ Y = List.replicate n 0) :
    Calls Tryd.prog 68 #[u, .slice (some ⟨b, o, none⟩) n n] w fun e w' => e = .returned (.tuple #[]) ∧ w'.heap[b]? = some (.cells (vals (wrL l o Y)).toArray 5 (0, 0)) ∧ Fr w.heap.size (fun k => k = b) w w' := by
  have hcl0 : ∀ ty W, (Builtin.clear_ #[27] ty #[.slice (some ⟨b, o, none⟩) 0 0]).run Tryd.prog W = .ok (.tuple #[]) W := fun ty W => by
    simp [Builtin.clear_, run_underlying (P := Tryd.prog) Tryd.underlying27]
  by_cases hn : n = 0
  · subst hn
    obtain rfl : Y = [] := List.length_eq_zero_iff.1 hY
    obtain rfl : X = [] := by rcases hXY with h | ⟨h, -⟩ <;> exact h
    obtain ⟨ad, cap, rfl, -, -, -, -⟩ := hx
    have HW := Lib.hid (show w.heap[b]? = some (.cells (vals (wrL l o [])).toArray 5 (0, 0)) by rw [wrL_nil]; exact hb)
    clear hb hXY
    go_enter Tryd.func68, Tryd.ntmps68
    go_wp2_with (refine wpList_copy_nothing rfl (.tmp 5) (.tmp 6) 27 117 rfl 5 Tryd.underlying27 (by kernel_rfl) _ _ _ _ _ _ rfl rfl rfl ?_)
    go_wp2
    refine bodyPost_end (results_none rfl _ _ _) rfl ⟨rfl, HW.out, Fr.refl _ _ _⟩
  have hn1 : 0 < n := by omega
  have hnn : (0 : Int) ≤ (n : Int) := by omega
  rcases hXY with rfl | ⟨rfl, rfl⟩
  · have hxl : X.length = n := hY
    have HBy := Lib.hid hx.bytes
    obtain ⟨ad, cap, rfl, q2, q3, q4, q5⟩ := hx
    obtain ⟨xb, xo, rfl, hxb, hxc⟩ := q5 (by rintro rfl; simp at hY; omega)
    subst hxl
    have HS : Hid (∀ j v, (vals X)[j]? = some v → w.cell? ((⟨xb, xo, none⟩ : Addr).add j) = some v) := by
      intro j v hj
      obtain ⟨hj2, -⟩ := List.getElem?_eq_some_iff.1 hj
      rw [vals_length] at hj2
      rw [vals_get _ _ hj2] at hj
      rw [Addr_add, ← hj]
      exact hxc j hj2
    have HL : Hid ((vals X).length = Nat.min X.length X.length) := by unfold Hid; rw [vals_length]; simp
    have HF : Hid (o + (vals X).length ≤ (vals l).toArray.size) := by unfold Hid; rw [vals_length, List.size_toArray, vals_length]; exact hfit
    have HR : Hid (((vals l).toArray.toList.take o ++ (vals X ++ (vals l).toArray.toList.drop (o + (vals X).length))).toArray = (vals (wrL l o X)).toArray) := by
      unfold Hid; rw [vals_length]; simp [vals, wrL]
    have HG := Lib.hid hb
    obtain ⟨w1, hw1⟩ : ∃ w1, w1 = w.setRow b (vals (wrL l o X)).toArray := ⟨_, rfl⟩
    have HW1 : Hid (w1.heap[b]? = some (.cells (vals (wrL l o X)).toArray 5 (0, 0))) := by rw [hw1]; exact setRow_heap _ _ _ _ _ _ hb
    have HFr : Hid (Fr w.heap.size (fun k => k = b) w w1) := by rw [hw1]; exact Arn.Fr.setRow (S := fun k => k = b) (Fr.refl _ _ _) rfl _
    have HE := Lib.hid hw1.symm
    have HV := Lib.hid (vals_oneCell X)
    have HVL := Lib.hid (vals_length X)
    clear hb hxc q5 q4 hY hfit hw1
    go_enter Tryd.func68, Tryd.ntmps68
    go_wp2_with (refine wpList_copy_row rfl (.tmp 5) (.tmp 6) 27 117 rfl 5 Tryd.underlying27 (by kernel_rfl) b o X.length X.length ⟨xb, xo, none⟩ X.length cap rfl rfl (vals l).toArray 5 HG.out (vals X) HL.out HS.out HF.out HV.out (vals (wrL l o X)).toArray HR.out w1 HE.out ?_; rw [HVL.out])
    go_wp2
    refine bodyPost_end (results_none rfl _ _ _) rfl ⟨rfl, HW1.out, HFr.out⟩
  · obtain ⟨ad, cap, rfl, -, -, -, -⟩ := hx
    obtain ⟨w1, hw1⟩ : ∃ w1, w1 = w.setCells b o (List.replicate n (.int .u8 0)) := ⟨_, rfl⟩
    have hcl : ∀ ty, (Builtin.clear_ #[27] ty #[.slice (some ⟨b, o, none⟩) n n]).run Tryd.prog w = .ok (.tuple #[]) w1 := fun ty => by
      rw [hw1]
      refine Lib.run_clear_slice w _ 5 ty (.int .u8 0) Tryd.underlying27 zeroU8 rfl rfl b o n n hn1 (fun j hj => ?_) (fun j hj => ?_)
      · rw [cell_block hb, List.getElem?_toArray, vals_get _ _ (by omega)]; rfl
      · unfold World.frozen?; simp only [hb]; simp
    have HW1 : Hid (w1.heap[b]? = some (.cells (vals (wrL l o (List.replicate n 0))).toArray 5 (0, 0))) := by
      rw [hw1, ← vals_zeros]
      exact heap_setCells_own _ _ _ _ hb (by rw [List.length_replicate]; exact hfit)
    have HFr : Hid (Fr w.heap.size (fun k => k = b) w w1) := by rw [hw1]; exact Arn.Fr.setCells (S := fun k => k = b) rfl _ _ _ (Fr.refl _ _ _)
    clear hb hY hfit hw1
    go_enter Tryd.func68, Tryd.ntmps68
    go_wp2_with (refine wpList_copy_nothing rfl (.tmp 5) (.tmp 6) 27 117 rfl 5 Tryd.underlying27 (by kernel_rfl) _ _ _ _ _ _ rfl rfl (Nat.zero_min _) ?_)
    go_wp2
    refine bodyPost_end (results_none rfl _ _ _) rfl ⟨rfl, HW1.out, HFr.out⟩

/-- What a writing call of the code comes to: the arena lies where it lay. -/
def WroteC (w : World) (v : Value) (h : Hn) (r : List Int × Int) (e : Ending) (w' : World) : Prop :=
  e = .returned (.int .i64 r.2) ∧ ArC h w' v r.1 ∧ Fr w.heap.size (blkC h) w w'
theorem WroteC.s {w w' : World} {v : Value} {h : Hn} {r : List Int × Int} {e : Ending} (hw : WroteC w v h r e w') : WroteS blkC ArC w v h r e w' :=
  ⟨hw.1, h, hw.2.1, fun k hk => .inl hk, hw.2.2⟩
/-- What a change comes to, where it may. -/
def chg (l : List Int) (a n : Int) (Y : List Int) : List Int × Int := if fitB l.length a n then (wrL l a.toNat Y, 0) else (l, 6)
set_option maxRecDepth 100000 in
theorem changeC_any (h : Hn) (v : Value) (l : List Int) (a n : Int) (u : Value) (X Y : List Int) (w : World) (ha : ArC h w v l) (h64 : is64 a) (hx : Row .u8 w u X) (hY : fitB l.length a n = true → Y.length = n.toNat ∧ (X = Y ∨ X = [] ∧ Y = List.replicate n.toNat 0)) (hYb : IsBytes Y) :
    Calls Tryd.prog 67 #[v, .int .i64 a, .int .i64 n, .func (.func 68) #[u] #[]] w (WroteC w v h (chg l a n Y)) := by
  have hl := ha.len
  by_cases hf : fitB l.length a n = true
  · obtain ⟨x, y, rfl, rfl, hxy⟩ := fitB_nat hf
    have hr : chg l x y Y = (wrL l x Y, 0) := by rw [chg, if_pos hf]; rfl
    obtain ⟨y1, y2⟩ := hY hf
    rw [Int.toNat_natCast] at y1 y2
    rw [hr]
    have HV := Lib.hid (viewC_yes h v l x y w ha hxy)
    have hfit : vwA x y + y ≤ l.length := by unfold vwA; split <;> omega
    have hwr : wrL l (vwA x y) Y = wrL l x Y := by
      unfold vwA
      split
      · have : Y = [] := List.length_eq_zero_iff.1 (by omega)
        rw [this, wrL_nil, wrL_nil]
      · rfl
    have HF := Lib.hid (fillC_any h.b (vwA x y) y l X Y u w ha.2.2.1 hfit (by omega) hx y1 y2)
    rw [hwr] at HF
    have HA := Lib.hid ha
    have HYb := Lib.hid hYb
    have HLen : Hid ((wrL l x Y).length = l.length) := wrL_length _ _ _ (by omega)
    obtain ⟨rfl, h1, -⟩ := ha
    obtain ⟨ad, cap, rfl, -, -, -, -⟩ := hx
    clear h1 hr hf y1 y2 hY hwr hfit hYb
    go_enter Tryd.func67, Tryd.ntmps67
    go_wp2_with fail
    refine HV.out.mono ?_
    rintro e w' ⟨rfl, rfl⟩
    go_wp2_with fail
    refine HF.out.mono ?_
    rintro e w1 ⟨rfl, hg, hfr⟩
    have HW : Hid (WroteC w (.pointer (some ⟨h.g, 0, none⟩)) h (wrL l x Y, 0) (.returned (.int .i64 0)) w1) := by
      have hne := HA.out.ne
      have hlt := HA.out.lt
      obtain ⟨a0, a1, a2, a3, a4, a5⟩ := HA.out
      refine ⟨rfl, ⟨rfl, ?_, hg, by rw [HLen.out]; exact a3, wrL_bytes _ a4 HYb.out, HLen.out.trans a5⟩, hfr.mono (Nat.le_refl _) (fun k _ hk => .inr hk)⟩
      rw [HLen.out]
      exact (hfr.block _ (hlt _ (.inl rfl)) hne).trans a1
    clear hfr hg
    go_wp2
    go_ret
    exact HW.out
  · have hf' : fitB l.length a n = false := by simpa using hf
    have hr : chg l a n Y = (l, 6) := by rw [chg, if_neg hf]
    rw [hr]
    have HV := Lib.hid (viewC_no h v l a n w ha h64 hf')
    have HW : Hid (WroteC w v h (l, 6) (.returned (.int .i64 6)) w) := ⟨rfl, ha, Fr.refl _ _ _⟩
    obtain ⟨rfl, h1, -⟩ := ha
    obtain ⟨ad, cap, rfl, -, -, -, -⟩ := hx
    clear h1 hr hf hf' hY hYb
    go_enter Tryd.func67, Tryd.ntmps67
    go_wp2_with fail
    refine HV.out.mono ?_
    rintro e w' ⟨rfl, rfl⟩
    go_wp2
    go_ret
    exact HW.out

set_option maxRecDepth 100000 in
theorem putC_any (h : Hn) (v : Value) (l : List Int) (a x y : Int) (w : World) (ha : ArC h w v l) (h0 : 0 ≤ y) (h1 : y < 18446744073709551616) :
    Calls Tryd.prog 43 #[v, .int .i64 a, .int .i64 x, .int .u64 y] w (WroteC w v h (putA l a x y)) := by
  have hl := ha.len
  have HM := Lib.hid (madeC_any h v l w ha)
  have HF := Lib.hid (fits_any y x w h0 h1)
  have HW0 : Hid (∀ e, WroteC w v h (l, e) (.returned (.int .i64 e)) w) := fun e => ⟨rfl, ha, Fr.refl _ _ _⟩
  by_cases hf : fits y x = true
  · have hw : isW x = true := by simp [fits] at hf; exact hf.1
    obtain ⟨b1, b2⟩ := isW_bd hw
    have HL := Lib.hid (load_any _ a x l w ha.row)
    by_cases hp : plc l.length a x = 0
    · obtain ⟨p1, p2, p3⟩ := plc_ok hp
      obtain ⟨m, rfl⟩ := Int.eq_ofNat_of_zero_le p1
      obtain ⟨n, rfl⟩ := Int.eq_ofNat_of_zero_le (show 0 ≤ x by omega)
      have hld : ldv l m n = (le ((l.drop m).take n), 0) := by simp [ldv, hw, hp]
      rw [hld] at HL
      have hst : ste l m n y = 0 := by rw [ste, if_pos hf, hp]
      have hr : putA l m n y = (stl l m n y, 0) := by rw [putA, if_pos hst]; rfl
      rw [hr]
      have hlen : ((l.drop m).take n).length = n := by rw [List.length_take, List.length_drop]; omega
      have hpl : plc ((l.drop m).take n).length 0 n = 0 := by rw [hlen]; unfold plc; rw [if_neg (by omega), if_pos (by simp)]
      have hst2 : ste ((l.drop m).take n) 0 n y = 0 := by rw [ste, if_pos hf, hpl]
      have hs2 : stl ((l.drop m).take n) (0 : Int).toNat (n : Int).toNat y = (parts y).take n := by
        unfold stl
        have hd : ((l.drop m).take n).drop n = [] := List.drop_eq_nil_of_le (by omega)
        rw [Int.toNat_natCast, show (0 : Int).toNat = 0 from rfl, Nat.zero_add, hd]
        simp
      obtain ⟨P, hP⟩ : ∃ P, P = (l.drop m).take n := ⟨_, rfl⟩
      have hrow : Row .u8 w (.slice (some ⟨h.b, m, none⟩) n (l.length - m)) P := by
        obtain ⟨⟨ad, cap, e, e2, e3, e4, e5⟩, -⟩ := ha.view m n (by omega)
        rw [hlen, vwA, if_neg (by omega)] at e
        injection e with e e' e''
        refine ⟨some ⟨h.b, m, none⟩, l.length - m, by rw [hP, hlen], by rw [hP, hlen]; omega, by omega, by rw [hP]; exact e4, fun hne => ?_⟩
        rw [hP] at hne ⊢
        rw [e]
        exact e5 hne
      have HS := Lib.hid (fun (W : World) (hb : Below w.heap.size w W) => store_any _ 0 n y P W (hrow.mono hb (Nat.le_refl _)) h0 h1 (by rw [hP, hlen]; omega))
      unfold Stored at HS
      rw [← hP] at hst2 hs2
      rw [hst2, hs2] at HS
      simp only [if_true] at HS
      have hpn : ((parts y).take n).length = n := by rw [List.length_take, parts_length]; omega
      have hpb : IsBytes ((parts y).take n) := IsBytes.of_mem fun z hz => IsBytes.mem (l := parts y) (parts_bd y h0 h1) (List.mem_of_mem_take hz)
      have hchg : chg l m n ((parts y).take n) = (stl l m n y, 0) := by
        rw [chg, if_pos (fitB_of (by omega))]
        simp only [Int.toNat_natCast, wrL, stl, hpn]
      have HCh := Lib.hid (fun (W : World) (u : Value) (hb : Below w.heap.size w W) (hx : Row .u8 W u ((parts y).take n)) => changeC_any h v l m n u _ ((parts y).take n) W (ha.below hb) (by unfold is64; omega) hx (fun _ => ⟨by rw [hpn]; simp, .inl rfl⟩) hpb)
      rw [hchg] at HCh
      have HA := Lib.hid ha
      obtain ⟨r, hr0⟩ : ∃ r, r = stl l m n y := ⟨_, rfl⟩
      rw [← hr0] at HCh ⊢
      obtain ⟨q, hq0⟩ : ∃ q, q = (parts y).take n := ⟨_, rfl⟩
      rw [← hq0] at HCh HS
      obtain ⟨s, hs⟩ : ∃ s : Nat, s = m + n := ⟨_, rfl⟩
      have w2 : IntKind.i64.wrap ((m : Int) + (n : Int)) = (s : Int) := (wrap_id (by omega) (by omega)).trans (by omega)
      have e0 : (0 : Int) ≤ (m : Int) := by omega
      have e3 : (m : Int) ≤ (s : Int) := by omega
      have e4 : (s : Int) ≤ (l.length : Int) := by omega
      have e5 : ¬ l.length = m := by omega
      have e6 : ¬ l.length - m = 0 := by omega
      have hsub : s - m = n := by omega
      obtain ⟨ld, hld0⟩ : ∃ ld, ld = le ((l.drop m).take n) := ⟨_, rfl⟩
      rw [← hld0] at HL
      rw [hf] at HF
      have HCell : Hid (∀ W, Below w.heap.size w W → W.cell? ⟨h.g, 0, none⟩ = some (.slice (some ⟨h.b, 0, none⟩) l.length l.length)) := fun W hb => cell_of_one (ha.below hb).2.1
      have c1 := HCell.out w (Below.refl _ _)
      obtain ⟨rfl, h1', -⟩ := ha
      clear h1' hld0 hs hq0 hr0 hchg hpb hpn hs2 hst2 hrow hP hpl hlen hr hst hld p2 p3 hp hf hw
      go_enter Tryd.func43, Tryd.ntmps43
      go_wp2_with fail
      refine HM.out.mono ?_
      rintro e w' ⟨rfl, rfl⟩
      go_wp2_with fail
      refine HF.out.mono ?_
      rintro e w' ⟨rfl, rfl⟩
      go_wp2_with fail
      refine HL.out.mono ?_
      rintro e w1 ⟨rfl, hb1⟩
      have HB1 := Lib.hid hb1
      have c2 := HCell.out w1 hb1
      clear hb1
      go_wp2_with fail
      try simp only [hsub]
      refine (HS.out w1 HB1.out).mono ?_
      rintro e w2 ⟨u, rfl, hb2, hrow2⟩
      have HB2 := Lib.hid (HB1.out.trans (hb2.mono HB1.out.size))
      have HR2 := Lib.hid hrow2
      obtain ⟨ad, cap, rfl, -, -, -, -⟩ := hrow2
      clear hb2
      go_wp2_with fail
      refine (HCh.out w2 _ HB2.out HR2.out).mono ?_
      rintro e w3 ⟨rfl, ha', hfr⟩
      have HE : Hid (WroteC w (.pointer (some ⟨h.g, 0, none⟩)) h (r, 0) (.returned (.int .i64 0)) w3) :=
        ⟨rfl, ha', (Fr.of_below HB2.out).trans (hfr.mono HB2.out.size (fun _ _ hs => hs))⟩
      clear ha' hfr
      go_wp2
      go_ret
      exact HE.out
    · have hld : ldv l a x = (0, plc l.length a x) := by simp [ldv, hw, hp]
      rw [hld] at HL
      have hst : ste l a x y = plc l.length a x := by rw [ste, if_pos hf]
      have hr : putA l a x y = (l, plc l.length a x) := by rw [putA, if_neg (by rw [hst]; exact hp), hst]
      rw [hr]
      obtain ⟨p, hpp⟩ : ∃ p, p = plc l.length a x := ⟨_, rfl⟩
      rw [← hpp] at hp HL ⊢
      have hne : (p == 0) = false := by simpa using hp
      rw [hf] at HF
      have HA := Lib.hid ha
      obtain ⟨rfl, h1', -⟩ := ha
      have c1 := cell_of_one h1'
      clear h1' hpp hp hr hst hld hf hw
      go_enter Tryd.func43, Tryd.ntmps43
      go_wp2_with fail
      refine HM.out.mono ?_
      rintro e w' ⟨rfl, rfl⟩
      go_wp2_with fail
      refine HF.out.mono ?_
      rintro e w' ⟨rfl, rfl⟩
      go_wp2_with fail
      refine HL.out.mono ?_
      rintro e w1 ⟨rfl, hb1⟩
      have HE : Hid (WroteC w (.pointer (some ⟨h.g, 0, none⟩)) h (l, p) (.returned (.int .i64 p)) w1) := ⟨rfl, HA.out.below hb1, Fr.of_below hb1⟩
      clear hb1
      go_wp2
      go_ret
      exact HE.out
  · have hf' : fits y x = false := by simpa using hf
    have hst : ste l a x y = 2 := by rw [ste, hf']; rfl
    have hr : putA l a x y = (l, 2) := by rw [putA, if_neg (by rw [hst]; decide), hst]
    rw [hr]
    rw [hf'] at HF
    obtain ⟨rfl, h1', -⟩ := ha
    clear h1' hr hst hf hf'
    go_enter Tryd.func43, Tryd.ntmps43
    go_wp2_with fail
    refine HM.out.mono ?_
    rintro e w' ⟨rfl, rfl⟩
    go_wp2_with fail
    refine HF.out.mono ?_
    rintro e w' ⟨rfl, rfl⟩
    go_wp2
    go_ret
    exact HW0.out 2
end Go.Proofs.YtkknegnipodcnaaDoor.Arn
