/- The contract of the landed Unpack. -/
import Derived.Test.YtbjdlfeipidlbaaRecT
namespace Go.Proofs.Ytbjdlfeipidlbaa.Rec
open Go.RowKit
set_option linter.unusedVariables false

theorem OGot.fail {w w' : World} {l : List Int} {c : Int} (h : unpV l = ([], c)) (hb : Below w.heap.size w w') : OGot w (unpV l) (.returned (.tuple #[.slice none 0 0, .int .i64 c])) w' := by
  rw [h]
  exact ⟨_, rfl, hb, LRow.nil _ _ _⟩
theorem LRow.weak {B B' : Nat} {w : World} {v : Value} {L : List (List Int)} (h : WLRow B w v L) (hB : B' ≤ B) : WLRow B' w v L := by
  obtain ⟨a, cap, U, h1, h2, h3, h4, h5⟩ := h
  exact ⟨a, cap, U, h1, h2, h3, fun i hi => (h4 i hi).less hB, h5⟩
theorem Part.row2 {B : Nat} {w : World} {h n : Nat} {U : Nat → Value} {L : List (List Int)} (p : Part B w h n n U L) (hL : L.length = n) (hn : n ≤ 9223372036854775807) : WLRow B w (.slice (some ⟨h, 0, none⟩) n n) L := by
  subst hL
  exact p.row hn
theorem Row.none_ {w : World} {x : List Int} (h : x.length = 0) (a : Option Addr) (n c : Nat) (hn : n = 0) (hc : c ≤ 9223372036854775807) : Row .u8 w (.slice a n c) x := by
  obtain rfl : x = [] := List.eq_nil_of_length_eq_zero h
  subst hn
  exact ⟨a, c, rfl, Nat.zero_le _, hc, fun i hi => by simp at hi, fun h => absurd rfl h⟩
theorem Row.sub {k : IntKind} {w : World} {b off cap lo hi len : Nat} {l : List Int} (h : Row k w (.slice (some ⟨b, off, none⟩) len cap) l) (hL : l.length = len) (h1 : lo ≤ hi) (h2 : hi ≤ len) : Row k w (.slice (some ⟨b, off + lo, none⟩) (hi - lo) (cap - lo)) ((l.drop lo).take (hi - lo)) := by
  subst hL
  have h3 := Row.tail h (n := lo) (by omega)
  rw [← List.length_drop] at h3
  exact Row.take h3 (by rw [List.length_drop]; omega)

theorem cut_getD (d l : List Int) (n k : Nat) (h : k < n) : (cutP d 0 (endsOf l n)).getD k [] = (d.drop (begOf l k)).take (endAt l k - begOf l k) := by
  have h1 := cutP_get d 0 (endsOf l n) k (by rw [endsOf_length]; exact h)
  rw [prev_ends _ _ _ h, endsOf_get _ _ _ h] at h1
  simp [List.getD, h1]
theorem bytes_sub {l : List Int} (h : ∀ i, 0 ≤ l.getD i 0 ∧ l.getD i 0 < 256) (a n : Nat) : ∀ i, 0 ≤ ((l.drop a).take n).getD i 0 ∧ ((l.drop a).take n).getD i 0 < 256 := by
  intro i
  by_cases hi : i < n
  · have := h (a + i)
    simpa [List.getD, hi] using this
  · simp [List.getD, List.getElem?_eq_none (show ((l.drop a).take n).length ≤ i by rw [List.length_take]; omega)]

set_option maxRecDepth 100000 in
set_option maxHeartbeats 4000000 in
theorem unpack_any (v : Value) (l : List Int) (w : World) (hr : Row .u8 w v l) (hl : l.length ≤ 1000000000) :
    Calls Try.prog 21 #[v] w (OGot w (unpV l)) := by
  obtain ⟨iS, hiS, hzS0, hzS1, hzS2⟩ := info_parts infoBs
  have HB := Lib.hid hr.bytes
  have HRow := Lib.hid hr
  have HRE := Lib.hid (readEnds_any v l w hr hl)
  by_cases h0 : rdE l = 0
  · obtain ⟨n, hn, hn1, hn16, hn2, hri, hun⟩ := rd_ok l hr.bytes h0
    obtain ⟨ad, cap, rfl, q2, q3, q4, q5⟩ := hr
    have HE0 := Lib.hid h0
    have HN := Lib.hid hn
    have HRi := Lib.hid hri
    have HUN := Lib.hid hun
    obtain ⟨b, off, rfl, hlb, -⟩ := q5 (by rintro rfl; simp at hn2)
    obtain ⟨s, hs⟩ : ∃ s, s = 2 + 2 * n := ⟨_, rfl⟩
    have HSn := Lib.hid hs
    have HA := Lib.hid (fun w0 => endAt_any n s w0 (by omega) hs.symm)
    have hs2 : s ≤ 34 := by omega
    have hsl : s ≤ l.length := by omega
    clear q4 q5 h0 hn hri hun hs hn2
    go_enter Try.func21, Try.ntmps21
    go_wp2_with fail
    refine HRE.out.mono ?_
    rintro e w1 ⟨u1, rfl, hb1, -, hrow1⟩
    have hr1 := hrow1 HE0.out
    rw [HN.out, Int.toNat_natCast] at hr1
    rw [HE0.out]
    have HR1 := Lib.hid hr1
    have HV1 := Lib.hid (HRow.out.mono hb1 (Nat.le_refl _))
    obtain ⟨ad1, cap1, rfl, p2, p3, -, p5⟩ := hr1
    rw [ints_length, endsOf_length] at p2 p5 HR1 ⊢
    obtain ⟨b1, off1, rfl, hlb1, hc1⟩ := p5 (by intro e; have := congrArg List.length e; rw [ints_length, endsOf_length] at this; simp at this; omega)
    have HC1 := Lib.hid hc1
    have HB1 := Lib.hid hb1
    have hZ2 := (endAt_bd HB.out (n - 1)).2
    have HF := Lib.hid (filled_any _ _ l (endsOf l n) n (endAt l (n - 1)) w1 HV1.out HR1.out (endsOf_length _ _) hn1 hn16 (endsOf_get _ _ _ (by omega)) hZ2)
    obtain ⟨F, hF⟩ : ∃ F, F = fillE l.length (2 + 2 * n + endAt l (n - 1)) := ⟨_, rfl⟩
    rw [← hF] at HF HUN
    have HFF := Lib.hid hF
    clear hrow1 hc1 p5 HRE hZ2 hb1 hF
    by_cases hf : F = 0
    · subst hf
      have hu := HUN.out
      rw [if_pos rfl] at hu
      have HU := Lib.hid hu
      have HEQ : Hid (2 + 2 * n + endAt l (n - 1) = l.length) := by
        have h1 := HFF.out
        unfold fillE at h1
        unfold Hid
        split at h1
        · omega
        · split at h1 <;> omega
      obtain ⟨C, hC⟩ : ∃ C, C = cutP (l.drop (2 + 2 * n)) 0 (endsOf l n) := ⟨_, rfl⟩
      have HCC := Lib.hid hC
      have hCl : C.length = n := by rw [hC, cut_length, endsOf_length]
      have HCL := Lib.hid hCl
      rw [← hC] at HU
      obtain ⟨D, hD⟩ : ∃ D, D = l.length - s := ⟨_, rfl⟩
      have HDD := Lib.hid hD
      have hdl : (l.drop s).length = D := by rw [List.length_drop, hD]
      have HDL := Lib.hid hdl
      have hcase : (s = cap ∧ Hid (D = 0)) ∨ ¬ cap = s := by
        by_cases h : cap = s
        · exact .inl ⟨h.symm, by unfold Hid; omega⟩
        · exact .inr h
      have hsi : (0 : Int) ≤ (s : Int) := by omega
      have hsi2 : (s : Int) ≤ (l.length : Int) := by omega
      clear hu HUN hC hCl hdl HFF
      rcases hcase with ⟨rfl, hD0⟩ | hcs
      · go_wp2_with fail
        refine HF.out.mono ?_
        rintro e w2 ⟨rfl, hm2⟩
        have HB2 := Lib.hid (below_drawn (Below.refl w1.heap.size w1) hm2)
        clear hm2
        go_wp2_with fail
        refine (HA.out _).mono ?_
        rintro e w' ⟨rfl, rfl⟩
        go_wp2_with (refine wpList_make_row rfl (.tmp 32) (.tmp 32) 38 rfl 22 iS (.slice none 0 0) 24 Try.underlying38 hiS hzS0 hzS1 hzS2 .i64 .i64 n rfl rfl (by omega) (by omega) ?_)
        have HM : Hid (Part w2.heap.size (w2.alloc (.cells (madeCells #[Value.slice none 0 0] n) 22)) w2.heap.size n 0 (fun _ => .slice none 0 0) C) :=
          ⟨Nat.le_refl _, CellsAt.made w2 _ _ _, fun i hi => by omega⟩
        have HB0 : Hid (Below w2.heap.size w2 (w2.alloc (.cells (madeCells #[Value.slice none 0 0] n) 22))) := below_made w2 _
        obtain ⟨w0, hw0⟩ : ∃ w0, w0 = w2.alloc (.cells (madeCells #[Value.slice none 0 0] n) 22) := ⟨_, rfl⟩
        rw [← hw0] at HM HB0 ⊢
        clear hw0
        go_wp2
        go_loopw [9, 36] (fun bv i wr => ∃ (k : Nat) (U : Nat → Value), k ≤ n ∧ i = .int .i64 k ∧ bv = .int .i64 (begOf l k) ∧ Hid (Part w2.heap.size wr w2.heap.size n k U C) ∧ Hid (Below w2.heap.size w2 wr)) (fun _ i _ => n - (intOf i).toNat)
        case atStart => exact ⟨0, _, Nat.zero_le _, rfl, rfl, HM.out, HB0.out⟩
        case round =>
          obtain ⟨k, U, hk, rfl, rfl, HP, HBl⟩ := hrel
          by_cases hlt : k < n
          · have hlt1 : (k : Int) < (n : Int) := by omega
            have hbd := ends_bounds l n k HRi.out hlt
            have hd := ((HBl.out.cell (p := ⟨b1, off1 + k, none⟩) (by have := HB2.out.size; simp only []; omega)).trans (HB2.out.cell (p := ⟨b1, off1 + k, none⟩) hlb1)).trans (HC1.out k hlt)
            rw [ints_get _ _ (by rw [endsOf_length]; exact hlt), endsOf_get _ _ _ hlt] at hd
            have hvr := HV1.out.mono (HB2.out.trans (HBl.out.mono HB2.out.size)) (Nat.le_refl _)
            have hEQ := HEQ.out
            obtain ⟨Bg, hBg⟩ : ∃ Bg, Bg = begOf l k := ⟨_, rfl⟩
            obtain ⟨E, hE⟩ : ∃ E, E = endAt l k := ⟨_, rfl⟩
            rw [← hBg, ← hE] at hbd
            rw [← hE] at hd
            have hED : E ≤ D := by have := HDD.out; have := HSn.out; omega
            obtain ⟨x, hx⟩ : ∃ x, x = C.getD k [] := ⟨_, rfl⟩
            have hx2 : x = ((l.drop s).drop Bg).take (E - Bg) := by rw [hx, HCC.out, ← HSn.out, cut_getD _ _ _ _ hlt, hBg, hE]
            have HXl : Hid (x.length = E - Bg) := by unfold Hid; rw [hx2, List.length_take, List.length_drop, HDL.out]; omega
            have HXB : Hid (∀ i, 0 ≤ x.getD i 0 ∧ x.getD i 0 < 256) := by
              unfold Hid
              rw [hx2]
              exact bytes_sub (fun i => by have := HB.out (s + i); simpa [List.getD] using this) Bg (E - Bg)
            have HX63 : Hid (x.length ≤ 9223372036854775807) := by unfold Hid; have := HXl.out; have := HDD.out; omega
            have HX := Lib.hid hx
            have HEk := Lib.hid hE
            rw [← hBg]
            have hE0 : E = 0 := by have := hD0.out; omega
            have hB0 : Bg = 0 := by omega
            have HR0 : Hid (Row .u8 wr (.slice (some ⟨b, off, none⟩) 0 0) x) := Row.none_ (by have := HXl.out; omega) _ _ _ rfl (by omega)
            have HO := Lib.hid (own_any _ x wr HR0.out (by have := HXl.out; omega))
            have HXl0 : Hid (x.length = 0) := by unfold Hid; have := HXl.out; omega
            rw [hE0] at hd HEk
            rw [hB0]
            clear hE hBg hbd hED hx hx2 hvr hE0 hB0 hEQ
            go_wp2_with fail
            refine HO.out.mono ?_
            rintro e w3 ⟨rfl, hw3⟩
            have hal : Below wr.heap.size wr w3 := by rw [hw3]; exact below_made _ _
            obtain ⟨g1, g2⟩ := (HP.out.2.1.mono hal (Nat.le_refl _)).2 k hlt
            have hlt0 := HP.out.2.1.1
            have HP2 := Lib.hid (HP.out.step hlt x HX.out HXB.out HX63.out 5)
            rw [← hw3] at HP2
            have HBl2 : Hid (Below w2.heap.size w2 (w3.setCell ⟨w2.heap.size, k, none⟩ (.slice (some ⟨wr.heap.size, 0, none⟩) x.length x.length))) :=
              (HBl.out.trans (hal.mono HBl.out.size)).setCell (Nat.le_refl _) _
            clear hw3 HP HX HXB HM hal HBl HXl
            go_wp2
            go_roundw
            case rel => exact ⟨k + 1, _, by omega, by go_num, by show _ = Value.int .i64 ((endAt l k : Nat) : Int); rw [← HEk.out]; rfl, HP2, HBl2⟩
            case measure => simp [intOf]; omega
          · have hkn : k = n := by omega
            subst hkn
            have hlast := HP.out
            have hcl := HCL.out
            have HE : Hid (WLRow w2.heap.size wr (.slice (some ⟨w2.heap.size, 0, none⟩) k k) C) := Part.row2 hlast hcl (by omega)
            have HEnd : Hid (OGot w (unpV l) (.returned (.tuple #[.slice (some ⟨w2.heap.size, 0, none⟩) k k, .int .i64 0])) wr) := by
              unfold Hid
              rw [HU.out]
              exact ⟨_, rfl, HB1.out.trans ((HB2.out.mono HB1.out.size).trans (HBl.out.mono (Nat.le_trans HB1.out.size HB2.out.size))), LRow.weak HE.out (Nat.le_trans HB1.out.size HB2.out.size)⟩
            clear hlast hcl
            go_wp2
            go_ret2
            exact HEnd.out
      · go_wp2_with fail
        refine HF.out.mono ?_
        rintro e w2 ⟨rfl, hm2⟩
        have HB2 := Lib.hid (below_drawn (Below.refl w1.heap.size w1) hm2)
        clear hm2
        go_wp2_with fail
        refine (HA.out _).mono ?_
        rintro e w' ⟨rfl, rfl⟩
        go_wp2_with (refine wpList_make_row rfl (.tmp 32) (.tmp 32) 38 rfl 22 iS (.slice none 0 0) 24 Try.underlying38 hiS hzS0 hzS1 hzS2 .i64 .i64 n rfl rfl (by omega) (by omega) ?_)
        have HM : Hid (Part w2.heap.size (w2.alloc (.cells (madeCells #[Value.slice none 0 0] n) 22)) w2.heap.size n 0 (fun _ => .slice none 0 0) C) :=
          ⟨Nat.le_refl _, CellsAt.made w2 _ _ _, fun i hi => by omega⟩
        have HB0 : Hid (Below w2.heap.size w2 (w2.alloc (.cells (madeCells #[Value.slice none 0 0] n) 22))) := below_made w2 _
        obtain ⟨w0, hw0⟩ : ∃ w0, w0 = w2.alloc (.cells (madeCells #[Value.slice none 0 0] n) 22) := ⟨_, rfl⟩
        rw [← hw0] at HM HB0 ⊢
        clear hw0
        go_wp2
        go_loopw [9, 36] (fun bv i wr => ∃ (k : Nat) (U : Nat → Value), k ≤ n ∧ i = .int .i64 k ∧ bv = .int .i64 (begOf l k) ∧ Hid (Part w2.heap.size wr w2.heap.size n k U C) ∧ Hid (Below w2.heap.size w2 wr)) (fun _ i _ => n - (intOf i).toNat)
        case atStart => exact ⟨0, _, Nat.zero_le _, rfl, rfl, HM.out, HB0.out⟩
        case round =>
          obtain ⟨k, U, hk, rfl, rfl, HP, HBl⟩ := hrel
          by_cases hlt : k < n
          · have hlt1 : (k : Int) < (n : Int) := by omega
            have hbd := ends_bounds l n k HRi.out hlt
            have hd := ((HBl.out.cell (p := ⟨b1, off1 + k, none⟩) (by have := HB2.out.size; simp only []; omega)).trans (HB2.out.cell (p := ⟨b1, off1 + k, none⟩) hlb1)).trans (HC1.out k hlt)
            rw [ints_get _ _ (by rw [endsOf_length]; exact hlt), endsOf_get _ _ _ hlt] at hd
            have hvr := HV1.out.mono (HB2.out.trans (HBl.out.mono HB2.out.size)) (Nat.le_refl _)
            have hEQ := HEQ.out
            obtain ⟨Bg, hBg⟩ : ∃ Bg, Bg = begOf l k := ⟨_, rfl⟩
            obtain ⟨E, hE⟩ : ∃ E, E = endAt l k := ⟨_, rfl⟩
            rw [← hBg, ← hE] at hbd
            rw [← hE] at hd
            have hED : E ≤ D := by have := HDD.out; have := HSn.out; omega
            obtain ⟨x, hx⟩ : ∃ x, x = C.getD k [] := ⟨_, rfl⟩
            have hx2 : x = ((l.drop s).drop Bg).take (E - Bg) := by rw [hx, HCC.out, ← HSn.out, cut_getD _ _ _ _ hlt, hBg, hE]
            have HXl : Hid (x.length = E - Bg) := by unfold Hid; rw [hx2, List.length_take, List.length_drop, HDL.out]; omega
            have HXB : Hid (∀ i, 0 ≤ x.getD i 0 ∧ x.getD i 0 < 256) := by
              unfold Hid
              rw [hx2]
              exact bytes_sub (fun i => by have := HB.out (s + i); simpa [List.getD] using this) Bg (E - Bg)
            have HX63 : Hid (x.length ≤ 9223372036854775807) := by unfold Hid; have := HXl.out; have := HDD.out; omega
            have HX := Lib.hid hx
            have HEk := Lib.hid hE
            rw [← hBg]
            have HR0 : Hid (Row .u8 wr (.slice (some ⟨b, off + s + Bg, none⟩) (E - Bg) (cap - s - Bg)) x) := by
              have h1 := Row.sub (lo := s + Bg) (hi := s + E) hvr rfl (by omega) (by omega)
              rw [show s + E - (s + Bg) = E - Bg by omega, ← List.drop_drop, ← hx2] at h1
              rw [← Nat.add_assoc, Nat.sub_add_eq] at h1
              exact h1
            have HO1 : Hid (∀ a c m, m = E - Bg → E - Bg = 0 → c ≤ 9223372036854775807 → Calls Try.prog 34 #[.slice a m c] wr fun e w' => e = .returned (.slice (some ⟨wr.heap.size, 0, none⟩) x.length x.length) ∧ w' = wr.alloc (.cells (vals x).toArray 5)) := by
              intro a c m hm h0 hc
              exact own_any _ x wr (Row.none_ (by have := HXl.out; omega) _ _ _ (by omega) hc) (by have := HXl.out; omega)
            have HO2 := Lib.hid (own_any _ x wr HR0.out (by have := HXl.out; omega))
            have hz1 : (0 : Int) ≤ (Bg : Int) := by omega
            have hz2 : (Bg : Int) ≤ (E : Int) := by omega
            have hz3 : (E : Int) ≤ ((cap - s : Nat) : Int) := by have := HDD.out; omega
            have hcl : (cap - s = Bg ∧ Hid (E - Bg = 0)) ∨ ¬ cap - s = Bg := by
              by_cases h : cap - s = Bg
              · exact .inl ⟨h, by unfold Hid; have := HDD.out; omega⟩
              · exact .inr h
            clear hE hBg hbd hED hx hx2 hvr hEQ
            rcases hcl with ⟨rfl, hz0⟩ | hcl
            all_goals
              go_wp2_with fail
              first
                | refine (HO1.out _ _ _ rfl hz0.out (by omega)).mono ?_
                | refine HO2.out.mono ?_
              rintro e w3 ⟨rfl, hw3⟩
              have hal : Below wr.heap.size wr w3 := by rw [hw3]; exact below_made _ _
              obtain ⟨g1, g2⟩ := (HP.out.2.1.mono hal (Nat.le_refl _)).2 k hlt
              have hlt0 := HP.out.2.1.1
              have HP2 := Lib.hid (HP.out.step hlt x HX.out HXB.out HX63.out 5)
              rw [← hw3] at HP2
              have HBl2 : Hid (Below w2.heap.size w2 (w3.setCell ⟨w2.heap.size, k, none⟩ (.slice (some ⟨wr.heap.size, 0, none⟩) x.length x.length))) :=
                (HBl.out.trans (hal.mono HBl.out.size)).setCell (Nat.le_refl _) _
              clear hw3 HP HX HXB HM hal HBl HXl
              go_wp2
              go_roundw
              case rel => exact ⟨k + 1, _, by omega, by go_num, by show _ = Value.int .i64 ((endAt l k : Nat) : Int); rw [← HEk.out], HP2, HBl2⟩
              case measure => simp [intOf]; omega
          · have hkn : k = n := by omega
            subst hkn
            have hlast := HP.out
            have hcl := HCL.out
            have HE : Hid (WLRow w2.heap.size wr (.slice (some ⟨w2.heap.size, 0, none⟩) k k) C) := Part.row2 hlast hcl (by omega)
            have HEnd : Hid (OGot w (unpV l) (.returned (.tuple #[.slice (some ⟨w2.heap.size, 0, none⟩) k k, .int .i64 0])) wr) := by
              unfold Hid
              rw [HU.out]
              exact ⟨_, rfl, HB1.out.trans ((HB2.out.mono HB1.out.size).trans (HBl.out.mono (Nat.le_trans HB1.out.size HB2.out.size))), LRow.weak HE.out (Nat.le_trans HB1.out.size HB2.out.size)⟩
            clear hlast hcl
            go_wp2
            go_ret2
            exact HEnd.out
    · have hu := HUN.out
      rw [if_neg hf] at hu
      have HEnd : Hid (∀ w', Below w.heap.size w w' → OGot w (unpV l) (.returned (.tuple #[.slice none 0 0, .int .i64 F])) w') := fun w' h => OGot.fail hu h
      have hf2 : (F != 0) = true := by simpa using hf
      clear hf hu HUN HFF
      go_wp2_with fail
      refine HF.out.mono ?_
      rintro e w2 ⟨rfl, hm2⟩
      have HB2 := Lib.hid (below_drawn (Below.refl w1.heap.size w1) hm2)
      clear hm2
      go_wp2
      go_ret2
      exact HEnd.out _ (HB1.out.trans (HB2.out.mono HB1.out.size))
  · have hun := unp_rd l h0
    obtain ⟨c, hc⟩ : ∃ c, c = rdE l := ⟨_, rfl⟩
    have HEnd : Hid (∀ w', Below w.heap.size w w' → OGot w (unpV l) (.returned (.tuple #[.slice none 0 0, .int .i64 c])) w') := fun w' h => OGot.fail (by rw [hun, hc]) h
    have HCc := Lib.hid hc
    have hne : (c != 0) = true := by rw [← hc] at h0; simpa using h0
    obtain ⟨ad, cap, rfl, -, -, -, -⟩ := hr
    clear hun h0 hc
    go_enter Try.func21, Try.ntmps21
    go_wp2_with fail
    refine HRE.out.mono ?_
    rintro e w1 ⟨u1, rfl, hb1, ⟨a1, n1, c1, rfl⟩, -⟩
    rw [← HCc.out]
    go_wp2
    go_ret2
    exact HEnd.out _ hb1
end Go.Proofs.Ytbjdlfeipidlbaa.Rec
