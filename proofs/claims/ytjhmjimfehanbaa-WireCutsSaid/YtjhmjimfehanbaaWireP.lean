/- The walk of the statement WireCuts. -/
import Derived.Test.YtjhmjimfehanbaaWireK
namespace Go.Proofs.Ytjhmjimfehanbaa.Wire
open Go.RowKit Fold Name
set_option linter.unusedVariables false

set_option maxRecDepth 100000 in
set_option maxHeartbeats 8000000 in
theorem wireCuts_in (D : Does) (ad : Option Addr) (cap : Nat) (a : Nat) (L : List (List ByteArray)) (w : World) (hr : NRow w (.slice ad L.length cap) L) (hf : few5 L = true) (hz : (packW L).2.2 = 0) (ha : a < (packW L).1.length) :
    Calls Try.prog 6 #[.slice ad L.length cap, .int .i64 a] w fun e w' => e = .returned (.bool true) ∧ Below w.heap.size w w' := by
  have HD := Lib.hid D
  have HF := Lib.hid (fewN_any _ L w hr)
  rw [hf] at HF
  have HN := Lib.hid hr
  obtain ⟨hpk, hbl, hl64⟩ := packW_packed hz
  have HK := Lib.hid (fun u hu => D.pack (.slice ad L.length cap) L u hu hf)
  unfold PGot at HK
  rw [hz] at HK
  obtain ⟨b, hb⟩ : ∃ b, b = (packW L).1 := ⟨_, rfl⟩
  obtain ⟨ps, hps⟩ : ∃ ps, ps = (packW L).2.1 := ⟨_, rfl⟩
  rw [← hb, ← hps] at HK hpk
  rw [← hb] at hbl ha
  have hpl := hpk.1
  have HPk := Lib.hid hpk
  have ha1 : ¬ (a : Int) < 0 := by omega
  have ha2 : ¬ (b.length : Int) ≤ (a : Int) := by omega
  have ha3 : decide ((a : Int) < 0) = false := by simp
  have ha4 : decide (b.length ≤ a) = false := by simp; omega
  clear hr hf hz hb hps hpk
  go_enter Try.func6, Try.ntmps6
  go_wp2_with fail
  refine HF.out.mono ?_
  rintro e w0 ⟨rfl, rfl⟩
  go_wp2_with fail
  refine (HK.out _ HN.out).mono ?_
  rintro e w2 ⟨u1, p1, rfl, hb2', hr1, hp1⟩
  have HN2 := Lib.hid (HN.out.mono hb2' (Nat.le_refl _))
  have HB2 := Lib.hid hr1
  have HP2 := Lib.hid hp1
  obtain ⟨adb, capb, rfl, b2, b3, -, b5⟩ := hr1
  have HBc := Lib.hid b5
  obtain ⟨adp, capp, rfl, m2, m3, -, m5⟩ := hp1
  have HPc := Lib.hid m5
  rw [hpl] at HP2 m2 ⊢
  clear HF HK HN b5 m5
  obtain ⟨an, cn, U, hv, n2, n3, n4, n5⟩ := HN2.out
  injection hv with hv1 hv2 hv3
  subst hv1 hv3
  have HNc := Lib.hid n5
  have HNs := Lib.hid n4
  clear n4 n5 hv2
  simp only []
  go_wp2
  go_loopw [8] (fun i wr => ∃ k : Nat, k ≤ L.length ∧ i = .int .i64 k ∧ Below w2.heap.size w2 wr) (fun i _ => L.length - (intOf i).toNat)
  case atStart => exact ⟨0, Nat.zero_le _, rfl, Below.refl _ _⟩
  case round =>
    obtain ⟨k, hk, rfl, hbr⟩ := hrel
    by_cases hlt : k < L.length
    · have hlt1 : (k : Int) < (L.length : Int) := by omega
      obtain ⟨p, e, q1, q2, q3, q4, q5, q6, q7, q8⟩ := HPk.out.name hlt
      obtain ⟨q9, q10⟩ := HPk.out.next q2
      have hLne : L ≠ [] := by rintro rfl; simp at hlt
      have hpne : ps ≠ [] := by rintro rfl; simp at hpl; omega
      have hbne : b ≠ [] := by rintro rfl; simp at ha
      obtain ⟨bn, offn, rfl, hbn, hcn⟩ := HNc.out hLne
      obtain ⟨bp, offp, rfl, hbp, hcp⟩ := HPc.out hpne
      obtain ⟨bb, offb, rfl, hbb, -⟩ := HBc.out hbne
      have c1 := (hbr.cell (p := ⟨bn, offn + k, none⟩) hbn).trans (hcn k hlt)
      have c2 := (hbr.cell (p := ⟨bp, offp + k, none⟩) hbp).trans (hcp k (by omega))
      rw [q1] at c2
      have s1 := (HNs.out k hlt).mono hbr (Nat.le_refl _)
      have hcase : (e ≤ a ∧ getV (b.take a) (p : Int) = ((L.getD k []).map lowS, e, 0)) ∨ ((p < a ∧ a < e) ∧ getV (b.take a) (p : Int) = ([], 0, 3)) ∨ (a ≤ p ∧ getV (b.take a) (p : Int) = ([], 0, 2)) := by
        by_cases h1 : e ≤ a
        · exact .inl ⟨h1, HPk.out.whole hlt q1 q2 (by omega) h1⟩
        · by_cases h2 : p < a
          · exact .inr (.inl ⟨⟨h2, by omega⟩, HPk.out.cut hlt q1 q2 (by omega) h2 (by omega)⟩)
          · exact .inr (.inr ⟨by omega, getV_behind (by omega) (by omega)⟩)
      obtain ⟨l, hl⟩ : ∃ l, l = L.getD k [] := ⟨_, rfl⟩
      rw [← hl] at s1 hcase
      obtain ⟨V1, hV1⟩ : ∃ V1, V1 = U k := ⟨_, rfl⟩
      rw [← hV1] at c1 s1
      obtain ⟨ad1, cap1, rfl, -, -, -, -⟩ := s1
      have hbt : (b.take a).length = a := by rw [List.length_take]; omega
      have HG := Lib.hid (fun u hu => D.get (.slice (some ⟨bb, offb, none⟩) a capb) p (b.take a) u hu (by omega) (by omega) (by omega))
      have HBR := Lib.hid (Row.take (n := a) (HB2.out.mono hbr.drew (Nat.le_refl _)) (by omega))
      have hc4 := fun (h : k + 1 < L.length) => (hbr.cell (p := ⟨bp, offp + (k + 1), none⟩) hbp).trans (hcp (k + 1) (by omega))
      have g1 : (a : Int) ≤ (capb : Int) := by omega
      have g2 : 0 ≤ (a : Int) := by omega
      have g3 : a ≤ capb := by omega
      have hk0 : (k : Int) < (ps.length : Int) := by omega
      unfold Got at HG
      clear hcn hcp hl hV1 q6 q7 q8 q1 q2
      by_cases hend : k + 1 < L.length
      · have hi1 : (k : Int) + 1 < (L.length : Int) := by omega
        have e4 := hc4 hend
        rw [q9 hend] at e4
        clear q9 q10 hc4
        rcases hcase with ⟨h1, h2⟩ | ⟨⟨h1, h1'⟩, h2⟩ | ⟨h1, h2⟩
        · rw [h2] at HG
          have t1 : ((e : Nat) : Int) ≤ (a : Int) := by omega
          have t2 : (p : Int) < (a : Int) := by omega
          have t3 : ¬ (a : Int) < ((e : Nat) : Int) := by omega
          have t4 : ¬ (a : Int) ≤ (p : Int) := by omega
          clear h1 h2
          go_wp2_with fail
          go_region_with (go_at_call 8; refine (HG.out _ HBR.out).mono ?_; rintro e' w3 ⟨u3, rfl, hb3, hr3⟩)
          have hb3' := hbr.drew.trans (hb3.mono hbr.drew.size)
          have d1 := (hb3.cell (p := ⟨bn, offn + k, none⟩) (by have := hbr.size; show bn < wr.heap.size; omega)).trans c1
          have d2 := (hb3.cell (p := ⟨bp, offp + k, none⟩) (by have := hbr.size; show bp < wr.heap.size; omega)).trans c2
          obtain ⟨⟨ad3, cap3, rfl, -, -, -, -⟩, -⟩ := hr3
          rw [List.length_map]
          clear hb3 hbr c1 c2
          go_wp2
          go_roundw
          case rel => exact ⟨k + 1, by omega, by go_num, hb3'⟩
          case measure => simp [intOf]; omega
        · rw [h2] at HG
          have t1 : ¬ ((e : Nat) : Int) ≤ (a : Int) := by omega
          have t2 : (p : Int) < (a : Int) := by omega
          have t3 : (a : Int) < ((e : Nat) : Int) := by omega
          have t4 : ¬ (a : Int) ≤ (p : Int) := by omega
          clear h1 h2 h1'
          go_wp2_with fail
          go_region_with (go_at_call 8; refine (HG.out _ HBR.out).mono ?_; rintro e' w3 ⟨u3, rfl, hb3, hr3⟩)
          have hb3' := hbr.drew.trans (hb3.mono hbr.drew.size)
          have d1 := (hb3.cell (p := ⟨bn, offn + k, none⟩) (by have := hbr.size; show bn < wr.heap.size; omega)).trans c1
          have d2 := (hb3.cell (p := ⟨bp, offp + k, none⟩) (by have := hbr.size; show bp < wr.heap.size; omega)).trans c2
          clear hb3 hbr c1 c2 hr3
          go_wp2
          go_roundw
          case rel => exact ⟨k + 1, by omega, by go_num, hb3'⟩
          case measure => simp [intOf]; omega
        · rw [h2] at HG
          have t1 : ¬ ((e : Nat) : Int) ≤ (a : Int) := by omega
          have t2 : ¬ (p : Int) < (a : Int) := by omega
          have t4 : (a : Int) ≤ (p : Int) := by omega
          clear h1 h2
          go_wp2_with fail
          go_region_with (go_at_call 8; refine (HG.out _ HBR.out).mono ?_; rintro e' w3 ⟨u3, rfl, hb3, hr3⟩)
          have hb3' := hbr.drew.trans (hb3.mono hbr.drew.size)
          have d1 := (hb3.cell (p := ⟨bn, offn + k, none⟩) (by have := hbr.size; show bn < wr.heap.size; omega)).trans c1
          have d2 := (hb3.cell (p := ⟨bp, offp + k, none⟩) (by have := hbr.size; show bp < wr.heap.size; omega)).trans c2
          clear hb3 hbr c1 c2 hr3
          go_wp2
          go_roundw
          case rel => exact ⟨k + 1, by omega, by go_num, hb3'⟩
          case measure => simp [intOf]; omega
      · have hi1 : ¬ (k : Int) + 1 < (L.length : Int) := by omega
        obtain rfl : e = b.length := q10 (by omega)
        clear q9 q10 hc4
        rcases hcase with ⟨h1, h2⟩ | ⟨⟨h1, h1'⟩, h2⟩ | ⟨h1, h2⟩
        · exact absurd h1 (by omega)
        · rw [h2] at HG
          have t1 : ¬ ((b.length : Nat) : Int) ≤ (a : Int) := by omega
          have t2 : (p : Int) < (a : Int) := by omega
          have t3 : (a : Int) < ((b.length : Nat) : Int) := by omega
          have t4 : ¬ (a : Int) ≤ (p : Int) := by omega
          clear h1 h2 h1'
          go_wp2_with fail
          go_region_with (go_at_call 8; refine (HG.out _ HBR.out).mono ?_; rintro e' w3 ⟨u3, rfl, hb3, hr3⟩)
          have hb3' := hbr.drew.trans (hb3.mono hbr.drew.size)
          have d1 := (hb3.cell (p := ⟨bn, offn + k, none⟩) (by have := hbr.size; show bn < wr.heap.size; omega)).trans c1
          have d2 := (hb3.cell (p := ⟨bp, offp + k, none⟩) (by have := hbr.size; show bp < wr.heap.size; omega)).trans c2
          clear hb3 hbr c1 c2 hr3
          go_wp2
          go_roundw
          case rel => exact ⟨k + 1, by omega, by go_num, hb3'⟩
          case measure => simp [intOf]; omega
        · rw [h2] at HG
          have t1 : ¬ ((b.length : Nat) : Int) ≤ (a : Int) := by omega
          have t2 : ¬ (p : Int) < (a : Int) := by omega
          have t4 : (a : Int) ≤ (p : Int) := by omega
          clear h1 h2
          go_wp2_with fail
          go_region_with (go_at_call 8; refine (HG.out _ HBR.out).mono ?_; rintro e' w3 ⟨u3, rfl, hb3, hr3⟩)
          have hb3' := hbr.drew.trans (hb3.mono hbr.drew.size)
          have d1 := (hb3.cell (p := ⟨bn, offn + k, none⟩) (by have := hbr.size; show bn < wr.heap.size; omega)).trans c1
          have d2 := (hb3.cell (p := ⟨bp, offp + k, none⟩) (by have := hbr.size; show bp < wr.heap.size; omega)).trans c2
          clear hb3 hbr c1 c2 hr3
          go_wp2
          go_roundw
          case rel => exact ⟨k + 1, by omega, by go_num, hb3'⟩
          case measure => simp [intOf]; omega
    · obtain rfl : k = L.length := by omega
      have hbf := hb2'.trans (hbr.mono hb2'.size)
      clear hlt
      go_wp2_with fail
      refine (wires_any HD.out _).mono ?_
      rintro e w4 ⟨rfl, hb4⟩
      go_wp2
      go_ret
      exact ⟨rfl, hbf.trans (hb4.mono hbf.size)⟩

set_option maxRecDepth 100000 in
theorem wireCuts_walk (D : Does) (v : Value) (a : Int) (L : List (List ByteArray)) (w : World) (hr : NRow w v L) :
    Calls Try.prog 6 #[v, .int .i64 a] w fun e w' => e = .returned (.bool true) ∧ Below w.heap.size w w' := by
  have HD := Lib.hid D
  have HF := Lib.hid (fewN_any v L w hr)
  have HN := Lib.hid hr
  by_cases hf : few5 L = true
  · by_cases hall : (packW L).2.2 = 0 ∧ 0 ≤ a ∧ a < (packW L).1.length
    · obtain ⟨hz, h1, h2⟩ := hall
      obtain ⟨ad, cap, U, rfl, -, -, -, -⟩ := id hr
      obtain ⟨n, rfl⟩ := Int.eq_ofNat_of_zero_le h1
      exact wireCuts_in D ad cap n L w hr hf hz (by omega)
    · have HK := Lib.hid (D.pack v L w hr hf)
      unfold PGot at HK
      rw [hf] at HF
      obtain ⟨r, hrr⟩ : ∃ r, r = packW L := ⟨_, rfl⟩
      rw [← hrr] at HK hall
      obtain ⟨b, ps, c⟩ := r
      simp only [] at HK hall
      have hcase : (c != 0) = true ∨ ((c != 0) = false ∧ a < 0) ∨ ((c != 0) = false ∧ ¬ a < 0 ∧ (b.length : Int) ≤ a) := by
        by_cases h0 : c = 0
        · subst h0
          by_cases h1 : a < 0
          · exact .inr (.inl ⟨rfl, h1⟩)
          · exact .inr (.inr ⟨rfl, h1, by have := fun h => hall ⟨rfl, by omega, h⟩; omega⟩)
        · exact .inl (by simpa using h0)
      clear hf hrr hr hall
      rcases hcase with h0 | ⟨h0, h1⟩ | ⟨h0, h1, h2⟩
      all_goals
        go_enter Try.func6, Try.ntmps6
        go_wp2_with fail
        refine HF.out.mono ?_
        rintro e w0 ⟨rfl, rfl⟩
        go_wp2_with fail
        refine HK.out.mono ?_
        rintro e w1 ⟨u1, p1, rfl, hb1, hr1, -⟩
        obtain ⟨adb, capb, rfl, -, -, -, -⟩ := hr1
        simp only []
        go_wp2_with fail
        refine (wires_any HD.out _).mono ?_
        rintro e w4 ⟨rfl, hb4⟩
        go_wp2
        go_ret
        exact ⟨rfl, hb1.trans (hb4.mono hb1.size)⟩
  · have hf2 : few5 L = false := by simpa using hf
    rw [hf2] at HF
    clear hf hf2 hr
    go_enter Try.func6, Try.ntmps6
    go_wp2_with fail
    refine HF.out.mono ?_
    rintro e w0 ⟨rfl, rfl⟩
    go_wp2_with fail
    refine (wires_any HD.out _).mono ?_
    rintro e w4 ⟨rfl, hb4⟩
    go_wp2
    go_ret
    exact ⟨rfl, hb4⟩
end Go.Proofs.Ytjhmjimfehanbaa.Wire
