/- The document's probe: has, place, Find. -/
import Derived.Test.YtjikikiconhlaaaProQ
namespace Go.Proofs.Ytjikikiconhlaaa.Pro
open Go.RowKit
set_option linter.unusedVariables false

set_option maxRecDepth 100000 in
theorem has_any (u : Value) (T : List Cel) (x : Int) (w : World) (hr : CRow w u T) (hn : T.length ≤ 1000) :
    Calls Try.prog 39 #[u, .int .u32 x] w fun e w' => e = .returned (.bool (T.any fun a => decide (a.1 = x))) ∧ w = w' := by
  by_cases h0 : 0 < T.length
  · obtain ⟨b, off, c, rfl, q1, q2, hblt, hc⟩ := hr.open h0
    have HC := Lib.hid hc
    have HY := Lib.hid (any_take (fun a => decide (a.1 = x)) T)
    have HN := Lib.hid (any_none (fun a => decide (a.1 = x)) T)
    clear hc hr
    go_enter Try.func39, Try.ntmps39
    go_wp2
    go_loopw [5] (fun i wr => ∃ k : Nat, k ≤ T.length ∧ i = .int .i64 k ∧ w = wr ∧ Hid (∀ j, j < k → decide ((gt T j).1 = x) = false)) (fun i _ => T.length - (intOf i).toNat)
    case atStart => exact ⟨0, Nat.zero_le _, rfl, rfl, fun j hj => by omega⟩
    case round =>
      obtain ⟨k, hk, rfl, rfl, HK⟩ := hrel
      by_cases hlt : k < T.length
      · have hlt1 : (k : Int) < (T.length : Int) := by omega
        obtain ⟨c1, -⟩ := HC.out k hlt
        have HYk := Lib.hid (HY.out k hlt)
        have HKn : Hid ((gt T k).1 ≠ x → ∀ j, j < k + 1 → decide ((gt T j).1 = x) = false) := fun q j hj => by
          by_cases e : j = k
          · subst e; exact decide_eq_false q
          · exact HK.out j (by omega)
        generalize (gt T k).1 = z at *
        by_cases hz : z = x
        · have HF := Lib.hid (HYk.out (decide_eq_true hz))
          have hz1 : (z == x) = true := by simp [hz]
          clear HKn HYk hz
          go_wp2
          go_ret
          exact ⟨ret_bool HF.out.symm, rfl⟩
        · have hz1 : (z == x) = false := by simp [hz]
          have HK2 := Lib.hid (HKn.out hz)
          clear HKn HYk hz
          go_wp2
          go_roundw
          case rel => exact ⟨k + 1, by omega, by go_num, by first | rfl | trivial, HK2⟩
          case measure => simp [intOf]; omega
      · obtain rfl : k = T.length := by omega
        have HF := Lib.hid (HN.out HK.out)
        go_wp2
        go_ret
        exact ⟨ret_bool HF.out.symm, rfl⟩
  · obtain rfl : T = [] := List.length_eq_zero_iff.1 (by omega)
    obtain ⟨a, c, rfl, -, -⟩ := hr.slice
    clear hr
    go_enter Try.func39, Try.ntmps39
    go_wp2
    go_loopw [5] (fun i wr => i = .int .i64 0 ∧ w = wr) (fun i _ => 0)
    case atStart => exact ⟨rfl, rfl⟩
    case round =>
      obtain ⟨rfl, rfl⟩ := hrel
      go_wp2
      go_ret
      exact ⟨rfl, rfl⟩

set_option maxRecDepth 100000 in
theorem place_any (u : Value) (T : List Cel) (h k0 : Nat) (w : World) (hr : CRow w u T) (hn : T.length ≤ 1000) (H : RTf T.length (gt T)) (hh : h < T.length) (hk0 : k0 < T.length)
    (hs : ∀ j, j < k0 → ¬ Opn T.length (gt T) h (ps T.length h j)) (ho : Opn T.length (gt T) h (ps T.length h k0)) :
    Calls Try.prog 40 #[u, .int .i64 (h : Int)] w fun e w' => e = .returned (.int .i64 (ps T.length h k0 : Nat)) ∧ w = w' := by
  have HR := Lib.hid hr
  obtain ⟨b, off, c, rfl, q1, q2, hblt, hc⟩ := hr.open H.pos
  have HC := Lib.hid hc
  have HS : Hid (∀ j, j < k0 → (gt T (ps T.length h j)).1 ≠ 0 ∧ ¬ fr T (ps T.length h j) < j) := fun j hj => by
    have := hs j hj
    unfold Opn at this
    rw [dI_ps hh (by omega)] at this
    exact ⟨fun q => this (.inl q), fun q => this (.inr q)⟩
  have HO : Hid ((gt T (ps T.length h k0)).1 = 0 ∨ fr T (ps T.length h k0) < k0) := by
    unfold Opn at ho
    rw [dI_ps hh hk0] at ho
    exact ho
  have HF := Lib.hid (fun p hp x W hW hx => rfar_any (.slice (some ⟨b, off, none⟩) T.length c) T p x W hW hp (by omega) hx)
  clear hc hr hs ho H
  go_enter Try.func40, Try.ntmps40
  go_wp2
  go_loopw [5, 6] (fun i _ wr => ∃ k : Nat, k ≤ k0 ∧ i = .int .i64 k ∧ w = wr) (fun i _ _ => T.length - (intOf i).toNat)
  case atStart => exact ⟨0, Nat.zero_le _, rfl, rfl⟩
  case round =>
    obtain ⟨k, hk, rfl, rfl⟩ := hrel
    have hlt1 : (k : Int) < (T.length : Int) := by omega
    have hpl := ps_lt (i := k) hh (by omega)
    obtain ⟨c1, -⟩ := HC.out _ hpl
    have hmod : ((h : Int) + k) % (T.length : Int) = (ps T.length h k : Nat) := by rw [← mod_ps hh (by omega), Int.natCast_emod, Int.natCast_add]
    have HFk := Lib.hid (HF.out _ hpl)
    have HSk := Lib.hid (HS.out k)
    have hkk := HO.out
    by_cases e : k = k0
    · subst e
      clear HSk HS HO
      generalize (gt T (ps T.length h k)).1 = z at *
      generalize fr T (ps T.length h k) = F at *
      generalize hpe : ps T.length h k = p at *
      have HP := Lib.hid hpe
      clear hpe
      have hp1 : (p : Int) < (T.length : Int) := by omega
      by_cases hz : z = 0
      · have hz1 : (z == 0) = true := by simp [hz]
        clear hkk hz
        go_wp2
        go_ret
        exact ⟨by rw [HP.out]; first | rfl | exact ret_int hmod, rfl⟩
      · have hz1 : (z == 0) = false := by simp [hz]
        have hF : F < (k : Int) := by rcases hkk with h1 | h1; exact absurd h1 hz; exact h1
        clear hkk hz
        go_wp2_with fail
        try rw [hmod]
        refine (HFk.out _ _ HR.out rfl).mono ?_
        rintro e w1 ⟨rfl, rfl⟩
        go_wp2
        go_ret
        exact ⟨by rw [HP.out]; first | rfl | exact ret_int hmod, rfl⟩
    · obtain ⟨hz, hF⟩ := HSk.out (by omega)
      clear HSk hkk
      generalize (gt T (ps T.length h k)).1 = z at *
      generalize fr T (ps T.length h k) = F at *
      generalize ps T.length h k = p at *
      have hp1 : (p : Int) < (T.length : Int) := by omega
      have hz1 : (z == 0) = false := by simp [hz]
      clear hz
      go_wp2_with fail
      try rw [hmod]
      refine (HFk.out _ _ HR.out rfl).mono ?_
      rintro e w1 ⟨rfl, rfl⟩
      go_wp2
      go_roundw
      case rel => exact ⟨k + 1, by omega, by go_num, by first | rfl | trivial⟩
      case measure => simp [intOf]; omega

theorem rf_none {T : List Cel} (H : RTf T.length (gt T)) {x : Int} {h k : Nat} (hx : x ≠ 0) (hh : h < T.length) (hk : k ≤ T.length) (h1 : ∀ j, j < k → gt T (ps T.length h j) ≠ (x, (h : Int)))
    (h2 : k < T.length → (gt T (ps T.length h k)).1 = 0 ∨ fr T (ps T.length h k) < k) : fiC T (x, (h : Int)) h = (0, false) := by
  refine fi_none H.pos (fun i hi he => ?_)
  have hne : (gt T i).1 ≠ 0 := by rw [he]; exact hx
  obtain ⟨h', d, e1, e2, hh', hd, hps, -⟩ := far_nat H hi hne
  rw [he] at e1
  simp only at e1
  have e3 : h = h' := by omega
  subst e3
  have hdk : k ≤ d := by
    rcases Nat.lt_or_ge d k with q | q
    · exact absurd (by rw [hps]; exact he) (h1 d q)
    · exact q
  have h3 := h2 (by omega)
  rcases Nat.lt_or_ge k d with q | q
  · have := not_open H hi hne (by rw [he]) e2 k q
    unfold Opn at this
    rw [dI_ps hh (by omega)] at this
    exact this h3
  · obtain rfl : k = d := by omega
    rw [hps, he] at h3
    rcases h3 with h3 | h3
    · exact hx h3
    · have e4 : fr T i = k := e2
      omega

set_option maxRecDepth 100000 in
set_option maxHeartbeats 1000000 in
theorem rFind_any (u : Value) (T : List Cel) (x y : Int) (w : World) (hr : CRow w u T) (hn : T.length ≤ 1000) :
    Calls Try.prog 11 #[u, .int .u32 x, .int .i64 y] w fun e w' => e = .returned (.tuple #[.int .i64 ((FiC T (x, y)).1 : Int), .bool (FiC T (x, y)).2]) ∧ Below w.heap.size w w' := by
  have HR := Lib.hid hr
  have HT := Lib.hid (rright_any u T w hr hn)
  obtain ⟨a, c, rfl, q1, q2⟩ := id hr.slice
  by_cases hna : naC T (x, y) = true
  · obtain ⟨h, rfl, hh⟩ := na_home hna
    have hx : x ≠ 0 := by
      have := of_decide_eq_true hna
      exact this.1
    have hx1 : (x == 0) = false := by simp [hx]
    have hh1 : ¬ ((h : Int) ≥ (T.length : Int)) := by omega
    cases hrc : RC T with
    | false =>
      rw [hrc] at HT
      have E := Lib.hid (show FiC T (x, (h : Int)) = (0, false) by rw [FiC, if_neg (by simp [ckC, hna, hrc])])
      rw [E.out]
      clear hr E hrc hna HR
      go_enter Try.func11, Try.ntmps11
      go_wp2_with fail
      refine HT.out.mono ?_
      rintro e w1 ⟨rfl, hb1⟩
      go_wp2
      go_ret2
      exact ⟨rfl, hb1⟩
    | true =>
      rw [hrc] at HT
      have H := rc_rtf hrc
      have E := Lib.hid (show FiC T (x, (h : Int)) = fiC T (x, (h : Int)) h by rw [FiC, if_pos (by simp [ckC, hna, hrc])]; simp)
      rw [E.out]
      obtain ⟨b, off, c2, e0, -, -, hblt, hc⟩ := hr.open H.pos
      injection e0 with e0 e1 e2
      subst e0 e2
      have HC := Lib.hid hc
      have HFo := Lib.hid (fun i hi he => fi_found H (i := i) (h := h) (x := x) hi he hx)
      have HFn := Lib.hid (fun k hk h1 h2 => rf_none H (k := k) hx hh hk h1 h2)
      have HF := Lib.hid (fun p hp z W hW hz => rfar_any (.slice (some ⟨b, off, none⟩) T.length c) T p z W hW hp (by omega) hz)
      generalize fiC T (x, (h : Int)) h = R at *
      clear hr E hrc hna hc H e1
      go_enter Try.func11, Try.ntmps11
      go_wp2_with fail
      refine HT.out.mono ?_
      rintro e w1 ⟨rfl, hb1⟩
      have HB1 := Lib.hid hb1
      clear hb1
      go_wp2
      go_loopw [8, 9] (fun i _ wr => ∃ k : Nat, k ≤ T.length ∧ i = .int .i64 k ∧ Hid (Below w.heap.size w wr) ∧ Hid (∀ j, j < k → gt T (ps T.length h j) ≠ (x, (h : Int)))) (fun i _ _ => T.length - (intOf i).toNat)
      case atStart => exact ⟨0, Nat.zero_le _, rfl, HB1, fun j hj => by omega⟩
      case round =>
        obtain ⟨k, hk, rfl, HB, HK⟩ := hrel
        by_cases hlt : k < T.length
        · have hlt1 : (k : Int) < (T.length : Int) := by omega
          have hpl := ps_lt (i := k) hh (by omega)
          obtain ⟨d1, d2⟩ := HC.out _ hpl
          have c1 := (HB.out.cell (p := ⟨b, off + ps T.length h k * 2, none⟩) hblt).trans d1
          have c2 := (HB.out.cell (p := ⟨b, off + ps T.length h k * 2 + 1, none⟩) hblt).trans d2
          have hmod : ((h : Int) + k) % (T.length : Int) = (ps T.length h k : Nat) := by rw [← mod_ps hh (by omega), Int.natCast_emod, Int.natCast_add]
          have HFk := Lib.hid (HF.out _ hpl)
          have HRk := Lib.hid (HR.out.mono HB.out (Nat.le_refl _))
          have HNk := Lib.hid (fun h2 => HFn.out k hk HK.out h2)
          have HYk := Lib.hid (HFo.out _ hpl)
          have HE := Lib.hid (show gt T (ps T.length h k) = (x, (h : Int)) ↔ (gt T (ps T.length h k)).1 = x ∧ (gt T (ps T.length h k)).2 = h from ⟨fun q => by rw [q]; exact ⟨rfl, rfl⟩, fun ⟨q1, q2⟩ => Prod.ext q1 q2⟩)
          have HQ : Hid (gt T (ps T.length h k) ≠ (x, (h : Int)) → ∀ j, j < k + 1 → gt T (ps T.length h j) ≠ (x, (h : Int))) := fun q j hj => by
            by_cases e : j = k
            · subst e; exact q
            · exact HK.out j (by omega)
          rw [HE.out] at HYk
          have HQ2 : Hid (¬ ((gt T (ps T.length h k)).1 = x ∧ (gt T (ps T.length h k)).2 = h) → ∀ j, j < k + 1 → gt T (ps T.length h j) ≠ (x, (h : Int))) := fun q => HQ.out (fun e => q (HE.out.1 e))
          clear HQ HE d1 d2
          generalize (gt T (ps T.length h k)).1 = z at *
          generalize (gt T (ps T.length h k)).2 = v at *
          generalize fr T (ps T.length h k) = F at *
          generalize ps T.length h k = p at *
          have hp1 : (p : Int) < (T.length : Int) := by omega
          by_cases hz : z = 0
          · have hz1 : (z == 0) = true := by simp [hz]
            have HR2 := Lib.hid (HNk.out (fun _ => .inl hz))
            clear HQ2 HYk HNk hz
            go_wp2
            go_ret2
            exact ⟨by rw [HR2.out]; rfl, HB.out⟩
          · have hz1 : (z == 0) = false := by simp [hz]
            by_cases hF : F < (k : Int)
            · have HR2 := Lib.hid (HNk.out (fun _ => .inr hF))
              clear HQ2 HYk HNk hz
              go_wp2_with fail
              try rw [hmod]
              refine (HFk.out _ _ HRk.out rfl).mono ?_
              rintro e w1 ⟨rfl, rfl⟩
              go_wp2
              go_ret2
              exact ⟨by rw [HR2.out]; rfl, HB.out⟩
            · by_cases hzx : z = x
              · have hz2 : (z == x) = true := by simp [hzx]
                by_cases hv : v = (h : Int)
                · have hv2 : (v == (h : Int)) = true := by simp [hv]
                  have HR2 := Lib.hid (HYk.out ⟨hzx, hv⟩)
                  clear HQ2 HYk HNk hz hzx hv
                  go_wp2_with fail
                  try rw [hmod]
                  refine (HFk.out _ _ HRk.out rfl).mono ?_
                  rintro e w1 ⟨rfl, rfl⟩
                  go_wp2
                  go_ret2
                  exact ⟨by rw [HR2.out]; rfl, HB.out⟩
                · have hv2 : (v == (h : Int)) = false := by simp [hv]
                  have HK2 := Lib.hid (HQ2.out (fun q => hv q.2))
                  clear HQ2 HYk HNk hz hzx hv
                  go_wp2_with fail
                  try rw [hmod]
                  refine (HFk.out _ _ HRk.out rfl).mono ?_
                  rintro e w1 ⟨rfl, rfl⟩
                  go_wp2
                  go_roundw
                  case rel => exact ⟨k + 1, by omega, by go_num, HB, HK2⟩
                  case measure => simp [intOf]; omega
              · have hz2 : (z == x) = false := by simp [hzx]
                have HK2 := Lib.hid (HQ2.out (fun q => hzx q.1))
                clear HQ2 HYk HNk hz hzx
                go_wp2_with fail
                try rw [hmod]
                refine (HFk.out _ _ HRk.out rfl).mono ?_
                rintro e w1 ⟨rfl, rfl⟩
                go_wp2
                go_roundw
                case rel => exact ⟨k + 1, by omega, by go_num, HB, HK2⟩
                case measure => simp [intOf]; omega
        · obtain rfl : k = T.length := by omega
          have HR2 := Lib.hid (HFn.out _ (Nat.le_refl _) HK.out (fun q => absurd q (by omega)))
          go_wp2
          go_ret2
          exact ⟨by rw [HR2.out]; rfl, HB.out⟩
  · have E := Lib.hid (show FiC T (x, y) = (0, false) by rw [FiC, if_neg (by simp [ckC, hna])])
    rw [E.out]
    have hna2 : x = 0 ∨ y < 0 ∨ (T.length : Int) ≤ y := by
      unfold naC at hna
      simp only [decide_eq_true_eq] at hna
      omega
    clear hr E hna HR HT
    by_cases hx : x = 0
    · have hx1 : (x == 0) = true := by simp [hx]
      clear hx hna2
      go_enter Try.func11, Try.ntmps11
      go_wp2
      go_ret2
      exact ⟨rfl, Below.refl _ _⟩
    · have hx1 : (x == 0) = false := by simp [hx]
      by_cases hy : y < 0
      · go_enter Try.func11, Try.ntmps11
        go_wp2
        go_ret2
        exact ⟨rfl, Below.refl _ _⟩
      · have hy2 : y ≥ (T.length : Int) := by omega
        go_enter Try.func11, Try.ntmps11
        go_wp2
        go_ret2
        exact ⟨rfl, Below.refl _ _⟩
end Go.Proofs.Ytjikikiconhlaaa.Pro
