/- The document's probe: far, Right, has, place. -/
import Derived.Test.YtjikikiconhlaaaProL
namespace Go.Proofs.Ytjikikiconhlaaa.Pro
open Go.RowKit
set_option linter.unusedVariables false

theorem rfar_any (u : Value) (T : List Cel) (p : Nat) (x : Int) (w : World) (hr : CRow w u T) (hp : p < T.length) (hn : T.length ≤ 1000000) (hx : x = p) : Calls Try.prog 27 #[u, .int .i64 x] w fun e w' => e = .returned (.int .i64 (fr T p)) ∧ w = w' := by
  subst hx
  obtain ⟨b, off, c, rfl, q1, q2, -, hc⟩ := hr.open (by omega)
  have HD := Lib.hid (fun W => rdist_any T.length (gt T p).2 p W (by omega) (by omega))
  rw [show dI T.length (gt T p).2 p = fr T p from rfl] at HD
  have c1 := (hc p hp).2
  have hp1 : (p : Int) < (T.length : Int) := by omega
  generalize (gt T p).2 = y at *
  clear hc
  go_enter Try.func27, Try.ntmps27
  go_wp2_with fail
  refine (HD.out _).mono ?_
  rintro e w' ⟨rfl, rfl⟩
  go_wp2
  go_ret
  exact ⟨rfl, rfl⟩

def OkA (T : List Cel) (i : Nat) : Prop := ((gt T i).1 = 0 → (gt T i).2 = 0) ∧ ((gt T i).1 ≠ 0 → (0 ≤ (gt T i).2 ∧ (gt T i).2 < T.length) ∧ ∀ j, j < i → (gt T j).1 ≠ (gt T i).1)
def OkB (T : List Cel) (i : Nat) : Prop := (gt T i).1 ≠ 0 → fr T i ≤ 0 ∨ ((gt T (pv T.length i)).1 ≠ 0 ∧ fr T i - 1 ≤ fr T (pv T.length i))
theorem okA_no {T : List Cel} {i : Nat} (hi : i < T.length) (h : ¬ OkA T i) : RC T = false := by
  rw [← Bool.not_eq_true]
  intro hr
  have H := rc_rtf hr
  exact h ⟨H.emp i hi, fun he => ⟨H.hm i hi he, fun j hj e => H.ne i j hi (by omega) (by omega) he e.symm⟩⟩
theorem okB_no {T : List Cel} {i : Nat} (hi : i < T.length) (h : ¬ OkB T i) : RC T = false := by
  rw [← Bool.not_eq_true]
  intro hr
  have H := rc_rtf hr
  refine h (fun he => ?_)
  rcases H.led i hi he with h1 | h1
  · left; show frf _ _ _ ≤ 0; omega
  · exact .inr h1
theorem ok_all {T : List Cel} (hA : ∀ i, i < T.length → OkA T i) (hB : ∀ i, i < T.length → OkB T i) : RC T = decide (0 < T.length) := by
  by_cases h0 : 0 < T.length
  · rw [decide_eq_true h0]
    refine rtf_rc ⟨h0, fun i hi => (hA i hi).1, fun i hi he => ((hA i hi).2 he).1, fun i k hi hk hne he e => ?_, fun i hi he => ?_⟩
    · rcases Nat.lt_or_gt_of_ne hne with h | h
      · exact ((hA k hk).2 (by rw [← e]; exact he)).2 i h e
      · exact ((hA i hi).2 he).2 k h e.symm
    · have hnn := dI_nn T.length (gt T i).2 i
      rcases hB i hi he with h | h
      · left
        have : frf T.length (gt T) i ≤ 0 := h
        unfold frf at *
        omega
      · exact .inr h
  · rw [decide_eq_false h0]
    unfold RC
    rw [decide_eq_false h0, Bool.and_false]

set_option maxRecDepth 100000 in
set_option maxHeartbeats 2000000 in
theorem rright_any (u : Value) (T : List Cel) (w : World) (hr : CRow w u T) (hn : T.length ≤ 1000) :
    Calls Try.prog 17 #[u] w fun e w' => e = .returned (.bool (RC T)) ∧ Below w.heap.size w w' := by
  by_cases h0 : 0 < T.length
  · have HR := Lib.hid hr
    obtain ⟨b, off, c, rfl, q1, q2, hblt, hc⟩ := hr.open h0
    have HC := Lib.hid hc
    have HA := Lib.hid (fun i hi h => okA_no (T := T) (i := i) hi h)
    have HBn := Lib.hid (fun i hi h => okB_no (T := T) (i := i) hi h)
    have HAll := Lib.hid (ok_all (T := T))
    rw [decide_eq_true h0] at HAll
    have HF := Lib.hid (fun p hp x W hW hx => rfar_any (.slice (some ⟨b, off, none⟩) T.length c) T p x W hW hp (by omega) hx)
    have h01 : (0 : Int) < (T.length : Int) := by omega
    clear hc hr
    go_enter Try.func17, Try.ntmps17
    go_wp2
    go_loopw [3, 4] (fun i _ wr => ∃ k : Nat, k ≤ T.length ∧ i = .int .i64 k ∧ Hid (Below w.heap.size w wr) ∧ Hid (∀ j, j < k → OkA T j)) (fun i _ _ => T.length - (intOf i).toNat)
    case atStart => exact ⟨0, Nat.zero_le _, rfl, Below.refl _ _, fun j hj => by omega⟩
    case round =>
      obtain ⟨k, hk, rfl, HB, HK⟩ := hrel
      by_cases hlt : k < T.length
      · have hlt1 : (k : Int) < (T.length : Int) := by omega
        obtain ⟨d1, d2⟩ := HC.out k hlt
        have c1 := (HB.out.cell (p := ⟨b, off + k * 2, none⟩) hblt).trans d1
        have c2 := (HB.out.cell (p := ⟨b, off + k * 2 + 1, none⟩) hblt).trans d2
        have HAk := Lib.hid (HA.out k hlt)
        have EA := Lib.hid (show OkA T k = (((gt T k).1 = 0 → (gt T k).2 = 0) ∧ ((gt T k).1 ≠ 0 → (0 ≤ (gt T k).2 ∧ (gt T k).2 < T.length) ∧ ∀ j, j < k → (gt T j).1 ≠ (gt T k).1)) from rfl)
        have HQ := Lib.hid (fun (h : OkA T k) j (hj : j < k + 1) => show OkA T j by
          by_cases e : j = k
          · subst e; exact h
          · exact HK.out j (by omega))
        generalize (gt T k).1 = x at *
        generalize (gt T k).2 = y at *
        by_cases hx : x = 0
        · subst hx
          by_cases hy : y = 0
          · subst hy
            have HK2 := Lib.hid (HQ.out (by rw [EA.out]; exact ⟨fun _ => rfl, fun h => absurd rfl h⟩))
            clear HQ EA HAk
            go_wp2
            go_roundw
            case rel => exact ⟨k + 1, by omega, by go_num, HB, HK2⟩
            case measure => simp [intOf]; omega
          · have hy1 : (y != 0) = true := by simp [hy]
            have HF2 := Lib.hid (HAk.out (by rw [EA.out]; exact fun h => hy (h.1 rfl)))
            clear HQ EA HAk
            go_wp2
            go_ret
            exact ⟨ret_bool HF2.out.symm, HB.out⟩
        · have hx1 : (x == 0) = false := by simp [hx]
          by_cases hy0 : y < 0
          · have HF2 := Lib.hid (HAk.out (by rw [EA.out]; exact fun h => by have := (h.2 hx).1; omega))
            clear HQ EA HAk
            go_wp2
            go_ret
            exact ⟨ret_bool HF2.out.symm, HB.out⟩
          · by_cases hy1 : (T.length : Int) ≤ y
            · have HF2 := Lib.hid (HAk.out (by rw [EA.out]; exact fun h => by have := (h.2 hx).1; omega))
              have hy2 : y ≥ (T.length : Int) := hy1
              clear HQ EA HAk
              go_wp2
              go_ret
              exact ⟨ret_bool HF2.out.symm, HB.out⟩
            · have hy2 : ¬ y ≥ (T.length : Int) := hy1
              clear c1 c2
              have c1 := (HB.out.cell (p := ⟨b, off + k * 2, none⟩) hblt).trans d1
              have c2 := (HB.out.cell (p := ⟨b, off + k * 2 + 1, none⟩) hblt).trans d2
              go_wp2
              go_loopw [4] (fun a4 wq => ∃ j : Nat, j ≤ k ∧ a4 = .int .i64 j ∧ Hid (Below w.heap.size w wq) ∧ Hid (∀ i, i < j → (gt T i).1 ≠ x)) (fun a4 _ => k - (intOf a4).toNat)
              case atStart => exact ⟨0, Nat.zero_le _, rfl, HB, fun j hj => by omega⟩
              case round =>
                obtain ⟨j, hjk, rfl, HBq, HJ⟩ := hrel
                clear c1 c2
                by_cases hjl : j < k
                · obtain ⟨e1, -⟩ := HC.out j (by omega)
                  have c1 := (HBq.out.cell (p := ⟨b, off + k * 2, none⟩) hblt).trans d1
                  have c3 := (HBq.out.cell (p := ⟨b, off + j * 2, none⟩) hblt).trans e1
                  have hjl1 : (j : Int) < (k : Int) := by omega
                  have hjl2 : (j : Int) < (T.length : Int) := by omega
                  have HNo : Hid ((gt T j).1 = x → RC T = false) := fun q => HAk.out (by rw [EA.out]; exact fun h => (h.2 hx).2 j hjl q)
                  have HYe : Hid ((gt T j).1 ≠ x → ∀ i, i < j + 1 → (gt T i).1 ≠ x) := fun q i hi => by
                    by_cases e : i = j
                    · subst e; exact q
                    · exact HJ.out i (by omega)
                  generalize (gt T j).1 = z at *
                  by_cases hz : z = x
                  · subst hz
                    have HF2 := Lib.hid (HNo.out rfl)
                    have hz1 : (z == z) = true := by simp
                    clear HQ EA HAk HNo HYe
                    go_wp2_with fail
                    go_quiet (fail)
                    go_wp2
                    go_ret
                    exact ⟨ret_bool HF2.out.symm, below_drewN HBq.out _⟩
                  · have hz1 : (z == x) = false := by simp [hz]
                    have HJ2 := Lib.hid (HYe.out hz)
                    clear HNo HYe
                    go_wp2_with fail
                    go_quiet (fail)
                    go_wp2
                    have HB2 : Hid (Below w.heap.size w (wr.drewN nq)) := below_drewN HBq.out _
                    go_roundw
                    case rel => exact ⟨j + 1, by omega, by go_num, HB2, HJ2⟩
                    case measure => simp [intOf]; omega
                · obtain rfl : j = k := by omega
                  have HK2 := Lib.hid (HQ.out (by rw [EA.out]; exact ⟨fun h => absurd h hx, fun _ => ⟨by omega, HJ.out⟩⟩))
                  clear HQ EA HAk
                  go_wp2
                  go_roundw
                  case rel => exact ⟨j + 1, by omega, by go_num, HBq, HK2⟩
                  case measure => simp [intOf]; omega
      · obtain rfl : k = T.length := by omega
        have HAA := Lib.hid (HAll.out HK.out)
        clear HA HAll HK
        go_wp2
        go_loopw [5, 6] (fun i _ wq => ∃ k : Nat, k ≤ T.length ∧ i = .int .i64 k ∧ Hid (Below w.heap.size w wq) ∧ Hid (∀ j, j < k → OkB T j)) (fun i _ _ => T.length - (intOf i).toNat)
        case atStart => exact ⟨0, Nat.zero_le _, rfl, HB, fun j hj => by omega⟩
        case round =>
          obtain ⟨k, hk, rfl, HBq, HK⟩ := hrel
          by_cases hlt : k < T.length
          · have hlt1 : (k : Int) < (T.length : Int) := by omega
            have hpl := pv_lt hlt
            obtain ⟨d1, -⟩ := HC.out k hlt
            obtain ⟨d2, -⟩ := HC.out _ hpl
            have hmod : ((k : Int) + T.length - 1) % (T.length : Int) = (pv T.length k : Nat) := by
              have := bw_one hlt
              rw [← this, Int.natCast_emod]
              congr 1
              omega
            have hw1 : IntKind.i64.wrap ((k : Int) + T.length) = (k : Int) + T.length := wrap_id (by omega) (by omega)
            have hw2 : IntKind.i64.wrap ((k : Int) + T.length - 1) = (k : Int) + T.length - 1 := wrap_id (by omega) (by omega)
            have HBk := Lib.hid (HBn.out k hlt)
            have EB := Lib.hid (show OkB T k = ((gt T k).1 ≠ 0 → fr T k ≤ 0 ∨ ((gt T (pv T.length k)).1 ≠ 0 ∧ fr T k - 1 ≤ fr T (pv T.length k))) from rfl)
            have hf1 := dI_nn T.length (gt T k).2 k
            have hf2 := dI_lt T.length (gt T k).2 k (by omega)
            rw [show dI T.length (gt T k).2 k = fr T k from rfl] at hf1 hf2
            have HFk := Lib.hid (HF.out k hlt)
            have HFp := Lib.hid (HF.out _ hpl)
            have HQ := Lib.hid (fun (h : OkB T k) j (hj : j < k + 1) => show OkB T j by
              by_cases e : j = k
              · subst e; exact h
              · exact HK.out j (by omega))
            have c1 := (HBq.out.cell (p := ⟨b, off + k * 2, none⟩) hblt).trans d1
            have c2 := (HBq.out.cell (p := ⟨b, off + pv T.length k * 2, none⟩) hblt).trans d2
            have HRq := Lib.hid (HR.out.mono HBq.out (Nat.le_refl _))
            generalize (gt T k).1 = x at *
            generalize (gt T (pv T.length k)).1 = z at *
            generalize fr T k = F at *
            generalize fr T (pv T.length k) = G at *
            generalize pv T.length k = q at *
            have hw3 : IntKind.i64.wrap (F - 1) = F - 1 := wrap_id (by omega) (by omega)
            have hq1 : (q : Int) < (T.length : Int) := by omega
            clear d1 d2
            by_cases hx : x = 0
            · subst hx
              have hx1 : ((0 : Int) != 0) = false := by simp
              have HK2 := Lib.hid (HQ.out (by rw [EB.out]; exact fun h => absurd rfl h))
              clear HQ EB HBk
              go_wp2
              go_roundw
              case rel => exact ⟨k + 1, by omega, by go_num, HBq, HK2⟩
              case measure => simp [intOf]; omega
            · have hx1 : (x != 0) = true := by simp [hx]
              by_cases hF : F ≤ 0
              · have hF1 : ¬ F > 0 := by omega
                have HK2 := Lib.hid (HQ.out (by rw [EB.out]; exact fun h => .inl hF))
                clear HQ EB HBk
                go_wp2_with fail
                refine (HFk.out _ _ HRq.out rfl).mono ?_
                rintro e w1 ⟨rfl, rfl⟩
                go_wp2
                go_roundw
                case rel => exact ⟨k + 1, by omega, by go_num, HBq, HK2⟩
                case measure => simp [intOf]; omega
              · have hF1 : F > 0 := by omega
                by_cases hz : z = 0
                · subst hz
                  have HF2 := Lib.hid (HBk.out (by rw [EB.out]; exact fun h => by rcases h hx with h | h; omega; exact h.1 rfl))
                  clear HQ EB HBk
                  go_wp2_with fail
                  try rw [hmod]
                  refine (HFk.out _ _ HRq.out rfl).mono ?_
                  rintro e w1 ⟨rfl, rfl⟩
                  go_wp2
                  go_ret
                  exact ⟨ret_bool HF2.out.symm, HBq.out⟩
                · have hz1 : (z == 0) = false := by simp [hz]
                  by_cases hG : G < F - 1
                  · have HF2 := Lib.hid (HBk.out (by rw [EB.out]; exact fun h => by rcases h hx with h | h; omega; have := h.2; omega))
                    clear HQ EB HBk
                    go_wp2_with fail
                    try rw [hmod]
                    refine (HFk.out _ _ HRq.out rfl).mono ?_
                    rintro e w1 ⟨rfl, rfl⟩
                    go_wp2_with fail
                    refine (HFp.out _ _ HRq.out rfl).mono ?_
                    rintro e w1 ⟨rfl, rfl⟩
                    go_wp2_with fail
                    refine (HFk.out _ _ HRq.out rfl).mono ?_
                    rintro e w1 ⟨rfl, rfl⟩
                    go_wp2
                    go_ret
                    exact ⟨ret_bool HF2.out.symm, HBq.out⟩
                  · have HK2 := Lib.hid (HQ.out (by rw [EB.out]; exact fun h => .inr ⟨hz, by omega⟩))
                    clear HQ EB HBk
                    go_wp2_with fail
                    try rw [hmod]
                    refine (HFk.out _ _ HRq.out rfl).mono ?_
                    rintro e w1 ⟨rfl, rfl⟩
                    go_wp2_with fail
                    refine (HFp.out _ _ HRq.out rfl).mono ?_
                    rintro e w1 ⟨rfl, rfl⟩
                    go_wp2_with fail
                    refine (HFk.out _ _ HRq.out rfl).mono ?_
                    rintro e w1 ⟨rfl, rfl⟩
                    go_wp2
                    go_roundw
                    case rel => exact ⟨k + 1, by omega, by go_num, HBq, HK2⟩
                    case measure => simp [intOf]; omega
          · obtain rfl : k = T.length := by omega
            have HF2 := Lib.hid (HAA.out HK.out)
            go_wp2
            go_ret
            exact ⟨ret_bool HF2.out.symm, HBq.out⟩
  · obtain rfl : T = [] := List.length_eq_zero_iff.1 (by omega)
    obtain ⟨a, c, rfl, -, -⟩ := hr.slice
    clear hr
    go_enter Try.func17, Try.ntmps17
    go_wp2
    go_loopw [3, 4] (fun i _ wr => i = .int .i64 0 ∧ w = wr) (fun i _ _ => 0)
    case atStart => exact ⟨rfl, rfl⟩
    case round =>
      obtain ⟨rfl, rfl⟩ := hrel
      go_wp2
      go_loopw [5, 6] (fun i _ wr => i = .int .i64 0 ∧ w = wr) (fun i _ _ => 0)
      case atStart => exact ⟨rfl, rfl⟩
      case round =>
        obtain ⟨rfl, rfl⟩ := hrel
        go_wp2
        go_ret
        exact ⟨ret_bool rfl, Below.refl _ _⟩
end Go.Proofs.Ytjikikiconhlaaa.Pro
