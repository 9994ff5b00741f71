/- The walk of SpansRow. -/
import Derived.Test.YtbjdlfeipidlbaaSpanL
namespace Go.Proofs.Ytbjdlfeipidlbaa.Span
open Go.RowKit Rec
set_option linter.unusedVariables false

/-- What spans of records are: one behind the other. -/
theorem sp_ins {n a m : Nat} (h : a + m ≤ n) (hn : n ≤ 3000) : insS a m 0 n = true := by
  simp [insS, okS]; omega
theorem sp_apr {a m b k : Nat} (h : a + m = b) (hb : b + k ≤ 3000) : aprS a m b k = true := by
  simp [aprS, okS]; omega

set_option maxRecDepth 100000 in
set_option maxHeartbeats 1000000 in
theorem spansRow_walk (D : Does) (v : Value) (l : List Int) (w : World) (hr : Row .u8 w v l) :
    Calls Try.prog 7 #[v] w fun e w' => e = .returned (.bool true) ∧ Below w.heap.size w w' := by
  have HD := Lib.hid D
  have HR := Lib.hid hr
  have HB := Lib.hid hr.bytes
  obtain ⟨ad, cap, rfl, -, -, -, -⟩ := hr
  by_cases h : (3000 : Int) < l.length
  · go_enter Try.func7, Try.ntmps7
    go_wp2_with fail
    refine (views_any HD.out _).mono ?_
    rintro e w1 ⟨rfl, hb⟩
    go_wp2
    go_ret
    exact ⟨rfl, hb⟩
  · have HG := Lib.hid (HD.out.of_ _ l w HR.out (by omega))
    unfold OfGot at HG
    by_cases hc : (unpV l).2 = 0
    · have hu := unp_zero hc
      obtain ⟨L, hL⟩ : ∃ L, L = (unpV l).1 := ⟨_, rfl⟩
      rw [← hL] at hu
      obtain ⟨f1, f2, f3, f4⟩ := ofV_fits HB.out hu
      rw [ofV_yes hu] at HG
      simp only [] at HG
      obtain ⟨n0, hn0⟩ : ∃ n0, n0 = 2 + 2 * L.length := ⟨_, rfl⟩
      rw [← hn0] at HG
      have hPL := spL_length n0 L
      have HGet := Lib.hid (fun k h => spL_get n0 L k h)
      have HT := Lib.hid (fun k h => dat_take_succ L k h)
      have HTL := Lib.hid (fun k => dat_take_le L k)
      have HF1 : Hid (l.length = n0 + dat L) := by unfold Hid; omega
      have hd0 : Hid (dat (L.take L.length) = dat L) := by unfold Hid; rw [List.take_length]
      obtain ⟨P, hP⟩ : ∃ P, P = spL n0 L := ⟨_, rfl⟩
      rw [← hP] at HG hPL HGet
      have HPL := Lib.hid hPL
      have h16 : (P.length : Int) ≤ 16 := by omega
      have hn1 : (2 : Int) + 2 * P.length = n0 := by omega
      have hn2 : n0 ≤ 40 := by omega
      have hl480 : l.length ≤ 480 := f4
      clear hPL hc hu hL f1 f2 f3 f4 hn0 hP
      go_enter Try.func7, Try.ntmps7
      go_wp2_with fail
      refine HG.out.mono ?_
      rintro e w1 ⟨u1, rfl, hb1, hr1⟩
      obtain ⟨a1, k1, rfl, -, -, g1⟩ := hr1
      have G1 := Lib.hid g1
      clear g1 HG
      go_wp2
      go_loopw [5, 6] (fun s i wr => ∃ k m : Nat, k ≤ P.length ∧ i = .int .i64 k ∧ s = .int .i64 m ∧ m ≤ 480 ∧ Hid (m = n0 + dat (L.take k)) ∧ Below w1.heap.size w1 wr) (fun _ i _ => P.length - (intOf i).toNat)
      case atStart => exact ⟨0, n0, Nat.zero_le _, rfl, rfl, by omega, by simp [Hid, dat], Below.refl _ _⟩
      case round =>
        clear hn1 hn2
        obtain ⟨k, m, hk, rfl, rfl, hm, HM, hbel⟩ := hrel
        have hsz := hbel.size
        by_cases hlt : k < P.length
        · have hlt1 : (k : Int) < (P.length : Int) := by omega
          have hlt0 : (0 : Int) ≤ (k : Int) := by omega
          obtain ⟨b1, o1, rfl, hlb, hcc⟩ := G1.out (by rintro rfl; simp at hlt)
          have hPL := HPL.out
          have hg := HGet.out k (by omega)
          have ht := HT.out k (by omega)
          have htl := HTL.out (k + 1)
          have hF1 := HF1.out
          have c1 := (hcc k hlt).1
          have c2 := (hcc k hlt).2
          rw [hg] at c1 c2
          simp only [] at c1 c2
          rw [← HM.out] at c1
          obtain ⟨x, hx⟩ : ∃ x, x = (L.getD k []).length := ⟨_, rfl⟩
          rw [← hx] at c2 ht
          have hM := HM.out
          have d1 := (hbel.cell (p := ⟨b1, o1 + k * 2, none⟩) hlb).trans c1
          have d2 := (hbel.cell (p := ⟨b1, o1 + k * 2 + 1, none⟩) hlb).trans c2
          have k1' := Kept.cell d1 (show b1 < wr.heap.size by omega)
          have k2' := Kept.cell d2 (show b1 < wr.heap.size by omega)
          have hmx : m + x ≤ l.length := by omega
          have HM2 : Hid (m + x = n0 + dat (L.take (k + 1))) := by unfold Hid; omega
          have HI := Lib.hid (fun u => HD.out.inside m x 0 l.length u (by omega) (by omega) (by omega) (by omega) (by omega) (by omega) (by omega) (by omega))
          rw [sp_ins hmx (by omega)] at HI
          have hmm : ((m : Int) != (m : Int)) = false := by simp
          by_cases hk0 : k = 0
          · have hd : decide ((0 : Int) < (k : Int)) = false := by simp; omega
            have hdn : decide (0 < k) = false := by simp; omega
            clear hPL hcc hg ht htl hF1 hM hx c1 c2 hk0 G1
            go_wp2_with fail
            refine wp_region_kept (by kernel_rfl) (by kernel_rfl) ?_
            repeat (go_big_quiet_step (first
              | (go_at_call 13; exact Calls.kept_of (HI.out _) (Nat.le_refl _))))
            refine wpQuiet_nil ?_
            intro _ hw'
            obtain ⟨kk, rfl⟩ := hw'
            have hb8 := hbel.trans (kk.below.mono hbel.size)
            go_wp2
            go_roundw
            case rel => exact ⟨k + 1, m + x, by omega, by go_num, by go_num, by omega, HM2, hb8⟩
            case measure => simp [intOf]; omega
          · have hd : decide ((0 : Int) < (k : Int)) = true := by simp; omega
            have hdn : decide (0 < k) = true := by simp; omega
            obtain ⟨kp, hkp⟩ : ∃ kp, kp = k - 1 := ⟨_, rfl⟩
            have hw1 : IntKind.i64.wrap ((k : Int) - 1) = (kp : Int) := (wrap_id (by omega) (by omega)).trans (by omega)
            have p1 : (0 : Int) ≤ (kp : Int) := by omega
            have p2 : (kp : Int) < (P.length : Int) := by omega
            have hgp := HGet.out kp (by omega)
            have htp := HT.out kp (by omega)
            rw [show kp + 1 = k by omega] at htp
            have e1 := (hcc kp (by omega)).1
            have e2 := (hcc kp (by omega)).2
            rw [hgp] at e1 e2
            simp only [] at e1 e2
            obtain ⟨y, hy⟩ : ∃ y, y = n0 + dat (L.take kp) := ⟨_, rfl⟩
            obtain ⟨z, hz⟩ : ∃ z, z = (L.getD kp []).length := ⟨_, rfl⟩
            rw [← hy] at e1
            rw [← hz] at e2 htp
            have k3' := Kept.cell ((hbel.cell (p := ⟨b1, o1 + kp * 2, none⟩) hlb).trans e1) (show b1 < wr.heap.size by omega)
            have k4' := Kept.cell ((hbel.cell (p := ⟨b1, o1 + kp * 2 + 1, none⟩) hlb).trans e2) (show b1 < wr.heap.size by omega)
            have hyz : y + z = m := by omega
            have HAp := Lib.hid (fun u => HD.out.apart y z m x u (by omega) (by omega) (by omega) (by omega) (by omega) (by omega) (by omega) (by omega))
            rw [sp_apr hyz (by omega)] at HAp
            clear hPL hcc hg ht htl hF1 hM hx c1 c2 hk0 G1 hkp hgp htp e1 e2 hy hz hyz
            go_wp2_with fail
            refine wp_region_kept (by kernel_rfl) (by kernel_rfl) ?_
            repeat (go_big_quiet_step (first
              | (go_at_call 13; exact Calls.kept_of (HI.out _) (Nat.le_refl _))
              | (go_at_call 15; exact Calls.kept_of (HAp.out _) (Nat.le_refl _))))
            refine wpQuiet_nil ?_
            intro _ hw'
            obtain ⟨kk, rfl⟩ := hw'
            have hb8 := hbel.trans (kk.below.mono hbel.size)
            go_wp2
            go_roundw
            case rel => exact ⟨k + 1, m + x, by omega, by go_num, by go_num, by omega, HM2, hb8⟩
            case measure => simp [intOf]; omega
        · obtain rfl : k = P.length := by omega
          have hM := HM.out
          rw [HPL.out, hd0.out, ← HF1.out] at hM
          have hb3 := hb1.trans (hbel.mono hb1.size)
          subst hM
          have hll : ((l.length : Int) == (l.length : Int)) = true := by simp
          clear HPL HM hd0
          go_wp2_with fail
          refine (views_any HD.out _).mono ?_
          rintro e w4 ⟨rfl, hb4⟩
          go_wp2
          go_ret
          exact ⟨rfl, hb3.trans (hb4.mono hb3.size)⟩
    · rw [ofV_no hc] at HG
      obtain ⟨c, hcc⟩ : ∃ c, c = (unpV l).2 := ⟨_, rfl⟩
      have hc2 : (c != 0) = true := by rw [hcc]; simpa using hc
      rw [← hcc] at HG
      simp only [] at HG
      clear hcc hc
      go_enter Try.func7, Try.ntmps7
      go_wp2_with fail
      refine HG.out.mono ?_
      rintro e w1 ⟨u1, rfl, hb1, -⟩
      go_wp2_with fail
      refine (views_any HD.out _).mono ?_
      rintro e w4 ⟨rfl, hb4⟩
      go_wp2
      go_ret
      exact ⟨rfl, hb1.trans (hb4.mono hb1.size)⟩
end Go.Proofs.Ytbjdlfeipidlbaa.Span
