/- The walks of the statements MixNames, MixParts. -/
import Derived.Test.YtojicajdhlahfaaMixC
namespace Go.Proofs.Ytojicajdhlahfaa.Mix
open Go.RowKit
set_option linter.unusedVariables false

set_option maxRecDepth 100000 in
theorem mixNames_walk (v : Value) (l : List ByteArray) (t s : Int) (w : World) (t1 : 0 ≤ t) (t2 : t < 65536) (s1 : -9223372036854775808 ≤ s) (s2 : s < 9223372036854775808) (hr : SRow w v l) :
    Calls Try.prog 4 #[v, .int .u16 t, .int .i64 s] w fun e w' => e = .returned (.bool true) ∧ Below w.heap.size w w' := by
  have HR := Lib.hid hr
  obtain ⟨ad, cap, rfl, q2, q3, q4, q5⟩ := hr
  have HS := Lib.hid q4
  have HC := Lib.hid q5
  clear q4 q5
  go_enter Try.func4, Try.ntmps4
  go_wp2
  go_loop [7, 8] (fun n i => ∃ (k : Nat) (m : Int), k ≤ l.length ∧ i = .int .i64 k ∧ n = .int .i64 m ∧ 0 ≤ m ∧ m ≤ 13000 ∧ Hid (m ≤ 3000 → ∀ j, j < k → (l.getD j ByteArray.empty).size ≤ 3000)) (fun _ i => l.length - (intOf i).toNat)
  case atStart => exact ⟨0, 0, by omega, rfl, rfl, by decide, by decide, fun _ j hj => by omega⟩
  case round =>
    obtain ⟨k, m, hk, rfl, rfl, m1, m2, HM⟩ := hrel
    by_cases hm : m ≤ 3000
    · by_cases hlt : k < l.length
      · have hlt1 : (k : Int) < (l.length : Int) := by omega
        obtain ⟨b, off, rfl, hlb, hc⟩ := HC.out (by rintro rfl; simp at hlt)
        have hcell := hc k hlt
        have hold := HM.out hm
        obtain ⟨x, hx⟩ : ∃ x, x = l.getD k ByteArray.empty := ⟨_, rfl⟩
        rw [← hx] at hcell
        have HN : Hid (x.size ≤ 3000 → ∀ j, j < k + 1 → (l.getD j ByteArray.empty).size ≤ 3000) := by
          intro h j hj
          by_cases e : j = k
          · subst e; rw [← hx]; exact h
          · exact hold j (by omega)
        clear hx hc HC HM hold HS
        by_cases hx : (x.size : Int) ≤ 9999
        · go_wp2
          go_round
          case rel => exact ⟨k + 1, _, by omega, by go_num, rfl, by omega, by omega, fun h => HN.out (by omega)⟩
          case measure => simp [intOf]; omega
        · have hx2 : (9999 : Int) < x.size := by omega
          clear hx
          go_wp2
          go_round
          case rel => exact ⟨k + 1, _, by omega, by go_num, rfl, by omega, by omega, fun h => absurd h (by omega)⟩
          case measure => simp [intOf]; omega
      · obtain rfl : k = l.length := by omega
        have HS2 := Lib.hid (HM.out hm)
        clear HM hlt
        by_cases hn : 200 < (l.length : Int)
        · go_wp2_with fail
          refine (mixes_any _).mono ?_
          rintro e w3 ⟨rfl, hb4⟩
          go_wp2
          go_ret
          exact ⟨rfl, hb4⟩
        · have CH := Lib.hid (fun w hr => chain_any (.slice ad l.length cap) l w hr)
          have RCH := Lib.hid (fun w hr => refChain_any (.slice ad l.length cap) l w hr HS2.out)
          have hbd := chn_bd l
          obtain ⟨h, hh⟩ : ∃ h, h = chn l := ⟨_, rfl⟩
          rw [← hh] at CH RCH hbd
          clear hh
          obtain ⟨h1, h2⟩ := hbd
          go_wp2_with fail
          refine (CH.out _ HR.out).mono ?_
          rintro e w1 ⟨rfl, hb1⟩
          go_wp2
          go_loopw [10] (fun i wr => ∃ k : Nat, k ≤ 3 ∧ k ≤ l.length ∧ i = .int .i64 k ∧ Below w.heap.size w wr) (fun i _ => 3 - (intOf i).toNat)
          case atStart => exact ⟨0, by omega, by omega, rfl, hb1⟩
          case round =>
            obtain ⟨k, hk3, hk, rfl, hb⟩ := hrel
            clear hb1
            by_cases hlt : k < l.length ∧ k < 3
            · obtain ⟨hlt1, hlt2⟩ := hlt
              have hlt3 : (k : Int) < 3 := by omega
              obtain ⟨b, off, rfl, hlb, hc⟩ := HC.out (by rintro rfl; simp at hlt1)
              have hcell := (hb.cell (p := ⟨b, off + k, none⟩) hlb).trans (hc k hlt1)
              have hsz := HS2.out k hlt1
              obtain ⟨x, hx⟩ : ∃ x, x = l.getD k ByteArray.empty := ⟨_, rfl⟩
              rw [← hx] at hcell hsz
              have KC := Kept.cell (B := wr.heap.size) hcell (by have := hb.size; omega)
              have L1 := Lib.hid (fun w => label_any h x w h1 h2 (by omega))
              have L2 := Lib.hid (fun w => refLabel_any h x w h1 h2 hsz)
              obtain ⟨y, hy⟩ : ∃ y, y = labL h (bs x) := ⟨_, rfl⟩
              rw [← hy] at L1 L2
              clear hy hx hc HC HS HS2 CH RCH
              go_wp2_with fail
              refine wp_region_kept (by kernel_rfl) (by kernel_rfl) ?_
              repeat (quiet_step (first
                | (go_at_call 14; exact Calls.kept_of (L1.out _) (Nat.le_refl _))
                | (go_at_call 15; exact Calls.kept_of (L2.out _) (Nat.le_refl _))))
              refine wpQuiet_nil ?_
              intro _ hw'
              obtain ⟨kk, rfl⟩ := hw'
              have hb8 := hb.trans (kk.below.mono hb.size)
              go_wp2
              go_roundw
              case rel => exact ⟨k + 1, by omega, by omega, by go_num, hb8⟩
              case measure => simp [intOf]; omega
            · have hcase : (¬ (k : Int) < (l.length : Int)) ∨ ((k : Int) < (l.length : Int) ∧ ¬ (k : Int) < 3) := by omega
              have HR1 := Lib.hid (HR.out.mono hb (Nat.le_refl _))
              clear hlt hk3
              rcases hcase with hc1 | ⟨hc1, hc2⟩
              all_goals
                go_wp2_with fail
                refine (RCH.out _ HR1.out).mono ?_
                rintro e w2 ⟨rfl, hb2⟩
                have hb3 := hb.trans (hb2.mono hb.size)
                clear hb hb2 HR1
                go_wp2_with fail
                refine (key_any h t _ h1 h2 t1 t2).mono ?_
                rintro e w3 ⟨rfl, hb4⟩
                have hb5 := hb3.trans (hb4.mono hb3.size)
                clear hb3 hb4
                go_wp2_with fail
                refine (refKey_any h t _ h1 h2 t1 t2).mono ?_
                rintro e w4 ⟨rfl, hm4⟩
                have hb6 := below_drawn hb5 hm4
                clear hb5 hm4
                go_wp2_with fail
                refine (home_any h s _ h1 h2 s1 s2).mono ?_
                rintro e w5 ⟨rfl, rfl⟩
                go_wp2_with fail
                refine (refHome_any h s _ h1 h2 s1 s2).mono ?_
                rintro e w5 ⟨rfl, rfl⟩
                go_wp2_with fail
                refine (mixes_any _).mono ?_
                rintro e w6 ⟨rfl, hb7⟩
                go_wp2
                go_ret
                exact ⟨rfl, hb6.trans (hb7.mono hb6.size)⟩
    · have hm3 : 3000 < m := by omega
      have hcase : (¬ (k : Int) < (l.length : Int)) ∨ (k : Int) < (l.length : Int) := by omega
      by_cases hn : 200 < (l.length : Int)
      all_goals
        rcases hcase with hc1 | hc1
        all_goals
          go_wp2_with fail
          refine (mixes_any _).mono ?_
          rintro e w3 ⟨rfl, hb4⟩
          go_wp2
          go_ret
          exact ⟨rfl, hb4⟩
end Go.Proofs.Ytojicajdhlahfaa.Mix
