/- Contracts of the document's watch: kinds and looks. -/
import Derived.Test.YtnpnigeghhcncaaWatE
import Derived.BigQuiet
namespace Go.Proofs.Ytnpnigeghhcncaa.Wat
open Go.RowKit Num Arn
set_option linter.unusedVariables false

theorem part_get (x : List Int) (p q j : Nat) (hj : j < q) : ((x.drop p).take q).getD j 0 = x.getD (p + j) 0 := by simp [List.getD, hj]

set_option maxRecDepth 100000 in
set_option maxHeartbeats 2000000 in
theorem refKind_any (h : Hw) (v : Value) (x : List Int) (lk ft : Nat) (a n : Int) (w : World) (ha : WaR h w v x lk ft) :
    Calls Try.prog 14 #[v, .int .i64 a, .int .i64 n] w fun e w' => e = .returned (.int .i64 (kndA x a n)) ∧ Below w.heap.size w w' := by
  have hl := ha.len
  have HF := Lib.hid (refFits_any h v x lk ft a n w ha)
  have HBy := Lib.hid ha.2.2.2.2
  have HA := Lib.hid ha
  have hv := ha.1
  subst hv
  by_cases h1 : n < 1
  · have hk : kndA x a n = 0 := by
      unfold kndA
      split
      · rename_i hf
        obtain ⟨p, q, rfl, rfl, hpq⟩ := fitB_nat hf
        obtain rfl : q = 0 := by omega
        simp [kndS]
      · rfl
    rw [hk]
    clear hk ha
    go_enter Try.func14, Try.ntmps14
    go_wp2
    go_ret
    exact ⟨rfl, Below.refl _ _⟩
  · by_cases hf : fitB x.length a n = true
    · rw [hf] at HF
      obtain ⟨p, q, rfl, rfl, hpq⟩ := fitB_nat hf
      have hk : kndA x p q = kndS ((x.drop p).take q) := by rw [kndA, if_pos hf, Int.toNat_natCast, Int.toNat_natCast]
      have hyl : ((x.drop p).take q).length = q := by rw [List.length_take, List.length_drop]; omega
      have HG := Lib.hid (fun j (hj : j < q) => part_get x p q j hj)
      rw [hk]
      obtain ⟨y, hy⟩ : ∃ y, y = (x.drop p).take q := ⟨_, rfl⟩
      rw [← hy] at hyl HG ⊢
      have hq1 : 1 ≤ q := by omega
      obtain ⟨c0, -, -⟩ := ha.cells
      have hp1 : (p : Int) < (x.length : Int) := by omega
      have hp0 : (0 : Int) ≤ (p : Int) := by omega
      have hcp : w.cell? ⟨h.b, p, none⟩ = some (.int .u8 (x.getD p 0)) := by
        rw [cell_block ha.2.2.1, List.getElem?_toArray, vals_get _ _ (by omega)]
      obtain ⟨z, hz⟩ : ∃ z, z = x.getD p 0 := ⟨_, rfl⟩
      rw [← hz] at hcp
      have hzb := HBy.out p
      rw [← hz] at hzb
      have hzw : IntKind.i64.wrap z = z := wrap_id (by omega) (by omega)
      have HZ := Lib.hid hz
      have hlg := ha.lt h.g (.inl rfl)
      have hlb := ha.lt h.b (.inr rfl)
      have hr64 : wrap64 z = z := IntWalk.wrap64_in _ (by omega)
      clear hk hf hy ha hz hzw
      go_enter Try.func14, Try.ntmps14
      go_wp2_with fail
      refine HF.out.mono ?_
      rintro e w' ⟨rfl, rfl⟩
      go_wp2
      go_loopw [7] (fun i wr => ∃ m : Nat, 1 ≤ m ∧ m ≤ q ∧ i = .int .i64 m ∧ Hid (∀ j, j < m → x.getD (p + j) 0 = z) ∧ Hid (∃ m, wr = w.drewN m)) (fun i _ => q - (intOf i).toNat)
      case atStart => exact ⟨1, Nat.le_refl _, hq1, rfl, fun j hj => by
        obtain rfl : j = 0 := by omega
        exact HZ.out.symm, 0, rfl⟩
      case round =>
        obtain ⟨m, hm1, hm, rfl, HM, HW⟩ := hrel
        have hbel := Arn.below_drawn (Below.refl w.heap.size w) HW.out
        have e0 := (hbel.cell (p := ⟨h.g, 0, none⟩) hlg).trans c0
        have ep := (hbel.cell (p := ⟨h.b, p, none⟩) hlb).trans hcp
        by_cases hlt : m < q
        · have hlt1 : (m : Int) < (q : Int) := by omega
          obtain ⟨s, hs⟩ : ∃ s : Nat, s = p + m := ⟨_, rfl⟩
          have hs1 : (s : Int) < (x.length : Int) := by omega
          have hs0 : (0 : Int) ≤ (s : Int) := by omega
          have es : wr.cell? ⟨h.b, s, none⟩ = some (.int .u8 (x.getD s 0)) := by
            refine (hbel.cell (p := ⟨h.b, s, none⟩) hlb).trans ?_
            rw [cell_block HA.out.2.2.1, List.getElem?_toArray, vals_get _ _ (by omega)]
          by_cases he : x.getD s 0 = z
          · rw [he] at es
            have HN : Hid (∀ j, j < m + 1 → x.getD (p + j) 0 = z) := fun j hj => by
              by_cases e : j < m
              · exact HM.out j e
              · obtain rfl : j = m := by omega
                rw [← hs]
                exact he
            obtain ⟨hw1, hw2⟩ : IntKind.i64.wrap ((p : Int) + (m : Int)) = (s : Int) ∧ wrap64 ((p : Int) + (m : Int)) = (s : Int) := ⟨(wrap_id (by omega) (by omega)).trans (by omega), (IntWalk.wrap64_in _ (by omega)).trans (by omega)⟩
            clear hs he HM hbel
            go_wp2_with fail
            go_quiet (fail)
            clear hw1 hw2
            go_wp2
            go_roundw
            case rel => exact ⟨m + 1, by omega, by omega, by go_num, HN.out, Arn.drewN_more HW.out _⟩
            case measure => simp [intOf]; omega
          · obtain ⟨u, hu⟩ : ∃ u, u = x.getD s 0 := ⟨_, rfl⟩
            have HR : Hid (kndS y = 0) := by
              unfold Hid kndS
              rw [if_neg]
              rintro ⟨h1, h2⟩
              have e1 := h2 m (by omega)
              rw [HG.out m (by omega), HG.out 0 (by omega), Nat.add_zero, ← hs, ← HZ.out] at e1
              exact he e1
            rw [← hu] at es he
            have huz : (u == z) = false := by simpa using he
            obtain ⟨hw1, hw2⟩ : IntKind.i64.wrap ((p : Int) + (m : Int)) = (s : Int) ∧ wrap64 ((p : Int) + (m : Int)) = (s : Int) := ⟨(wrap_id (by omega) (by omega)).trans (by omega), (IntWalk.wrap64_in _ (by omega)).trans (by omega)⟩
            clear hs HM hbel hu
            go_wp2_with fail
            go_quiet (fail)
            clear hw1 hw2
            go_wp2
            go_ret
            exact ⟨ret_int HR.out.symm, Arn.below_drawn (Below.refl w.heap.size w) (Arn.drewN_more HW.out _)⟩
        · obtain rfl : m = q := by omega
          have HR : Hid (kndS y = z) := by
            have e0 : y.getD 0 0 = z := by rw [HG.out 0 (by omega), Nat.add_zero, ← HZ.out]
            unfold Hid kndS
            rw [if_pos, e0]
            refine ⟨by rintro rfl; simp at hyl; omega, fun j hj => ?_⟩
            rw [e0, HG.out j (by omega)]
            exact HM.out j (by omega)
          clear HM hbel
          go_wp2
          go_ret
          exact ⟨ret_int HR.out.symm, Arn.below_drawn (Below.refl w.heap.size w) HW.out⟩
    · have hf' : fitB x.length a n = false := by simpa using hf
      have hk : kndA x a n = 0 := by rw [kndA, if_neg hf]
      rw [hk]
      rw [hf'] at HF
      clear hk hf hf' ha
      go_enter Try.func14, Try.ntmps14
      go_wp2_with fail
      refine HF.out.mono ?_
      rintro e w' ⟨rfl, rfl⟩
      go_wp2
      go_ret
      exact ⟨rfl, Below.refl _ _⟩

set_option maxRecDepth 100000 in
set_option maxHeartbeats 2000000 in
theorem refLook_any (h : Hw) (v : Value) (x : List Int) (lk ft : Nat) (a n k : Int) (w : World) (ha : WaR h w v x lk ft) (hlk : lk ≤ 1000000) (hft : ft ≤ 1000000) :
    Calls Try.prog 12 #[v, .int .i64 a, .int .i64 n, .int .i64 k] w (Looked 39 h w v x lk ft (lookA x a n k)) := by
  obtain ⟨lk1, hlk1⟩ : ∃ m : Nat, m = lk + 1 := ⟨_, rfl⟩
  obtain ⟨ft1, hft1⟩ : ∃ m : Nat, m = ft + 1 := ⟨_, rfl⟩
  have hs : wrap64 ((lk : Int) + 1) = (lk1 : Int) := by rw [IntWalk.wrap64_in _ (by omega)]; omega
  have hs2 : wrap64 ((ft : Int) + 1) = (ft1 : Int) := by rw [IntWalk.wrap64_in _ (by omega)]; omega
  have HT := Lib.hid (tmod_zero a n)
  have ha1 := ha.tick lk1
  have hf1 : Fr w.heap.size (blkW h) w (w.setCell ⟨h.g, 1, none⟩ (.int .i64 (lk1 : Int))) := (Fr.refl _ _ w).setCell (.inr (.inl rfl)) _
  obtain ⟨-, c1, c2⟩ := ha.cells
  have f1 := ha.free 1
  have hv := ha.1
  subst hv
  obtain ⟨w1, hw1⟩ : ∃ w1, w1 = w.setCell ⟨h.g, 1, none⟩ (.int .i64 (lk1 : Int)) := ⟨_, rfl⟩
  rw [← hw1] at ha1 hf1
  have HF := Lib.hid (refFits_any h _ x lk1 ft a n w1 ha1)
  have HK := Lib.hid (refKind_any h _ x lk1 ft a n w1 ha1)
  obtain ⟨-, -, d2⟩ := ha1.cells
  have f2 := ha1.free 2
  have HA1 := Lib.hid ha1
  have HF1 := Lib.hid hf1
  have hl : lookA x a n k = (isW n && (fitB x.length a n && (decide (a % n = 0) && (decide (k ≠ 0) && decide (kndA x a n = k))))) := rfl
  obtain ⟨r, hr⟩ : ∃ r, r = lookA x a n k := ⟨_, rfl⟩
  obtain ⟨q, hq⟩ : ∃ q, q = kndA x a n := ⟨_, rfl⟩
  obtain ⟨g, hg⟩ : ∃ g, g = fitB x.length a n := ⟨_, rfl⟩
  rw [← hr, ← hq, ← hg] at hl
  rw [← hq] at HK
  rw [← hg] at HF
  rw [← hr]
  have HFin : Hid (∀ w3, Below w1.heap.size w1 w3 → Looked 39 h w (.pointer (some ⟨h.g, 0, none⟩)) x lk ft true (.returned (.bool true)) w3 ∧ Looked 39 h w (.pointer (some ⟨h.g, 0, none⟩)) x lk ft false (.returned (.bool false)) (w3.setCell ⟨h.g, 2, none⟩ (.int .i64 (ft1 : Int))) ∧ w3.cell? ⟨h.g, 2, none⟩ = some (.int .i64 (ft : Int)) ∧ w3.frozen? ⟨h.g, 2, none⟩ = false) := by
    intro w3 hb
    have h3 := HA1.out.below hb
    have hf3 := HF1.out.below hb (HF1.out.size)
    rw [hlk1] at h3
    rw [hft1]
    exact ⟨⟨rfl, h3, hf3⟩, ⟨rfl, h3.tock (ft + 1), hf3.setCell (.inr (.inl rfl)) _⟩, h3.cells.2.2, h3.free 2⟩
  rw [hw1] at HF HK HFin d2 f2
  clear ha hr hq hg ha1 hf1 hlk hft hlk1 hft1 HA1 HF1 hw1
  by_cases hw : isW n = true
  · have hn : n = 1 ∨ n = 2 ∨ n = 4 ∨ n = 8 := by
      simp [isW] at hw
      omega
    by_cases h1 : g = true
    · subst h1
      by_cases hd : a % n = 0
      · have hd' := HT.out.2 hd
        by_cases h2 : k = 0
        · obtain rfl : r = false := by rw [hl]; simp [h2]
          subst h2
          obtain ⟨-, hz, -, -⟩ := HFin.out _ (Below.refl _ _)
          have HZ := Lib.hid hz
          clear hl hz hw hd HT
          rcases hn with rfl | rfl | rfl | rfl
          · go_enter Try.func12, Try.ntmps12
            go_wp2_with fail
            refine HF.out.mono ?_
            rintro e w' ⟨rfl, rfl⟩
            go_wp2
            go_ret
            exact HZ.out
          · go_enter Try.func12, Try.ntmps12
            go_wp2_with fail
            refine HF.out.mono ?_
            rintro e w' ⟨rfl, rfl⟩
            go_wp2
            go_ret
            exact HZ.out
          · go_enter Try.func12, Try.ntmps12
            go_wp2_with fail
            refine HF.out.mono ?_
            rintro e w' ⟨rfl, rfl⟩
            go_wp2
            go_ret
            exact HZ.out
          · go_enter Try.func12, Try.ntmps12
            go_wp2_with fail
            refine HF.out.mono ?_
            rintro e w' ⟨rfl, rfl⟩
            go_wp2
            go_ret
            exact HZ.out
        · have h2' : (k == 0) = false := by simpa using h2
          have h2'' : (k != 0) = true := by simpa using h2
          by_cases h3 : q = k
          · obtain rfl : r = true := by rw [hl, hw]; simp [h2, h3, hd]
            subst h3
            clear hl hw hd HT
            rcases hn with rfl | rfl | rfl | rfl
            · go_enter Try.func12, Try.ntmps12
              go_wp2_with fail
              refine HF.out.mono ?_
              rintro e w' ⟨rfl, rfl⟩
              go_wp2_with fail
              refine HK.out.mono ?_
              rintro e w3 ⟨rfl, hb⟩
              obtain ⟨hz, -, -, -⟩ := HFin.out _ hb
              have HZ := Lib.hid hz
              clear hz
              go_wp2
              go_ret
              exact HZ.out
            · go_enter Try.func12, Try.ntmps12
              go_wp2_with fail
              refine HF.out.mono ?_
              rintro e w' ⟨rfl, rfl⟩
              go_wp2_with fail
              refine HK.out.mono ?_
              rintro e w3 ⟨rfl, hb⟩
              obtain ⟨hz, -, -, -⟩ := HFin.out _ hb
              have HZ := Lib.hid hz
              clear hz
              go_wp2
              go_ret
              exact HZ.out
            · go_enter Try.func12, Try.ntmps12
              go_wp2_with fail
              refine HF.out.mono ?_
              rintro e w' ⟨rfl, rfl⟩
              go_wp2_with fail
              refine HK.out.mono ?_
              rintro e w3 ⟨rfl, hb⟩
              obtain ⟨hz, -, -, -⟩ := HFin.out _ hb
              have HZ := Lib.hid hz
              clear hz
              go_wp2
              go_ret
              exact HZ.out
            · go_enter Try.func12, Try.ntmps12
              go_wp2_with fail
              refine HF.out.mono ?_
              rintro e w' ⟨rfl, rfl⟩
              go_wp2_with fail
              refine HK.out.mono ?_
              rintro e w3 ⟨rfl, hb⟩
              obtain ⟨hz, -, -, -⟩ := HFin.out _ hb
              have HZ := Lib.hid hz
              clear hz
              go_wp2
              go_ret
              exact HZ.out
          · obtain rfl : r = false := by rw [hl]; simp [h3]
            have h3' : (q == k) = false := by simpa using h3
            clear hl hw hd HT
            rcases hn with rfl | rfl | rfl | rfl
            · go_enter Try.func12, Try.ntmps12
              go_wp2_with fail
              refine HF.out.mono ?_
              rintro e w' ⟨rfl, rfl⟩
              go_wp2_with fail
              refine HK.out.mono ?_
              rintro e w3 ⟨rfl, hb⟩
              obtain ⟨-, hz, e2, f3⟩ := HFin.out _ hb
              have HZ := Lib.hid hz
              clear hz
              go_wp2
              go_ret
              exact HZ.out
            · go_enter Try.func12, Try.ntmps12
              go_wp2_with fail
              refine HF.out.mono ?_
              rintro e w' ⟨rfl, rfl⟩
              go_wp2_with fail
              refine HK.out.mono ?_
              rintro e w3 ⟨rfl, hb⟩
              obtain ⟨-, hz, e2, f3⟩ := HFin.out _ hb
              have HZ := Lib.hid hz
              clear hz
              go_wp2
              go_ret
              exact HZ.out
            · go_enter Try.func12, Try.ntmps12
              go_wp2_with fail
              refine HF.out.mono ?_
              rintro e w' ⟨rfl, rfl⟩
              go_wp2_with fail
              refine HK.out.mono ?_
              rintro e w3 ⟨rfl, hb⟩
              obtain ⟨-, hz, e2, f3⟩ := HFin.out _ hb
              have HZ := Lib.hid hz
              clear hz
              go_wp2
              go_ret
              exact HZ.out
            · go_enter Try.func12, Try.ntmps12
              go_wp2_with fail
              refine HF.out.mono ?_
              rintro e w' ⟨rfl, rfl⟩
              go_wp2_with fail
              refine HK.out.mono ?_
              rintro e w3 ⟨rfl, hb⟩
              obtain ⟨-, hz, e2, f3⟩ := HFin.out _ hb
              have HZ := Lib.hid hz
              clear hz
              go_wp2
              go_ret
              exact HZ.out
      · have hd' : ¬ Int.tmod a n = 0 := fun e => hd (HT.out.1 e)
        obtain rfl : r = false := by rw [hl]; simp [hd]
        obtain ⟨-, hz, -, -⟩ := HFin.out _ (Below.refl _ _)
        have HZ := Lib.hid hz
        clear hl hz hw HT
        rcases hn with rfl | rfl | rfl | rfl
        · exact absurd (Int.emod_one a) hd
        · go_enter Try.func12, Try.ntmps12
          go_wp2_with fail
          refine HF.out.mono ?_
          rintro e w' ⟨rfl, rfl⟩
          go_wp2
          go_ret
          exact HZ.out
        · go_enter Try.func12, Try.ntmps12
          go_wp2_with fail
          refine HF.out.mono ?_
          rintro e w' ⟨rfl, rfl⟩
          go_wp2
          go_ret
          exact HZ.out
        · go_enter Try.func12, Try.ntmps12
          go_wp2_with fail
          refine HF.out.mono ?_
          rintro e w' ⟨rfl, rfl⟩
          go_wp2
          go_ret
          exact HZ.out
    · obtain rfl : g = false := by simpa using h1
      obtain rfl : r = false := by rw [hl]; simp
      obtain ⟨-, hz, -, -⟩ := HFin.out _ (Below.refl _ _)
      have HZ := Lib.hid hz
      clear hl hz hw HT
      rcases hn with rfl | rfl | rfl | rfl
      · go_enter Try.func12, Try.ntmps12
        go_wp2_with fail
        refine HF.out.mono ?_
        rintro e w' ⟨rfl, rfl⟩
        go_wp2
        go_ret
        exact HZ.out
      · go_enter Try.func12, Try.ntmps12
        go_wp2_with fail
        refine HF.out.mono ?_
        rintro e w' ⟨rfl, rfl⟩
        go_wp2
        go_ret
        exact HZ.out
      · go_enter Try.func12, Try.ntmps12
        go_wp2_with fail
        refine HF.out.mono ?_
        rintro e w' ⟨rfl, rfl⟩
        go_wp2
        go_ret
        exact HZ.out
      · go_enter Try.func12, Try.ntmps12
        go_wp2_with fail
        refine HF.out.mono ?_
        rintro e w' ⟨rfl, rfl⟩
        go_wp2
        go_ret
        exact HZ.out
  · have hw' : isW n = false := by simpa using hw
    obtain rfl : r = false := by rw [hl, hw']; simp
    obtain ⟨-, hz, -, -⟩ := HFin.out _ (Below.refl _ _)
    have HZ := Lib.hid hz
    simp [isW] at hw'
    obtain ⟨⟨⟨n1, n2⟩, n4⟩, n8⟩ := hw'
    have e1 : (n == 1) = false := by simpa using n1
    have e2 : (n == 2) = false := by simpa using n2
    have e4 : (n == 4) = false := by simpa using n4
    have e8 : (n == 8) = false := by simpa using n8
    clear hl hz hw HT
    go_enter Try.func12, Try.ntmps12
    go_wp2
    go_ret
    exact HZ.out
end Go.Proofs.Ytnpnigeghhcncaa.Wat
