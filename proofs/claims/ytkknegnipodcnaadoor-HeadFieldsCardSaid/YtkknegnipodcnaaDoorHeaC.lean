/- The document's Right. -/
import Derived.Test.YtkknegnipodcnaaDoorHeaB
namespace Go.Proofs.YtkknegnipodcnaaDoor.Hea
open Go.RowKit Num
set_option linter.unusedVariables false

/-- All fields that a block with that tag has not are 0. -/
def noneF (b : Blk) (k : Nat) : Prop := ∀ j : Nat, j < k → (whF b.tag j).2 = 0 → numF b j = 0
theorem u64_zero {n : Int} (h0 : 0 ≤ n) (h1 : n ≤ 480) (h : IntKind.u64.wrap n = 0) : n = 0 := by
  rw [u64_id h0 (by omega)] at h
  exact h
theorem none_zero {b : Blk} (ht : b.tag = 0) (hs : 0 ≤ b.size ∧ b.size ≤ 480) (h : noneF b 12) : b.next = 0 ∧ b.prev = 0 ∧ b.exp = 0 ∧ b.typ = 0 ∧ b.size = 0 ∧ b.hash = 0 ∧ b.refs = 0 := by
  unfold noneF at h
  rw [ht] at h
  exact ⟨h 5 (by decide) (by decide), h 6 (by decide) (by decide), h 7 (by decide) (by decide), h 8 (by decide) (by decide), u64_zero hs.1 hs.2 (h 9 (by decide) (by decide)), h 10 (by decide) (by decide), h 11 (by decide) (by decide)⟩
theorem none_one {b : Blk} (ht : b.tag = 1) (h : noneF b 12) : b.refs = 0 := by
  unfold noneF at h
  rw [ht] at h
  exact h 11 (by decide) (by decide)
theorem none_two {b : Blk} (ht : b.tag = 2) (hs : 0 ≤ b.size ∧ b.size ≤ 480) (h : noneF b 12) : b.next = 0 ∧ b.prev = 0 ∧ b.exp = 0 ∧ b.typ = 0 ∧ b.size = 0 := by
  unfold noneF at h
  rw [ht] at h
  exact ⟨h 5 (by decide) (by decide), h 6 (by decide) (by decide), h 7 (by decide) (by decide), h 8 (by decide) (by decide), u64_zero hs.1 hs.2 (h 9 (by decide) (by decide))⟩
theorem right_none {b : Blk} (h : RightP b) : noneF b 12 := by
  intro j hj hw
  have hk : j = 0 ∨ j = 1 ∨ j = 2 ∨ j = 3 ∨ j = 4 ∨ j = 5 ∨ j = 6 ∨ j = 7 ∨ j = 8 ∨ j = 9 ∨ j = 10 ∨ j = 11 := by omega
  rcases h with ⟨h0, h1, h2, h3, h4, h5, h6, h7, h8, h9, h10⟩ | ⟨h0, h1, h2, h3, h4, h5, h6⟩ | ⟨h0, h1, h2, h3, h4, h5, h6, h7, h8, h9, h10⟩
  · rcases hk with rfl | rfl | rfl | rfl | rfl | rfl | rfl | rfl | rfl | rfl | rfl | rfl <;> simp [whF, h0, numF, h4, h5, h6, h7, h8, h9, h10] at hw ⊢
    exact u64_id (by omega) (by omega)
  · rcases hk with rfl | rfl | rfl | rfl | rfl | rfl | rfl | rfl | rfl | rfl | rfl | rfl <;> simp [whF, h0, numF, h6] at hw ⊢
  · rcases hk with rfl | rfl | rfl | rfl | rfl | rfl | rfl | rfl | rfl | rfl | rfl | rfl <;> simp [whF, h0, numF, h6, h7, h8, h9, h10] at hw ⊢
    exact u64_id (by omega) (by omega)
theorem right_zero {b : Blk} (ht : b.tag = 0) (hs : 0 ≤ b.size ∧ b.size ≤ 480) (h : noneF b 12) : rightF b = (decide (b.cls = 0) && (!b.used && decide (b.lab = 0))) := by
  obtain ⟨h1, h2, h3, h4, h5, h6, h7⟩ := none_zero ht hs h
  unfold rightF RightP
  rw [Bool.eq_iff_iff]
  simp [ht, h1, h2, h3, h4, h5, h6, h7]
theorem right_one {b : Blk} (ht : b.tag = 1) (hs : 0 ≤ b.size ∧ b.size ≤ 480) (h : noneF b 12) : rightF b = (decide (1 ≤ b.cls) && (decide (b.cls ≤ 9) && decide (b.lab = 0))) := by
  have h1 := none_one ht h
  unfold rightF RightP
  rw [Bool.eq_iff_iff]
  simp [ht, h1, hs]
theorem right_two {b : Blk} (ht : b.tag = 2) (hs : 0 ≤ b.size ∧ b.size ≤ 480) (h : noneF b 12) : rightF b = (decide (1 ≤ b.cls) && (decide (b.cls ≤ 9) && (!b.used && (decide (1 ≤ b.lab) && decide (b.lab ≤ 63))))) := by
  obtain ⟨h1, h2, h3, h4, h5⟩ := none_two ht hs h
  unfold rightF RightP
  rw [Bool.eq_iff_iff]
  simp [ht, h1, h2, h3, h4, h5]
theorem right_bad {b : Blk} (h : b.tag < 0 ∨ 2 < b.tag ∨ b.size < 0 ∨ 480 < b.size) : rightF b = false := by
  unfold rightF
  rw [decide_eq_false_iff_not]
  unfold RightP
  omega

set_option maxRecDepth 100000 in
set_option maxHeartbeats 4000000 in
theorem refRight_any (b : Blk) (hb : b.Ok) (w : World) : Calls Tryd.prog 14 #[b.agg] w fun e w' => e = .returned (.bool (rightF b)) ∧ Below w.heap.size w w' := by
  have hx := BX.first w b
  have HN := Lib.hid (fun k hk W => refNumber_any b hb k hk W)
  have HBd := Lib.hid (numF_bd hb)
  clear hb
  by_cases hbad : b.tag < 0 ∨ 2 < b.tag ∨ b.size < 0 ∨ 480 < b.size
  · rw [right_bad hbad]
    obtain ⟨c0, -, -, -, -, -, -, -, -, -, c10, -, -, hbel⟩ := hx
    unfold BW at c0 c10 hbel
    unfold Blk.agg
    obtain ⟨tag, cls, used, lab, name, next, prev, refs, exp, typ, size, hash⟩ := b
    simp only [] at c0 c10 hbel hbad
    have HB := Lib.hid hbel
    clear hbel HN HBd
    rcases (show tag < 0 ∨ (0 ≤ tag ∧ 2 < tag) ∨ (0 ≤ tag ∧ tag ≤ 2 ∧ size < 0) ∨ (0 ≤ tag ∧ tag ≤ 2 ∧ 0 ≤ size ∧ 480 < size) by omega) with g | ⟨g1, g2⟩ | ⟨g1, g2, g3⟩ | ⟨g1, g2, g3, g4⟩
    all_goals
      clear hbad
      go_enter Tryd.func14, Tryd.ntmps14
      go_wp2
      go_ret
      exact ⟨rfl, HB.out⟩
  · have hs : 0 ≤ b.size ∧ b.size ≤ 480 := by omega
    have ht : 0 ≤ b.tag ∧ b.tag ≤ 2 := by omega
    have HRN : Hid (¬ noneF b 12 → rightF b = false) := fun h => by
      unfold rightF
      rw [decide_eq_false_iff_not]
      exact fun h1 => h (right_none h1)
    have HR0 : Hid (b.tag = 0 → noneF b 12 → rightF b = (decide (b.cls = 0) && (!b.used && decide (b.lab = 0)))) := fun h0 h => right_zero h0 hs h
    have HR1 : Hid (b.tag = 1 → noneF b 12 → rightF b = (decide (1 ≤ b.cls) && (decide (b.cls ≤ 9) && decide (b.lab = 0)))) := fun h0 h => right_one h0 hs h
    have HR2 : Hid (b.tag = 2 → noneF b 12 → rightF b = (decide (1 ≤ b.cls) && (decide (b.cls ≤ 9) && (!b.used && (decide (1 ≤ b.lab) && decide (b.lab ≤ 63)))))) := fun h0 h => right_two h0 hs h
    have HNo : Hid (∀ k, noneF b (k + 1) ↔ noneF b k ∧ ((whF b.tag k).2 = 0 → numF b k = 0)) := fun k => by
      unfold noneF
      constructor
      · exact fun h => ⟨fun j hj => h j (by omega), h k (by omega)⟩
      · rintro ⟨h1, h2⟩ j hj
        by_cases e : j < k
        · exact h1 j e
        · obtain rfl : j = k := by omega
          exact h2
    have HUp : Hid (∀ k, k ≤ 12 → noneF b 12 → noneF b k) := fun k hk h j hj => h j (by omega)
    have HZero : Hid (noneF b 0) := fun j hj => by omega
    have HW := Lib.hid (fun (k : Int) W => refWhere_any b.tag k W)
    obtain ⟨BB, hBB⟩ : ∃ BB : World → Prop, BB = fun W => BX w W b := ⟨_, rfl⟩
    have HBB : Hid (∀ W V, BB W → Below W.heap.size W V → BB V) := fun W V h hb => by rw [hBB] at h ⊢; exact h.below hb
    have HBel : Hid (∀ W, BB W → Below w.heap.size w W) := fun W h => by rw [hBB] at h; exact h.bel
    have HCell : Hid (∀ W, BB W → W.cell? ⟨w.heap.size, 0, none⟩ = some (.int .i64 b.tag) ∧ W.cell? ⟨w.heap.size, 1, none⟩ = some (.int .i64 b.cls) ∧ W.cell? ⟨w.heap.size, 2, none⟩ = some (.bool b.used) ∧ W.cell? ⟨w.heap.size, 3, none⟩ = some (.int .i64 b.lab) ∧ W.cell? ⟨w.heap.size, 4, none⟩ = some (.int .u32 b.name) ∧ W.cell? ⟨w.heap.size, 5, none⟩ = some (.int .u32 b.next) ∧ W.cell? ⟨w.heap.size, 6, none⟩ = some (.int .u32 b.prev) ∧ W.cell? ⟨w.heap.size, 7, none⟩ = some (.int .u32 b.refs) ∧ W.cell? ⟨w.heap.size, 8, none⟩ = some (.int .u64 b.exp) ∧ W.cell? ⟨w.heap.size, 9, none⟩ = some (.int .u16 b.typ) ∧ W.cell? ⟨w.heap.size, 10, none⟩ = some (.int .i64 b.size) ∧ W.cell? ⟨w.heap.size, 11, none⟩ = some (.int .u32 b.hash)) := fun W h => by
      rw [hBB] at h
      exact ⟨h.c0, h.c1, h.c2, h.c3, h.c4, h.c5, h.c6, h.c7, h.c8, h.c9, h.c10, h.c11⟩
    have HX : Hid (BB (BW w b)) := by unfold Hid; rw [hBB]; exact hx
    obtain ⟨NF, hNF⟩ : ∃ NF : Nat → Prop, NF = noneF b := ⟨_, rfl⟩
    obtain ⟨R, hR⟩ : ∃ R, R = rightF b := ⟨_, rfl⟩
    obtain ⟨num, hnum⟩ : ∃ num : Nat → Int, num = numF b := ⟨_, rfl⟩
    rw [← hNF] at HRN HR0 HR1 HR2 HNo HUp HZero
    rw [← hR] at HRN HR0 HR1 HR2 ⊢
    rw [← hnum] at HNo HN HBd
    clear hbad hBB hNF hR hnum hx
    unfold BW at HX
    unfold Blk.agg at HN ⊢
    obtain ⟨tag, cls, used, lab, name, next, prev, refs, exp, typ, size, hash⟩ := b
    simp only [] at HR0 HR1 HR2 HNo HW HCell HX HN hs ht
    obtain ⟨c0, -, -, -, -, -, -, -, -, -, c10, -⟩ := HCell.out _ HX.out
    obtain ⟨t1, t2⟩ := ht
    obtain ⟨s1, s2⟩ := hs
    have t1' : decide (tag < 0) = false := by rw [decide_eq_false_iff_not]; omega
    have t2' : decide (2 < tag) = false := by rw [decide_eq_false_iff_not]; omega
    have s1' : decide (size < 0) = false := by rw [decide_eq_false_iff_not]; omega
    have s2' : decide (480 < size) = false := by rw [decide_eq_false_iff_not]; omega
    go_enter Tryd.func14, Tryd.ntmps14
    go_wp2
    clear c0 c10
    go_loopw [3] (fun i wr => ∃ k : Nat, k ≤ 12 ∧ i = .int .i64 k ∧ Hid (BB wr) ∧ Hid (NF k)) (fun i _ => 12 - (intOf i).toNat)
    case atStart => exact ⟨0, Nat.zero_le _, rfl, HX, HZero⟩
    case round =>
      obtain ⟨k, hk, rfl, HV, HF⟩ := hrel
      by_cases hlt : k < 12
      · have hlt1 : (k : Int) < 12 := by omega
        have hno := HNo.out k
        obtain ⟨c0, -⟩ := HCell.out _ HV.out
        have HWk := Lib.hid (HW.out k wr)
        obtain ⟨a, ha⟩ : ∃ a, a = (whF tag k).1 := ⟨_, rfl⟩
        obtain ⟨n, hn⟩ : ∃ n, n = (whF tag k).2 := ⟨_, rfl⟩
        rw [← ha, ← hn] at HWk
        rw [← hn] at hno
        have HNoK := Lib.hid hno
        clear ha hn hno
        by_cases hz : n = 0
        · subst hz
          have HNk := Lib.hid (HN.out k hlt)
          obtain ⟨y, hy⟩ : ∃ y, y = num k := ⟨_, rfl⟩
          rw [← hy] at HNk HNoK
          clear hy
          by_cases hy0 : y = 0
          · subst hy0
            have HF2 : Hid (NF (k + 1)) := HNoK.out.2 ⟨HF.out, fun _ => rfl⟩
            go_wp2_with fail
            refine HWk.out.mono ?_
            rintro e w1 ⟨rfl, hb1⟩
            have HV1 := Lib.hid (HBB.out _ _ HV.out hb1)
            obtain ⟨d0, d1, d2, d3, d4, d5, d6, d7, d8, d9, d10, d11⟩ := HCell.out _ HV1.out
            clear hb1 c0
            go_wp2_with fail
            refine (HNk.out w1).mono ?_
            rintro e w2 ⟨rfl, hb2⟩
            have HV2 := Lib.hid (HBB.out _ _ HV1.out hb2)
            clear hb2 d0 d1 d2 d3 d4 d5 d6 d7 d8 d9 d10 d11
            go_wp2
            go_roundw
            case rel => exact ⟨k + 1, by omega, by go_num, HV2, HF2⟩
            case measure => simp [intOf]; omega
          · have hyn : (y != 0) = true := by simpa using hy0
            have HF2 : Hid (R = false) := HRN.out (fun h => hy0 ((HNoK.out.1 (HUp.out (k + 1) (by omega) h)).2 rfl))
            go_wp2_with fail
            refine HWk.out.mono ?_
            rintro e w1 ⟨rfl, hb1⟩
            have HV1 := Lib.hid (HBB.out _ _ HV.out hb1)
            obtain ⟨d0, d1, d2, d3, d4, d5, d6, d7, d8, d9, d10, d11⟩ := HCell.out _ HV1.out
            clear hb1 c0
            go_wp2_with fail
            refine (HNk.out w1).mono ?_
            rintro e w2 ⟨rfl, hb2⟩
            have HV2 := Lib.hid (HBB.out _ _ HV1.out hb2)
            clear hb2 d0 d1 d2 d3 d4 d5 d6 d7 d8 d9 d10 d11
            go_wp2
            go_ret
            exact ⟨ret_bool HF2.out.symm, HBel.out _ HV2.out⟩
        · have hzn : (n == 0) = false := by simpa using hz
          have HF2 : Hid (NF (k + 1)) := HNoK.out.2 ⟨HF.out, fun h => absurd h hz⟩
          go_wp2_with fail
          refine HWk.out.mono ?_
          rintro e w1 ⟨rfl, hb1⟩
          have HV1 := Lib.hid (HBB.out _ _ HV.out hb1)
          clear hb1 c0
          go_wp2
          go_roundw
          case rel => exact ⟨k + 1, by omega, by go_num, HV1, HF2⟩
          case measure => simp [intOf]; omega
      · obtain rfl : k = 12 := by omega
        obtain ⟨c0, c1, c2, c3, -⟩ := HCell.out _ HV.out
        have HBe := Lib.hid (HBel.out _ HV.out)
        rcases (show tag = 0 ∨ tag = 1 ∨ tag = 2 by omega) with rfl | rfl | rfl
        · have HR := Lib.hid (HR0.out rfl HF.out)
          by_cases h1 : cls = 0
          · subst h1
            cases used
            all_goals
              go_wp2
              go_ret
              exact ⟨ret_bool (by rw [HR.out]; simp [Bool.beq_eq_decide_eq]), HBe.out⟩
          · have h1' : (cls == 0) = false := by simpa using h1
            go_wp2
            go_ret
            exact ⟨ret_bool (by rw [HR.out]; simp [h1]), HBe.out⟩
        · have HR := Lib.hid (HR1.out rfl HF.out)
          by_cases h1 : cls < 1
          · go_wp2
            go_ret
            exact ⟨ret_bool (by rw [HR.out]; simp; omega), HBe.out⟩
          · by_cases h2 : 9 < cls
            · go_wp2
              go_ret
              exact ⟨ret_bool (by rw [HR.out]; simp; omega), HBe.out⟩
            · have h1' : decide (cls < 1) = false := by simpa using h1
              have h2' : decide (9 < cls) = false := by simpa using h2
              have h3 : 1 ≤ cls := by omega
              have h4 : cls ≤ 9 := by omega
              cases used
              all_goals
                go_wp2
                go_ret
                exact ⟨ret_bool (by rw [HR.out]; simp [h3, h4, Bool.beq_eq_decide_eq]), HBe.out⟩
        · have HR := Lib.hid (HR2.out rfl HF.out)
          by_cases h1 : cls < 1
          · go_wp2
            go_ret
            exact ⟨ret_bool (by rw [HR.out]; simp; omega), HBe.out⟩
          · by_cases h2 : 9 < cls
            · go_wp2
              go_ret
              exact ⟨ret_bool (by rw [HR.out]; simp; omega), HBe.out⟩
            · have h1' : decide (cls < 1) = false := by simpa using h1
              have h2' : decide (9 < cls) = false := by simpa using h2
              have h3 : 1 ≤ cls := by omega
              have h4 : cls ≤ 9 := by omega
              cases used
              · by_cases h5 : 1 ≤ lab
                · by_cases h6 : lab ≤ 63
                  · have h5' : decide (1 ≤ lab) = true := by simpa using h5
                    have h6' : decide (lab ≤ 63) = true := by simpa using h6
                    go_wp2
                    go_ret
                    exact ⟨ret_bool (by rw [HR.out]; simp [h3, h4, h5, h6]), HBe.out⟩
                  · have h5' : decide (1 ≤ lab) = true := by simpa using h5
                    have h6' : decide (lab ≤ 63) = false := by simpa using h6
                    go_wp2
                    go_ret
                    exact ⟨ret_bool (by rw [HR.out]; simp [h3, h4, h5, h6]), HBe.out⟩
                · have h5' : decide (1 ≤ lab) = false := by simpa using h5
                  go_wp2
                  go_ret
                  exact ⟨ret_bool (by rw [HR.out]; simp [h3, h4]; omega), HBe.out⟩
              · go_wp2
                go_ret
                exact ⟨ret_bool (by rw [HR.out]; simp), HBe.out⟩
end Go.Proofs.YtkknegnipodcnaaDoor.Hea
