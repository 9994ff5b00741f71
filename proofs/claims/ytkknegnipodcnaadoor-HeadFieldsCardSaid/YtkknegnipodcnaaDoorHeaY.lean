/- The landed head: Right. -/
import Derived.Test.YtkknegnipodcnaaDoorHeaU
import Derived.Laws.StructEq
namespace Go.Proofs.YtkknegnipodcnaaDoor.Hea
open Go.RowKit Num
set_option linter.unusedVariables false

def eqB (a b : Blk) : Bool := a.tag == b.tag && (a.cls == b.cls && (a.used == b.used && (a.lab == b.lab && (a.name == b.name && (a.next == b.next && (a.prev == b.prev && (a.refs == b.refs && (a.exp == b.exp && (a.typ == b.typ && (a.size == b.size && a.hash == b.hash))))))))))
/-- Two heads compared. -/
theorem eq_blk (a b : Blk) (w : World) : (Op.equalIn 10000 26 a.agg b.agg).run Tryd.prog w = .ok (eqB a b) w := by
  obtain ⟨a0, a1, a2, a3, a4, a5, a6, a7, a8, a9, a10, a11⟩ := a
  obtain ⟨b0, b1, b2, b3, b4, b5, b6, b7, b8, b9, b10, b11⟩ := b
  unfold Blk.agg eqB
  simp only []
  rw [show (10000 : Nat) = 9999 + 1 from rfl, run_equalIn_struct w 9999 26 _ _ (by kernel_rfl) (by kernel_rfl)]
  go_simp
  by_cases h0 : a0 = b0
  case neg => simp [h0]
  subst h0
  by_cases h1 : a1 = b1
  case neg => simp [h1]
  subst h1
  by_cases h2 : a2 = b2
  case neg => simp [h2]
  subst h2
  by_cases h3 : a3 = b3
  case neg => simp [h3]
  subst h3
  by_cases h4 : a4 = b4
  case neg => simp [h4]
  subst h4
  by_cases h5 : a5 = b5
  case neg => simp [h5]
  subst h5
  by_cases h6 : a6 = b6
  case neg => simp [h6]
  subst h6
  by_cases h7 : a7 = b7
  case neg => simp [h7]
  subst h7
  by_cases h8 : a8 = b8
  case neg => simp [h8]
  subst h8
  by_cases h9 : a9 = b9
  case neg => simp [h9]
  subst h9
  by_cases h10 : a10 = b10
  case neg => simp [h10]
  subst h10
  by_cases h11 : a11 = b11
  case neg => simp [h11]
  subst h11
  simp
theorem right_f0 {b : Blk} (h : b.tag = 0) : rightF b = eqB b ⟨0, 0, false, 0, b.name, 0, 0, 0, 0, 0, 0, 0⟩ := by
  unfold rightF eqB
  rw [Bool.eq_iff_iff, decide_eq_true_iff]
  unfold RightP
  cases b.used <;> simp [h] <;> omega
theorem right_f1 {b : Blk} (h : b.tag = 1) : rightF b = (decide (1 ≤ b.cls ∧ b.cls ≤ 9) && (decide (0 ≤ b.size ∧ b.size ≤ 480) && (b.lab == 0 && b.refs == 0))) := by
  unfold rightF
  rw [Bool.eq_iff_iff, decide_eq_true_iff]
  unfold RightP
  simp [h]
  omega
theorem right_f2 {b : Blk} (h : b.tag = 2) : rightF b = (decide (1 ≤ b.cls ∧ b.cls ≤ 9) && (decide (1 ≤ b.lab ∧ b.lab ≤ 63) && eqB b ⟨2, b.cls, false, b.lab, b.name, 0, 0, b.refs, 0, 0, 0, b.hash⟩)) := by
  unfold rightF eqB
  rw [Bool.eq_iff_iff, decide_eq_true_iff]
  unfold RightP
  cases b.used <;> simp [h] <;> omega
theorem right_f3 {b : Blk} (h0 : b.tag ≠ 0) (h1 : b.tag ≠ 1) (h2 : b.tag ≠ 2) : rightF b = false := by
  unfold rightF
  rw [decide_eq_false_iff_not]
  unfold RightP
  omega

set_option maxRecDepth 100000 in
set_option maxHeartbeats 4000000 in
theorem right_any (b : Blk) (w : World) : Calls Tryd.prog 13 #[b.agg] w fun e w' => e = .returned (.bool (rightF b)) ∧ Below w.heap.size w w' := by
  obtain ⟨c0, c1, c2, c3, c4, c5, c6, c7, c8, c9, c10, c11, -, hbel⟩ := BX.first w b
  unfold BW at c0 c1 c2 c3 c4 c5 c6 c7 c8 c9 c10 c11 hbel
  have HB := Lib.hid hbel
  have HC1 := Lib.hid (fun W => between_any 1 b.cls 9 W)
  have HC2 := Lib.hid (fun W => between_any 0 b.size 480 W)
  have HC3 := Lib.hid (fun W => between_any 1 b.lab 63 W)
  have hq0 := fun W => eq_blk b ⟨0, 0, false, 0, b.name, 0, 0, 0, 0, 0, 0, 0⟩ W
  have hq2 := fun W => eq_blk b ⟨2, b.cls, false, b.lab, b.name, 0, 0, b.refs, 0, 0, 0, b.hash⟩ W
  have hr0 := @right_f0 b
  have hr1 := @right_f1 b
  have hr2 := @right_f2 b
  have hr3 := @right_f3 b
  obtain ⟨R, hR⟩ : ∃ R, R = rightF b := ⟨_, rfl⟩
  rw [← hR] at hr0 hr1 hr2 hr3 ⊢
  generalize eqB b ⟨0, 0, false, 0, b.name, 0, 0, 0, 0, 0, 0, 0⟩ = Q0 at hq0 hr0
  generalize eqB b ⟨2, b.cls, false, b.lab, b.name, 0, 0, b.refs, 0, 0, 0, b.hash⟩ = Q2 at hq2 hr2
  generalize decide (1 ≤ b.cls ∧ b.cls ≤ 9) = d1 at HC1 hr1 hr2
  generalize decide (0 ≤ b.size ∧ b.size ≤ 480) = d2 at HC2 hr1
  generalize decide (1 ≤ b.lab ∧ b.lab ≤ 63) = d3 at HC3 hr2
  have HR0 := Lib.hid hr0
  have HR1 := Lib.hid hr1
  have HR2 := Lib.hid hr2
  have HR3 := Lib.hid hr3
  clear hbel hR hr0 hr1 hr2 hr3
  unfold Blk.agg at hq0 hq2 ⊢
  obtain ⟨tag, cls, used, lab, name, next, prev, refs, exp, typ, size, hash⟩ := b
  simp only [] at c0 c1 c2 c3 c4 c5 c6 c7 c8 c9 c10 c11 hq0 hq2 HC1 HC2 HC3 HR0 HR1 HR2 HR3 HB ⊢
  by_cases t0 : tag = 0
  · subst t0
    have HR := Lib.hid (HR0.out rfl)
    clear HR0 HR1 HR2 HR3 HC1 HC2 HC3 hq2
    go_enter Tryd.func13, Tryd.ntmps13
    go_wp2
    go_ret
    exact ⟨ret_bool HR.out.symm, HB.out⟩
  by_cases t1 : tag = 1
  · subst t1
    have HR := Lib.hid (HR1.out rfl)
    clear HR0 HR1 HR2 HR3 HC3 hq0 hq2 t0
    cases d1
    · go_enter Tryd.func13, Tryd.ntmps13
      go_wp2_with fail
      refine (HC1.out _).mono ?_
      rintro e w1 ⟨rfl, rfl⟩
      go_wp2
      go_ret
      exact ⟨ret_bool HR.out.symm, HB.out⟩
    cases d2
    · go_enter Tryd.func13, Tryd.ntmps13
      go_wp2_with fail
      refine (HC1.out _).mono ?_
      rintro e w1 ⟨rfl, rfl⟩
      go_wp2_with fail
      refine (HC2.out _).mono ?_
      rintro e w1 ⟨rfl, rfl⟩
      go_wp2
      go_ret
      exact ⟨ret_bool HR.out.symm, HB.out⟩
    obtain ⟨l0, hl0⟩ : ∃ l0, (lab == 0) = l0 := ⟨_, rfl⟩
    rw [hl0] at HR
    cases l0
    · go_enter Tryd.func13, Tryd.ntmps13
      go_wp2_with fail
      refine (HC1.out _).mono ?_
      rintro e w1 ⟨rfl, rfl⟩
      go_wp2_with fail
      refine (HC2.out _).mono ?_
      rintro e w1 ⟨rfl, rfl⟩
      go_wp2
      go_ret
      exact ⟨ret_bool HR.out.symm, HB.out⟩
    · go_enter Tryd.func13, Tryd.ntmps13
      go_wp2_with fail
      refine (HC1.out _).mono ?_
      rintro e w1 ⟨rfl, rfl⟩
      go_wp2_with fail
      refine (HC2.out _).mono ?_
      rintro e w1 ⟨rfl, rfl⟩
      go_wp2
      go_ret
      exact ⟨ret_bool (by rw [HR.out]; simp), HB.out⟩
  by_cases t2 : tag = 2
  · subst t2
    have HR := Lib.hid (HR2.out rfl)
    clear HR0 HR1 HR2 HR3 HC2 hq0 t0 t1
    cases d1
    · go_enter Tryd.func13, Tryd.ntmps13
      go_wp2_with fail
      refine (HC1.out _).mono ?_
      rintro e w1 ⟨rfl, rfl⟩
      go_wp2
      go_ret
      exact ⟨ret_bool HR.out.symm, HB.out⟩
    cases d3
    · go_enter Tryd.func13, Tryd.ntmps13
      go_wp2_with fail
      refine (HC1.out _).mono ?_
      rintro e w1 ⟨rfl, rfl⟩
      go_wp2_with fail
      refine (HC3.out _).mono ?_
      rintro e w1 ⟨rfl, rfl⟩
      go_wp2
      go_ret
      exact ⟨ret_bool HR.out.symm, HB.out⟩
    · go_enter Tryd.func13, Tryd.ntmps13
      go_wp2_with fail
      refine (HC1.out _).mono ?_
      rintro e w1 ⟨rfl, rfl⟩
      go_wp2_with fail
      refine (HC3.out _).mono ?_
      rintro e w1 ⟨rfl, rfl⟩
      go_wp2
      go_ret
      exact ⟨ret_bool (by rw [HR.out]; simp), HB.out⟩
  · have HR := Lib.hid (HR3.out t0 t1 t2)
    have e0 : (tag == 0) = false := by simpa using t0
    have e1 : (tag == 1) = false := by simpa using t1
    have e2 : (tag == 2) = false := by simpa using t2
    clear HR0 HR1 HR2 HR3 HC1 HC2 HC3 hq0 hq2 t0 t1 t2
    go_enter Tryd.func13, Tryd.ntmps13
    go_wp2
    go_ret
    exact ⟨ret_bool HR.out.symm, HB.out⟩
end Go.Proofs.YtkknegnipodcnaaDoor.Hea
