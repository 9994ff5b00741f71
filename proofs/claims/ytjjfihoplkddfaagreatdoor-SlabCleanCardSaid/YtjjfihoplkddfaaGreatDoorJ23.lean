/- The contract of the landed arena's Has; all that is asked of arena's functions. -/
import Derived.Test.YtjjfihoplkddfaaGreatDoorJ4
import Derived.Test.YtjjfihoplkddfaaGreatDoorJ22
import Derived.Lib.IndexMore
import Derived.Lib.IndexBytes
namespace Go.Proofs.YtjjfihoplkddfaaGreatDoor.Arn
open Go.RowKit Num
set_option linter.unusedVariables false

theorem bytesOf_inj {l m : List Int} (hl : IsBytes l) (hm : IsBytes m) (h : Lib.bytesOf l = Lib.bytesOf m) : l = m :=
  strOfNums_inj hl hm (WideShapes.bytes_inj h)
theorem bytesOf_part (l : List Int) (i k : Nat) : ((Lib.bytesOf l).drop i).take k = Lib.bytesOf ((l.drop i).take k) := by
  simp [Lib.bytesOf, List.map_take, List.map_drop]
theorem bytesOf_length (l : List Int) : (Lib.bytesOf l).length = l.length := by simp [Lib.bytesOf]
theorem has_eq {l X : List Int} (hl : IsBytes l) (hx : IsBytes X) : Lib.contains (Lib.bytesOf l) (Lib.bytesOf X) = hasA l X := by
  have key : ∀ i, i + X.length ≤ l.length → Lib.occAt (Lib.bytesOf l) (Lib.bytesOf X) i = ((l.drop i).take X.length == X) := by
    intro i hi
    rw [Lib.occAt_iff_take _ _ _ (by rw [bytesOf_length, bytesOf_length]; exact hi), bytesOf_length, bytesOf_part, Bool.eq_iff_iff, beq_iff_eq, beq_iff_eq]
    exact ⟨bytesOf_inj (part_bytes _ _ hl) hx, fun h => by rw [h]⟩
  rw [Bool.eq_iff_iff]
  unfold Lib.contains hasA
  rw [decide_eq_true_iff, List.any_eq_true]
  constructor
  · intro h
    rcases Lib.index_spec (Lib.bytesOf l) (Lib.bytesOf X) with ⟨h1, -⟩ | ⟨i, h1, h2, h3⟩
    · omega
    · have h3' : Lib.occAt (Lib.bytesOf l) (Lib.bytesOf X) i = true := by first | exact h3 | exact h3.1
      rcases Lib.occAt_room h3' with h4 | h4
      · rw [bytesOf_length, bytesOf_length] at h4
        exact ⟨i, List.mem_range.2 (by omega), by rw [← key i h4]; exact h3'⟩
      · obtain rfl : X = [] := by
          have := congrArg List.length h4
          rw [bytesOf_length] at this
          exact List.length_eq_zero_iff.1 this
        exact ⟨0, List.mem_range.2 (by simp), by simp⟩
  · rintro ⟨i, hi, he⟩
    have hi' := List.mem_range.1 hi
    have hle : i + X.length ≤ l.length := by omega
    rw [← key i hle] at he
    rcases Lib.index_spec (Lib.bytesOf l) (Lib.bytesOf X) with ⟨h1, h2⟩ | ⟨j, h1, -⟩
    · rw [h2 i (by rw [bytesOf_length]; omega)] at he
      cases he
    · omega

/-- What the package variable of the library's searches holds: some number. -/
def Tb (w : World) : Prop := ∃ m : Int, w.cell? ⟨Tryz.lays186_ren.g 1, 0, none⟩ = some (.int .i64 m)
theorem Tb.keep {w w' : World} (hb : Below w.heap.size w w') (h : Tb w) : Tb w' := by
  obtain ⟨m, hm⟩ := h
  exact ⟨m, (hb.cell (p := ⟨_, 0, none⟩) (World.block_lt_of_cell? w _ hm)).trans hm⟩
theorem tb_of {w : World} (h : w.ShapedOpen Tryz.prog) : Tb w := Tryz.laysM186.s1_3 w h

theorem containsC_any (b : Nat) (l : List Int) (u : Value) (X : List Int) (w : World) (hr : Row .u8 w (.slice (some ⟨b, 0, none⟩) l.length l.length) l) (hl : l.length ≤ 1048576) (hx : Row .u8 w u X) (hX : X.length ≤ 1000000) (ht : Tb w) :
    Calls Tryz.prog 187 #[.slice (some ⟨b, 0, none⟩) l.length l.length, u] w fun e w' => e = .returned (.bool (hasA l X)) ∧ ∃ m, w' = w.drewN m := by
  have hbl : IsBytes l := hr.bytes
  have hbx : IsBytes X := hx.bytes
  rw [← has_eq hbl hbx]
  obtain ⟨m, hm⟩ := ht
  obtain ⟨ad, cap, rfl, q2, q3, q4, q5⟩ := hx
  by_cases hn : X = []
  · subst hn
    refine (Tryz.bytes_Contains_none (some ⟨b, 0, none⟩) ad l.length l.length cap w).mono ?_
    rintro e w' ⟨rfl, rfl⟩
    exact ⟨ret_bool (by unfold Lib.contains; rw [show Lib.index (Lib.bytesOf l) (Lib.bytesOf []) = 0 from Lib.index_empty _]; rfl), 0, rfl⟩
  · obtain ⟨xb, xo, rfl, hlt, hc⟩ := q5 hn
    refine Tryz.bytes_Contains_at ⟨b, 0, none⟩ ⟨xb, xo, none⟩ l.length l.length X.length cap l X m w rfl rfl (fun x h => hbl.mem h) (fun x h => hbx.mem h) (fun i hi => ?_) (fun i hi => ?_) (Nat.le_refl _) (by omega) (by omega) hm
    · obtain ⟨ad', cap', e, -, -, -, r5⟩ := hr
      injection e with e1 e2 e3
      obtain ⟨b', o', e4, -, h5⟩ := r5 (by rintro rfl; simp at hi)
      rw [← e1] at e4
      injection e4 with e4
      injection e4 with e4 e5 _
      subst e4 e5
      rw [Addr_add]
      exact h5 i hi
    · rw [Addr_add]
      exact hc i hi

theorem hasC_any (h : Hn) (v : Value) (l : List Int) (u : Value) (X : List Int) (w : World) (ha : ArC h w v l) (hx : Row .u8 w u X) (hX : X.length ≤ 1000000) (ht : Tb w) :
    Calls Tryz.prog 101 #[v, u] w fun e w' => e = .returned (.bool (hasA l X)) ∧ Below w.heap.size w w' := by
  have hl := ha.len
  have HM := Lib.hid (madeC_any h v l w ha)
  have HC := Lib.hid (containsC_any h.b l u X w ha.row (by omega) hx hX ht)
  obtain ⟨c, hc⟩ : ∃ c, c = hasA l X := ⟨_, rfl⟩
  rw [← hc] at HC ⊢
  obtain ⟨rfl, h1, -⟩ := ha
  have c1 := cell_of_one h1
  obtain ⟨ad, cap, rfl, -, -, -, -⟩ := hx
  clear h1 hc
  go_enter Tryz.func101, Tryz.ntmps101
  go_wp2_with fail
  refine HM.out.mono ?_
  rintro e w' ⟨rfl, rfl⟩
  go_wp2_with fail
  refine HC.out.mono ?_
  rintro e w' ⟨rfl, m, rfl⟩
  go_wp2
  go_ret
  exact ⟨rfl, below_drewN (Below.refl _ _) m⟩

end Go.Proofs.YtjjfihoplkddfaaGreatDoor.Arn
