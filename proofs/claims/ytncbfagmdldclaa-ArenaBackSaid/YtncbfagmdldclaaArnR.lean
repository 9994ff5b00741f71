/- The acts that read, and that write into a view. -/
import Derived.Test.YtncbfagmdldclaaArnQ
namespace Go.Proofs.Ytncbfagmdldclaa.Arn
open Go.RowKit Num
set_option linter.unusedVariables false

theorem conv_row {w : World} {v : Value} {l : List Int} (h : Row .u8 w v l) : (convert 32 9 v).run Try.prog w = .ok (.string (strOfNums l)) w :=
  Row.string (P := Try.prog) h 32 9 5 Try.underlying32 Try.underlying5 Try.underlying9
theorem NewRow.below {B : Nat} {w w' : World} {v : Value} {l : List Int} (h : NewRow B w v l) (hb : Below w.heap.size w w') : NewRow B w' v l := by
  refine ⟨h.1.mono hb (Nat.le_refl _), fun b off n c e hne => ?_⟩
  obtain ⟨h1, h2⟩ := h.2 b off n c e hne
  obtain ⟨k, e2, hk⟩ := h.1.block hne
  rw [e] at e2
  simp only [Value.ownBlock, Option.some.injEq] at e2
  subst e2
  exact ⟨h1, fun i hi => (hb.frozen (p := ⟨b, off + i, none⟩) hk).trans (h2 i hi)⟩
/-- A byte that is written elsewhere leaves both as they are. -/
theorem Two.set {H : Type} {blk : H → Nat → Prop} {Ar : H → World → Value → List Int → Prop} {Tb : World → Prop} (D : Does blk Ar Tb) {B M : Nat} {w w' : World} {va vr : Value} {l : List Int} (h : Two blk Ar B w va vr l) (hb : Below w.heap.size w w') {p : Addr} (hp : w.heap.size ≤ p.block) (u : Value) : Two blk Ar B (w'.setCell p u) va vr l := by
  exact h.below D (hb.setCell hp u)

set_option maxRecDepth 100000 in
set_option maxHeartbeats 8000000 in
theorem act_read {H : Type} {blk : H → Nat → Prop} {Ar : H → World → Value → List Int → Prop} {Tb : World → Prop} (D : Does blk Ar Tb) (va vr u : Value) (l b : List Int) (a t n x v : Int) (wB w : World) (hb : Below wB.heap.size wB w) (h64 : is64 a) (ht : Two blk Ar wB.heap.size w va vr l) :
    Calls Try.prog 11 #[va, vr, (⟨3, a, t, n, x, v, u, b⟩ : Act).agg] w fun e w' => e = .returned (.bool true) ∧ Two blk Ar wB.heap.size w' va vr l ∧ Below wB.heap.size wB w' := by
  have HD := Lib.hid D
  have hal := below_made w (.cells #[.int .i64 3, .int .i64 a, .int .i64 t, .int .i64 n, .int .i64 x, .int .u64 v, u] 34)
  have hm := ht.mid D (below_le hb rfl) hal (Box.made w ⟨3, a, t, n, x, v, u, b⟩)
  replace hb := hb.trans (hal.mono (below_le hb rfl))
  have HT0 := Lib.hid hm.two
  have HX := Lib.hid hm.box
  have HB0 := Lib.hid hb
  obtain ⟨h, g, r, ⟨ha, hr, -⟩, -⟩ := hm
  have HRd := Lib.hid (D.read h va l a n _ ha h64)
  have hrl := hr.lt
  obtain ⟨P, c, hP⟩ : ∃ P c, reaA l a n = (P, c) := ⟨_, _, rfl⟩
  rw [hP] at HRd
  have HR2 := Lib.hid (fun (W : World) (hW : Two blk Ar wB.heap.size W va vr l) => show Calls Try.prog 26 #[vr, .int .i64 a, .int .i64 n] W (ReadGot W (P, c)) from by
    obtain ⟨h, g, b, h1, h2, -⟩ := hW
    rw [← hP]
    exact refRead_any vr l g b a n W h2)
  unfold ReadGot at HR2
  simp only [] at HRd HR2
  have hcc : (c == c) = true := by simp
  clear ht hal hb ha hr hrl hP
  unfold Act.agg
  go_enter Try.func11, Try.ntmps11
  go_wp2_with fail
  refine HRd.out.mono ?_
  rintro e w1 ⟨u1, rfl, hb1, hn1⟩
  have HT1 := Lib.hid (HT0.out.below HD.out hb1)
  have HB1 := Lib.hid (HB0.out.trans (hb1.mono (below_le HB0.out rfl)))
  have HN1 := Lib.hid hn1
  obtain ⟨c0, c1, c2, c3, c4, c5, c6⟩ := (HX.out.below hb1).cells
  have HW1 := Lib.hid hb1
  obtain ⟨a1, k1, rfl, -, -, -, -⟩ := hn1.1
  clear hb1 hn1 HRd
  go_wp2_with fail
  refine (HR2.out _ HT1.out).mono ?_
  rintro e w2 ⟨u2, rfl, hb2, hr2⟩
  have hn2 := HN1.out.below hb2
  have k1' := conv_row hn2.1
  have k2' := conv_row hr2
  obtain ⟨S, hS⟩ : ∃ S, S = strOfNums P := ⟨_, rfl⟩
  rw [← hS] at k1' k2'
  have hSS : (S.toList == S.toList) = true := by simp
  have HT2 := Lib.hid (HT1.out.below HD.out hb2)
  have HB2 := Lib.hid (HB1.out.trans (hb2.mono (below_le HB1.out rfl)))
  obtain ⟨a2, k2, rfl, -, -, -, -⟩ := hr2
  by_cases hp : P = []
  · have hpl : ¬ (0 : Int) < (P.length : Int) := by rw [hp]; simp
    clear hn2 hS hp
    go_wp2
    go_ret
    exact ⟨rfl, HT2.out, HB2.out⟩
  · have hpl : (0 : Int) < (P.length : Int) := by have := List.length_pos_iff.2 hp; omega
    obtain ⟨ad, cap, he, q1, q2, -, q5⟩ := hn2.1
    injection he with e1 e2 e3
    subst e1 e3
    obtain ⟨b1, o1, rfl, hlt, hc⟩ := q5 hp
    obtain ⟨hge, hfz⟩ := hn2.2 b1 o1 _ _ rfl hp
    have hcell := hc 0 (by omega)
    have hfr := hfz 0 (by omega)
    rw [Nat.add_zero] at hcell hfr
    generalize P.getD 0 0 = y at hcell
    have HE : Hid (∀ z, Two blk Ar wB.heap.size (w2.setCell ⟨b1, o1, none⟩ z) va vr l ∧ Below wB.heap.size wB (w2.setCell ⟨b1, o1, none⟩ z)) := fun z =>
      ⟨HT0.out.set HD.out (M := 0) (HW1.out.trans (hb2.mono HW1.out.size)) hge z, HB2.out.setCell (Nat.le_trans (below_le HB0.out rfl) hge) z⟩
    clear hn2 hS hp q5 hc hfz hge
    go_wp2
    go_ret
    exact ⟨rfl, (HE.out _).1, (HE.out _).2⟩
end Go.Proofs.Ytncbfagmdldclaa.Arn
