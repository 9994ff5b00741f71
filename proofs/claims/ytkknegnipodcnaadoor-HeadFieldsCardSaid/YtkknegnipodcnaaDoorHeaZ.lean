/- The landed head: all that is asked of its plain functions. -/
import Derived.Test.YtkknegnipodcnaaDoorHeaX
import Derived.Test.YtkknegnipodcnaaDoorHeaH
namespace Go.Proofs.YtkknegnipodcnaaDoor.Hea
open Go.RowKit Num
set_option linter.unusedVariables false

set_option maxRecDepth 100000 in
set_option maxHeartbeats 4000000 in
theorem encode_any (b : Blk) (hb : b.Ok) (w : World) (ht : Tab w) :
    Calls Tryd.prog 9 #[b.agg] w fun e w' => ∃ u, e = .returned (.tuple #[u, .int .i64 (encF b).2]) ∧ Below w.heap.size w w' ∧ Row .u8 w' u (encF b).1 := by
  by_cases hr : RightP b
  · have hR : rightF b = true := by unfold rightF; exact decide_eq_true hr
    have he : encF b = (encL b, 0) := by unfold encF; rw [if_pos hR]
    rw [he]
    have h := fun W => right_any b W
    rw [hR] at h
    exact encode_yes b hb hr w ht h
  · have hR : rightF b = false := by unfold rightF; exact decide_eq_false hr
    have he : encF b = ([], 2) := by unfold encF; rw [if_neg (by rw [hR]; exact Bool.false_ne_true)]
    rw [he]
    have h := fun W => right_any b W
    rw [hR] at h
    have HRi := Lib.hid h
    obtain ⟨c0, c1, c2, c3, c4, c5, c6, c7, c8, c9, c10, c11, -, hbel⟩ := BX.first w b
    unfold BW at c0 c1 c2 c3 c4 c5 c6 c7 c8 c9 c10 c11 hbel
    unfold Blk.agg at HRi ⊢
    have HB := Lib.hid hbel
    clear h hR he hr hb ht hbel
    go_enter Tryd.func9, Tryd.ntmps9
    go_wp2_with fail
    refine (HRi.out _).mono ?_
    rintro e w1 ⟨rfl, hb1⟩
    have HB1 := Lib.hid (HB.out.trans (hb1.mono HB.out.size))
    clear hb1
    go_wp2
    go_ret2
    exact ⟨_, rfl, HB1.out, Row.nil _ _⟩
theorem does : Does Tab :=
  ⟨fun w w' hb h => h.keep hb, fun t f w ht _ _ => where_any t f w ht,
    fun t w ht _ => (size_any t w).mono fun e w' ⟨h1, h2⟩ => ⟨h1, by subst h2; exact Below.refl _ _⟩,
    fun b w ht _ => right_any b w, fun b w ht hb => encode_any b hb w ht, fun v l w ht hr hl => decode_any v l w ht hr (by omega)⟩
end Go.Proofs.YtkknegnipodcnaaDoor.Hea
