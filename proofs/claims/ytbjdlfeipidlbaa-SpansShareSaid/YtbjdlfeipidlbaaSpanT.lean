/- The contract of the landed Cut of spans. -/
import Derived.Test.YtbjdlfeipidlbaaSpanR
namespace Go.Proofs.Ytbjdlfeipidlbaa.Span
open Go.RowKit Rec
set_option linter.unusedVariables false

set_option maxRecDepth 100000 in
set_option maxHeartbeats 2000000 in
theorem cut_out (v : Value) (l : List Int) (a m : Int) (w : World) (hr : Row .u8 w v l) (hl : l.length ≤ 3000) (h1 : -9223372036854775808 ≤ a) (h2 : a ≤ 9223372036854775807) (h3 : -9223372036854775808 ≤ m) (h4 : m ≤ 9223372036854775807) (hf : fitS l.length a m = false) :
    Calls Try.prog 11 #[v, .agg #[.int .i64 a, .int .i64 m]] w fun e w' => e = .returned (.tuple #[.slice none 0 0, .int .i64 6]) ∧ Below w.heap.size w w' := by
  obtain ⟨ad, cap, rfl, q2, q3, -, -⟩ := hr
  have hn : ¬ (0 ≤ a ∧ 0 ≤ m ∧ a ≤ l.length ∧ m ≤ (l.length : Int) - a) := by
    intro h
    have : fitS l.length a m = true := by simp [fitS]; omega
    rw [hf] at this
    cases this
  clear hf
  by_cases ha : a < 0
  · clear hn
    go_enter Try.func11, Try.ntmps11
    go_wp2
    go_ret2
    exact ⟨rfl, below_made _ _⟩
  · by_cases hm : m < 0
    · clear hn
      go_enter Try.func11, Try.ntmps11
      go_wp2
      go_ret2
      exact ⟨rfl, below_made _ _⟩
    · have hgt : (l.length : Int) - a < m := by omega
      have hw : IntKind.i64.wrap ((l.length : Int) - a) = (l.length : Int) - a := wrap_id (by omega) (by omega)
      obtain ⟨d, hd⟩ : ∃ d, d = (l.length : Int) - a := ⟨_, rfl⟩
      have hd' := hd.symm
      clear hn hd
      go_enter Try.func11, Try.ntmps11
      go_wp2
      go_ret2
      exact ⟨rfl, below_made _ _⟩

/-- What Cut answers where a part fits. -/
def CutAt (w : World) (v : Value) (a m : Nat) (e : Ending) (w' : World) : Prop :=
  Below w.heap.size w w' ∧ ∃ x, e = .returned (.tuple #[.slice x m m, .int .i64 0]) ∧ (0 < m → ∃ b off n c, v = .slice (some ⟨b, off, none⟩) n c ∧ x = some ⟨b, off + a, none⟩)

set_option maxRecDepth 100000 in
set_option maxHeartbeats 2000000 in
theorem cut_in (v : Value) (l : List Int) (a m : Nat) (w : World) (hr : Row .u8 w v l) (hl : l.length ≤ 3000) (hf : a + m ≤ l.length) :
    Calls Try.prog 11 #[v, .agg #[.int .i64 a, .int .i64 m]] w (CutAt w v a m) := by
  obtain ⟨ad, cap, rfl, q2, q3, -, q5⟩ := hr
  obtain ⟨s, hs⟩ : ∃ s, s = a + m := ⟨_, rfl⟩
  have E1 := Lib.hid (end_at (a : Int) (m : Int) (s : Int) (by omega) (by omega) (by omega))
  obtain ⟨c1, c2, hz⟩ := one_box (Below.refl (w.alloc (.cells #[.int .i64 (a : Int), .int .i64 (m : Int)] 31)).heap.size _)
  have k1 := Kept.cell c1 (show w.heap.size < (w.alloc (.cells #[.int .i64 (a : Int), .int .i64 (m : Int)] 31)).heap.size by omega)
  have k2 := Kept.cell c2 (show w.heap.size < (w.alloc (.cells #[.int .i64 (a : Int), .int .i64 (m : Int)] 31)).heap.size by omega)
  have HB0 := Lib.hid (below_made w (.cells #[.int .i64 (a : Int), .int .i64 (m : Int)] 31))
  have hw : IntKind.i64.wrap ((l.length : Int) - (a : Int)) = ((l.length - a : Nat) : Int) := (wrap_id (by omega) (by omega)).trans (by omega)
  obtain ⟨d, hd⟩ : ∃ d, d = l.length - a := ⟨_, rfl⟩
  rw [← hd] at hw
  have hmd : (m : Int) ≤ (d : Int) := by omega
  have ha0 : (0 : Int) ≤ (a : Int) := by omega
  have hm0 : (0 : Int) ≤ (m : Int) := by omega
  have has : (a : Int) ≤ (s : Int) := by omega
  have hsc : (s : Int) ≤ (cap : Int) := by omega
  clear c1 c2 hz hd
  have HQ := Lib.hid q5
  have HF := Lib.hid hf
  by_cases hm : m = 0
  · subst hm
    obtain rfl : a = s := by omega
    clear hs q5 hf
    go_enter Try.func11, Try.ntmps11
    go_wp2_with fail
    refine wp_region_kept (by kernel_rfl) (by kernel_rfl) ?_
    repeat (go_big_quiet_step ((go_at_call 24; exact Calls.kept_of (E1.out _ _ _ rfl rfl) (Nat.le_refl _))))
    refine wpQuiet_nil ?_
    intro _ hw'
    obtain ⟨kk, rfl⟩ := hw'
    have hb1 := HB0.out.trans (kk.below.mono HB0.out.size)
    go_wp2
    go_ret2
    exact ⟨hb1, _, rfl, fun h => absurd h (by omega)⟩
  · have hne : ¬ s = a := by omega
    have hsm : s - a = m := by omega
    clear hs q5 hf
    go_enter Try.func11, Try.ntmps11
    go_wp2_with fail
    refine wp_region_kept (by kernel_rfl) (by kernel_rfl) ?_
    repeat (go_big_quiet_step ((go_at_call 24; exact Calls.kept_of (E1.out _ _ _ rfl rfl) (Nat.le_refl _))))
    refine wpQuiet_nil ?_
    intro _ hw'
    obtain ⟨kk, rfl⟩ := hw'
    have hb1 := HB0.out.trans (kk.below.mono HB0.out.size)
    go_wp2
    go_ret2
    refine ⟨hb1, _, rfl, fun hm => ?_⟩
    obtain ⟨b, off, rfl, -, -⟩ := HQ.out (by rintro rfl; have := HF.out; simp at this; omega)
    exact ⟨b, off, _, _, rfl, by rw [Option.map_some, Addr_add]⟩
end Go.Proofs.Ytbjdlfeipidlbaa.Span
