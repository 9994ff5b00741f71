/- Contracts of wire's small functions: with, readLabel, readPointer; cmp.Or. -/
import Derived.Test.YtjhmjimfehanbaaWireL
import Derived.Test.YtjhmjimfehanbaaKit9
namespace Go.Proofs.Ytjhmjimfehanbaa.Wire
open Go.RowKit Fold Name
set_option linter.unusedVariables false

set_option maxRecDepth 100000 in
theorem or_any (v : Value) (x y : Int) (w : World) (hr : Row .i64 w v [x, y]) :
    Calls Try.prog 18 #[v] w fun e w' => e = .returned (.int .i64 (if x = 0 then y else x)) ∧ w = w' := by
  obtain ⟨ad, cap, rfl, q2, q3, q4, q5⟩ := hr
  obtain ⟨b, off, rfl, hlb, hc⟩ := q5 (by simp)
  have c0 : w.cell? ⟨b, off, none⟩ = some (.int .i64 x) := hc 0 (by simp)
  have c1 : w.cell? ⟨b, off + 1, none⟩ = some (.int .i64 y) := hc 1 (by simp)
  clear hc q5 q4 q2 q3
  show Calls Try.prog 18 #[.slice (some ⟨b, off, none⟩) 2 cap] w _
  by_cases hx : x = 0
  · subst hx
    by_cases hy : y = 0
    · subst hy
      go_enter Try.func18, Try.ntmps18
      go_wp2
      refine wp_loop_rounds 3 ?_
      rw [rounds_succ]; go_wp2
      rw [rounds_succ]; go_wp2
      rw [rounds_succ]; go_wp2
      go_ret
      exact ⟨rfl, rfl⟩
    · have hy0 : (y != 0) = true := by simpa using hy
      have hy1 : ¬ y = 0 := hy
      go_enter Try.func18, Try.ntmps18
      go_wp2
      refine wp_loop_rounds 3 ?_
      rw [rounds_succ]; go_wp2
      rw [rounds_succ]; go_wp2
      go_ret
      exact ⟨rfl, rfl⟩
  · have hx0 : (x != 0) = true := by simpa using hx
    rw [if_neg hx]
    go_enter Try.func18, Try.ntmps18
    go_wp2
    refine wp_loop_rounds 3 ?_
    rw [rounds_succ]; go_wp2
    go_ret
    exact ⟨rfl, rfl⟩

theorem infoU8w : (Try.prog.info? 5).map (fun i => (i.zero, i.size, i.bytes)) = some (some (.int .u8 0), 1, 1) := by kernel_rfl

theorem with_any (base : Nat) (v u : Value) (l X : List Int) (w : World) (hown : w.ownsRow base 5 1 v l.length (vals l)) (hu : Row .u8 w u X) (hn : l.length + X.length ≤ 1000000) (hb : base ≤ w.heap.size) :
    Calls Try.prog 27 #[v, u] w fun e w' => ∃ v', e = .returned v' ∧ w'.ownsRow base 5 1 v' (l ++ X).length (vals (l ++ X)) ∧ w.grownBy w' v.ownBlock ∧ (v'.ownBlock = v.ownBlock ∨ v'.ownBlock = some w.heap.size) := by
  obtain ⟨i0, hi, hz0, hz1, hz2⟩ := info_parts infoU8w
  have HO := Lib.hid hown
  have HU := Lib.hid hu
  clear hown hu
  go_enter Try.func27, Try.ntmps27
  go_wp2_with (at_builtin; refine wpList_append_row _ rfl (.tmp 5) (.tmp 6) 22 rfl base 5 i0 (.int .u8 0) Try.underlying22 hi hz0 hz1 hz2 rfl _ _ _ rfl HO.out _ X rfl HU.out (by omega) hb ?_)
  intro v' w' h1 h2 h3
  go_wp2
  go_ret
  exact ⟨_, rfl, by rw [List.length_append]; exact h1, h2, h3⟩

theorem readPointer_short (v : Value) (l : List Int) (k g : Nat) (w : World) (hr : Row .u8 w v l) (hk : k < l.length) (hl : l.length ≤ 100000) (h : ¬ k + 1 < l.length) :
    Calls Try.prog 19 #[v, .int .i64 k, .int .i64 g] w fun e w' => e = .returned (.tuple #[.int .i64 0, .int .i64 3]) ∧ w = w' := by
  obtain ⟨ad, cap, rfl, q2, q3, q4, q5⟩ := hr
  clear q4 q5
  have h1 : (l.length : Int) - (k : Int) < 2 := by omega
  clear h
  go_enter Try.func19, Try.ntmps19
  go_wp2
  go_ret2
  exact ⟨rfl, rfl⟩

set_option maxRecDepth 100000 in
theorem readPointer_any (v : Value) (l : List Int) (k g to : Nat) (w : World) (hr : Row .u8 w v l) (hl : l.length ≤ 100000) (h : k + 1 < l.length) (h192 : 192 ≤ l.getD k 0) (hto : ((l.getD k 0 - 192) * 256 + l.getD (k + 1) 0).toNat = to) (hg : g ≤ 100000) :
    Calls Try.prog 19 #[v, .int .i64 k, .int .i64 g] w fun e w' => e = .returned (.tuple (if to < g then #[.int .i64 to, .int .i64 0] else #[.int .i64 0, .int .i64 4])) ∧ ∃ m, w' = w.drewN m := by
  have hb1 := hr.bytes k
  have hb2 := hr.bytes (k + 1)
  obtain ⟨ad, cap, rfl, q2, q3, q4, q5⟩ := hr
  obtain ⟨b, off, rfl, hlb, hc⟩ := q5 (by rintro rfl; simp at h)
  have c0 := hc k (by omega)
  have c1 := hc (k + 1) h
  clear q4 q5 hc
  obtain ⟨n, hn⟩ := Int.eq_ofNat_of_zero_le hb1.1
  obtain ⟨m, hm⟩ := Int.eq_ofNat_of_zero_le hb2.1
  rw [hn] at c0 h192 hb1 hto
  rw [hm] at c1 hb2 hto
  obtain ⟨k1, hk1⟩ : ∃ k1, k1 = k + 1 := ⟨_, rfl⟩
  rw [← hk1] at c1
  have e1 : IntKind.i64.wrap ((k : Int) + 1) = (k1 : Int) := (wrap_id (by omega) (by omega)).trans (by omega)
  obtain ⟨d, hd⟩ : ∃ d, d = n - 192 := ⟨_, rfl⟩
  have e2 : IntKind.u8.wrap ((n : Int) - 192) = (d : Int) := by
    rw [show (n : Int) - 192 = (d : Int) by omega]
    simp [IntKind.wrap, IntKind.signed, IntKind.bits]
    omega
  have g1 : (k : Int) < (l.length : Int) := by omega
  have g2 : (k1 : Int) < (l.length : Int) := by omega
  have g3 : (0 : Int) ≤ (k : Int) := by omega
  have g4 : (0 : Int) ≤ (k1 : Int) := by omega
  have g5 : ¬ (l.length : Int) - (k : Int) < 2 := by omega
  have hdm : (d : Int) * 256 + m = to := by omega
  have hd64 : (d : Int) < 64 := by omega
  have hm256 : (m : Int) < 256 := by omega
  have HDM := Lib.hid hdm
  by_cases htg : to < g
  · have htg1 : ¬ (g : Int) ≤ (to : Int) := by omega
    rw [if_pos htg]
    clear hn hm hb1 hb2 hto h hk1 hd htg hdm h192
    go_enter Try.func19, Try.ntmps19
    go_wp2
    go_quiet (fail)
    rw [HDM.out]
    go_wp2
    go_ret2
    exact ⟨rfl, _, rfl⟩
  · have htg1 : (g : Int) ≤ (to : Int) := by omega
    rw [if_neg htg]
    clear hn hm hb1 hb2 hto h hk1 hd htg hdm h192
    go_enter Try.func19, Try.ntmps19
    go_wp2
    go_quiet (fail)
    rw [HDM.out]
    go_wp2
    go_ret2
    exact ⟨rfl, _, rfl⟩

def LGot (w : World) (s : ByteArray) (c : Int) (e : Ending) (w' : World) : Prop := e = .returned (.tuple #[.string s, .int .i64 c]) ∧ Below w.heap.size w w'

theorem readLabel_form (v : Value) (l : List Int) (k n : Nat) (w : World) (hr : Row .u8 w v l) (hk : k < l.length) (hn : l.getD k 0 = n) (h : 63 < n) :
    Calls Try.prog 20 #[v, .int .i64 k] w (LGot w ByteArray.empty 4) := by
  have hb1 := hr.bytes k
  obtain ⟨ad, cap, rfl, q2, q3, q4, q5⟩ := hr
  obtain ⟨b, off, rfl, hlb, hc⟩ := q5 (by rintro rfl; simp at hk)
  have c0 := hc k hk
  rw [hn] at c0 hb1
  have g1 : (k : Int) < (l.length : Int) := by omega
  have g3 : (0 : Int) ≤ (k : Int) := by omega
  have h1 : (63 : Int) < (n : Int) := by omega
  have h2 : (n : Int) < 256 := by omega
  clear q4 q5 hc hn hb1 h hk
  go_enter Try.func20, Try.ntmps20
  go_wp2
  go_ret2
  exact ⟨rfl, Below.refl _ _⟩

theorem readLabel_short (v : Value) (l : List Int) (k n : Nat) (w : World) (hr : Row .u8 w v l) (hk : k < l.length) (hn : l.getD k 0 = n) (h : n < 64) (h2 : ¬ k + 1 + n ≤ l.length) :
    Calls Try.prog 20 #[v, .int .i64 k] w (LGot w ByteArray.empty 3) := by
  obtain ⟨ad, cap, rfl, q2, q3, q4, q5⟩ := hr
  obtain ⟨b, off, rfl, hlb, hc⟩ := q5 (by rintro rfl; simp at hk)
  have c0 := hc k hk
  rw [hn] at c0
  have g1 : (k : Int) < (l.length : Int) := by omega
  have g3 : (0 : Int) ≤ (k : Int) := by omega
  have h1 : ¬ (63 : Int) < (n : Int) := by omega
  have h3 : (k : Int) + 1 ≤ (l.length : Int) := by omega
  have h4 : (l.length : Int) - ((k : Int) + 1) < (n : Int) := by omega
  have h5 : (l.length : Int) ≤ (cap : Int) := by omega
  clear q4 q5 hc hn h hk h2
  go_enter Try.func20, Try.ntmps20
  go_wp2
  all_goals (go_ret2; exact ⟨rfl, Below.refl _ _⟩)

theorem readLabel_any (v : Value) (l : List Int) (k n : Nat) (w : World) (hr : Row .u8 w v l) (hn : l.getD k 0 = n) (h0 : 1 ≤ n) (h : n < 64) (h2 : k + 1 + n ≤ l.length) (s : ByteArray) (hs : s = strOfNums ((l.drop (k + 1)).take n)) :
    Calls Try.prog 20 #[v, .int .i64 k] w (LGot w (if labS s = 0 then lowS s else ByteArray.empty) (if labS s = 0 then 0 else 4)) := by
  have hrow := Lib.hid hr
  obtain ⟨ad, cap, rfl, q2, q3, q4, q5⟩ := hr
  obtain ⟨b, off, rfl, hlb, hc⟩ := q5 (by rintro rfl; simp at h2)
  have c0 := hc k (by omega)
  rw [hn] at c0
  have hr2 : Row .u8 w (.slice (some ⟨b, off + (k + 1), none⟩) n (cap - (k + 1))) ((l.drop (k + 1)).take n) := by
    have h1 := Row.tail (n := k + 1) hrow.out (by omega)
    rw [← List.length_drop] at h1
    exact Row.take h1 (by rw [List.length_drop]; omega)
  have hsn : s.size = n := by rw [hs, strOfNums_size, List.length_take, List.length_drop]; omega
  have hback := Row.string (P := Try.prog) hr2 22 9 5 Try.underlying22 Try.underlying5 Try.underlying9
  rw [← hs] at hback
  have HL := Lib.hid (label_any s w)
  have HLow := Lib.hid (fun u => lower_any s u (by omega))
  have g1 : (k : Int) < (l.length : Int) := by omega
  have g3 : (0 : Int) ≤ (k : Int) := by omega
  have h1 : ¬ (63 : Int) < (n : Int) := by omega
  have h3 : (k : Int) + 1 ≤ (l.length : Int) := by omega
  have h4 : ¬ (l.length : Int) - ((k : Int) + 1) < (n : Int) := by omega
  have h5 : (l.length : Int) ≤ (cap : Int) := by omega
  have h6 : (n : Int) ≤ (cap : Int) - ((k : Int) + 1) := by omega
  have hkc : ¬ cap = k + 1 := by omega
  clear q4 q5 hc hn h h2 hs hr2 hrow h0
  by_cases hlab : labS s = 0
  · simp only [if_pos hlab]
    rw [hlab] at HL
    clear hlab
    go_enter Try.func20, Try.ntmps20
    go_wp2_with fail
    refine HL.out.mono ?_
    rintro e w1 ⟨rfl, hb1⟩
    go_wp2_with fail
    refine (HLow.out _).mono ?_
    rintro e w2 ⟨rfl, hb2⟩
    go_wp2
    go_ret2
    exact ⟨rfl, hb1.trans (hb2.mono hb1.size)⟩
  · simp only [if_neg hlab]
    have hlab2 : (labS s != 0) = true := by simpa using hlab
    obtain ⟨y, hy⟩ : ∃ y, y = labS s := ⟨_, rfl⟩
    rw [← hy] at HL hlab2
    clear hlab hy
    go_enter Try.func20, Try.ntmps20
    go_wp2_with fail
    refine HL.out.mono ?_
    rintro e w1 ⟨rfl, hb1⟩
    go_wp2
    go_ret2
    exact ⟨rfl, hb1⟩
end Go.Proofs.Ytjhmjimfehanbaa.Wire
