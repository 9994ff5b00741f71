/- Contracts of the document's arena: Read, Write, Zero, Move. -/
import Derived.Test.YtncbfagmdldclaaArnA
import Derived.BigRegion
import Derived.Deep.AppendLies
namespace Go.Proofs.Ytncbfagmdldclaa.Arn
open Go.RowKit Num
set_option linter.unusedVariables false

/-- What a slice [lo:hi] of a row is, as a walk shows it. -/
theorem Row.cutA {w : World} {b off n c lo hi : Nat} {l : List Int} (h : Row .u8 w (.slice (some ⟨b, off, none⟩) n c) l) (h1 : lo ≤ hi) (h2 : hi ≤ l.length) (a : Option Addr) (m k : Nat) (hm : m = hi - lo) (hk : k = c - lo) (ha : a = some ⟨b, off + lo, none⟩ ∨ hi = lo) : Row .u8 w (.slice a m k) ((l.drop lo).take (hi - lo)) := by
  subst hm hk
  obtain ⟨ad, cap, e, q2, q3, q4, q5⟩ := h
  injection e with e1 e2 e3
  subst e1 e2 e3
  have hL : ((l.drop lo).take (hi - lo)).length = hi - lo := by rw [List.length_take, List.length_drop]; omega
  refine ⟨a, c - lo, by rw [hL], by rw [hL]; omega, by omega, fun i hi' => ?_, fun hne => ?_⟩
  · rw [hL] at hi'
    have := q4 (lo + i) (by omega)
    simpa [List.getD, hi'] using this
  · have hpos : 0 < hi - lo := by rw [← hL]; exact List.length_pos_iff.2 hne
    obtain ⟨b', off', e4, hlt, hc⟩ := q5 (by rintro rfl; simp at h2; omega)
    injection e4 with e4
    injection e4 with e5 e6 _
    subst e5 e6
    rcases ha with rfl | h0
    · refine ⟨b, off + lo, rfl, hlt, fun i hi' => ?_⟩
      rw [hL] at hi'
      rw [Nat.add_assoc, hc (lo + i) (by omega)]
      simp [List.getD, hi']
    · omega

def ReadGot (w : World) (r : List Int × Int) (e : Ending) (w' : World) : Prop := ∃ u, e = .returned (.tuple #[u, .int .i64 r.2]) ∧ Below w.heap.size w w' ∧ Row .u8 w' u r.1

theorem row_owned {w : World} {base n : Nat} {t : TypeId} {v : Value} {l : List Int} (h : w.ownsRow base t 1 v n (vals l)) (hn : l.length = n) (hb : IsBytes l) : Row .u8 w v l := row_of_owns h hn hb

theorem owns_slice {w : World} {base : Nat} {e : TypeId} {size : Nat} {v : Value} {n : Nat} {xs : List Value} (h : w.ownsRow base e size v n xs) : ∃ a c, v = .slice a n c := by
  rcases h.2 with ⟨rfl, rfl⟩ | ⟨g, cap, cur, rfl, _⟩
  · exact ⟨none, 0, rfl⟩
  · exact ⟨_, _, rfl⟩

set_option maxRecDepth 100000 in
set_option maxHeartbeats 2000000 in
theorem refRead_any (v : Value) (l : List Int) (g b : Nat) (a m : Int) (w : World) (hr : RefA w v l g b) :
    Calls Try.prog 26 #[v, .int .i64 a, .int .i64 m] w (ReadGot w (reaA l a m)) := by
  have HF := Lib.hid (refFits_any v l g b a m w hr)
  obtain ⟨i0, hi, hz0, hz1, hz2⟩ := info_parts infoB
  obtain ⟨off, n, c, rfl, h2, h3, h4, h5, h6⟩ := hr
  have hby : IsBytes l := h3.bytes
  obtain ⟨ad, cap, he, p2, p3, -, -⟩ := id h3
  injection he with e1 e2 e3
  subst e1 e2 e3
  by_cases hf : fitB l.length a m = true
  · rw [hf] at HF
    have hre : reaA l a m = ((l.drop a.toNat).take m.toNat, 0) := by rw [reaA, if_pos hf]
    rw [hre]
    obtain ⟨x, y, rfl, rfl, hxy⟩ := fitB_nat hf
    simp only [Int.toNat_natCast]
    have HBy := Lib.hid (part_bytes x y hby)
    have HOwn := Lib.hid (own_empty w 5)
    have hal := below_made w (.cells #[] 5)
    have c1 := (hal.cell (p := ⟨g, 0, none⟩) (lt_of_block h2)).trans (cell_of_one h2)
    have HR := Lib.hid (h3.mono hal (Nat.le_refl _))
    have hw : IntKind.i64.wrap ((x : Int) + (y : Int)) = ((x + y : Nat) : Int) := (wrap_id (by omega) (by omega)).trans (by omega)
    obtain ⟨s, hs⟩ : ∃ s, s = x + y := ⟨_, rfl⟩
    rw [← hs] at hw hxy
    have HS := Lib.hid hs
    have hxs : x ≤ s := by omega
    have hcl : l.length ≤ c := p2
    have hal2 := Lib.hid hal
    have hlen : ((l.drop x).take (s - x)).length = s - x := by rw [List.length_take, List.length_drop]; omega
    have hsy : y = s - x := by omega
    rw [← hsy] at hlen
    obtain ⟨X, hX⟩ : ∃ X, X = (l.drop x).take y := ⟨_, rfl⟩
    rw [← hX] at hlen HBy ⊢
    have HRX : Hid (∀ a m k, m = y → k = c - x → (a = some ⟨b, off + x, none⟩ ∨ y = 0) → Row .u8 (w.alloc (.cells #[] 5)) (.slice a m k) X) := by
      intro a m k h1 h2 h3
      rw [hX, hsy]
      exact Row.cutA HR.out hxs hxy a m k (by omega) h2 (by rcases h3 with h | h; exact .inl h; exact .inr (by omega))
    have HEnd : Hid (∀ v' w', w'.ownsRow w.heap.size 5 1 v' X.length (vals X) → (w.alloc (.cells #[] 5)).grownBy w' (some w.heap.size) → ReadGot w (X, 0) (.returned (.tuple #[v', .int .i64 0])) w') := by
      intro v' w' ho hg
      exact ⟨v', rfl, hal.grown hg (le_alloc _ (Nat.le_refl _)) (fun k hk => by cases hk; exact Nat.le_refl _), row_of_owns ho rfl HBy.out⟩
    have hX63 : 0 + X.length ≤ 140737488355328 := by omega
    have HXl := Lib.hid hlen
    clear hf hre h2 h3 hal hby hs hsy hal2 hX hlen HBy HR
    by_cases hcx : c = x
    · have hy0 : y = 0 := by have := HS.out; omega
      have hX0 : X = [] := List.eq_nil_of_length_eq_zero (by have := HXl.out; omega)
      have hsx : s = x := by have := HS.out; omega
      subst hX0 hy0 hsx hcx
      clear HS HXl hX63
      go_enter Try.func26, Try.ntmps26
      go_wp2_with fail
      refine HF.out.mono ?_
      rintro e w' ⟨rfl, rfl⟩
      go_wp2
      go_ret2
      exact HEnd.out _ _ HOwn.out (World.grownBy.refl _ _)
    · have hsx : ¬ s = x ∨ s = x := by omega
      rcases hsx with hsx | rfl
      · have hsm : s - x = y := by have := HS.out; omega
        go_enter Try.func26, Try.ntmps26
        go_wp2_with fail
        refine HF.out.mono ?_
        rintro e w' ⟨rfl, rfl⟩
        go_wp2_with (at_builtin; refine wpList_append_row _ rfl (.tmp 13) (.tmp 22) 32 rfl w.heap.size 5 i0 (.int .u8 0) Try.underlying32 hi hz0 hz1 hz2 rfl _ _ [] rfl HOwn.out _ X rfl (HRX.out _ _ _ rfl rfl (.inl rfl)) hX63 (le_alloc _ (Nat.le_refl _)) ?_)
        intro v' w2 hown hgrow hblk
        have HE := Lib.hid (HEnd.out v' w2 hown hgrow)
        obtain ⟨a1, c1', rfl⟩ := owns_slice hown
        clear hown hgrow hblk
        go_wp2
        go_ret2
        exact HE.out
      · have hy0 : y = 0 := by have := HS.out; omega
        subst hy0
        go_enter Try.func26, Try.ntmps26
        go_wp2_with fail
        refine HF.out.mono ?_
        rintro e w' ⟨rfl, rfl⟩
        go_wp2_with (at_builtin; refine wpList_append_row _ rfl (.tmp 13) (.tmp 22) 32 rfl w.heap.size 5 i0 (.int .u8 0) Try.underlying32 hi hz0 hz1 hz2 rfl _ _ [] rfl HOwn.out _ X rfl (HRX.out _ _ _ rfl rfl (.inl rfl)) hX63 (le_alloc _ (Nat.le_refl _)) ?_)
        intro v' w2 hown hgrow hblk
        have HE := Lib.hid (HEnd.out v' w2 hown hgrow)
        obtain ⟨a1, c1', rfl⟩ := owns_slice hown
        clear hown hgrow hblk
        go_wp2
        go_ret2
        exact HE.out
  · have hf' : fitB l.length a m = false := by simpa using hf
    rw [hf'] at HF
    have hre : reaA l a m = ([], 6) := by rw [reaA, if_neg hf]
    rw [hre]
    clear hf hf' hre h2
    go_enter Try.func26, Try.ntmps26
    go_wp2_with fail
    refine HF.out.mono ?_
    rintro e w' ⟨rfl, rfl⟩
    go_wp2
    go_ret2
    exact ⟨_, rfl, Below.refl _ _, Row.nil _ _⟩

/-- What a writing call of the document's arena comes to. -/
def WroteA (w : World) (v : Value) (g b : Nat) (r : List Int × Int) (e : Ending) (w' : World) : Prop :=
  e = .returned (.int .i64 r.2) ∧ ∃ b', RefA w' v r.1 g b' ∧ (b' = b ∨ w.heap.size ≤ b') ∧ Fr w.heap.size (fun k => k = g) w w'

set_option maxRecDepth 100000 in
set_option maxHeartbeats 4000000 in
theorem refWrite_any (v u : Value) (l X : List Int) (g b : Nat) (a : Int) (w : World) (hr : RefA w v l g b) (hx : Row .u8 w u X) (hxl : X.length ≤ 1000000) :
    Calls Try.prog 27 #[v, .int .i64 a, u] w (WroteA w v g b (wriA l a X)) := by
  have HF := Lib.hid (refFits_any v l g b a (X.length : Int) w hr)
  have HRA := Lib.hid hr
  obtain ⟨i0, hi, hz0, hz1, hz2⟩ := info_parts infoB
  obtain ⟨off, n, c, rfl, h2, h3, h4, h5, h6⟩ := hr
  have hby : IsBytes l := h3.bytes
  have hlg := lt_of_block h2
  obtain ⟨ad, cap, he, p2, p3, -, -⟩ := id h3
  injection he with e1 e2 e3
  subst e1 e2 e3
  have HX0 := Lib.hid hx
  have hbx : IsBytes X := hx.bytes
  obtain ⟨adx, capx, rfl, x2, x3, -, -⟩ := hx
  by_cases hf : fitB l.length a X.length = true
  · rw [hf] at HF
    have hre : wriA l a X = (wrL l a.toNat X, 0) := by rw [wriA, if_pos hf]
    rw [hre]
    obtain ⟨x, y, rfl, hy, hxy⟩ := fitB_nat hf
    obtain rfl : X.length = y := by omega
    simp only [Int.toNat_natCast]
    have hwl := wrL_length l x X hxy
    have hwb := wrL_bytes x hby hbx
    have hal0 : Below w.heap.size w (w.alloc (.cells #[] 5)).drew := (below_made w (.cells #[] 5)).drew
    have hs0 : w.heap.size ≤ (w.alloc (.cells #[] 5)).drew.heap.size := hal0.size
    have HOwn := Lib.hid (own_empty w 5).drew
    have cw := cell_of_one h2
    have ca := (hal0.cell (p := ⟨g, 0, none⟩) hlg).trans cw
    have ca' : (w.alloc (.cells #[] 5)).cell? ⟨g, 0, none⟩ = some (.slice (some ⟨b, off, none⟩) l.length c) := ca
    have hw : IntKind.i64.wrap ((x : Int) + (X.length : Int)) = ((x + X.length : Nat) : Int) := (wrap_id (by omega) (by omega)).trans (by omega)
    obtain ⟨s, hs⟩ : ∃ s, s = x + X.length := ⟨_, rfl⟩
    rw [← hs] at hw hxy
    have hxs : x ≤ s := by omega
    have hxl2 : x ≤ l.length := by omega
    have HT : Hid (∀ k m p (W : World), Below w.heap.size w W → k = some ⟨b, off, none⟩ → m = x → p = c → Row .u8 W (.slice k m p) (l.take x)) := by
      rintro k m p W hb rfl rfl rfl
      exact Row.take (h3.mono hb (Nat.le_refl _)) hxl2
    have HDr : Hid (∀ k m p (W : World), Below w.heap.size w W → k = (if c = s then some ⟨b, off, none⟩ else some ⟨b, off + s, none⟩) → m = l.length - s → p = c - s → Row .u8 W (.slice k m p) (l.drop s)) := by
      rintro k m p W hb rfl rfl rfl
      by_cases h : c = s
      · have e : l.drop s = [] := List.drop_eq_nil_of_le (by omega)
        rw [e]
        refine ⟨_, c - s, by rw [show l.length - s = 0 by omega]; rfl, by simp, by omega, fun i hi => by simp at hi, fun h => absurd rfl h⟩
      · rw [if_neg h]
        exact Row.tail (h3.mono hb (Nat.le_refl _)) hxy
    obtain ⟨A, hA⟩ : ∃ A, A = l.take x := ⟨_, rfl⟩
    obtain ⟨D, hD⟩ : ∃ D, D = l.drop s := ⟨_, rfl⟩
    rw [← hA] at HT
    rw [← hD] at HDr
    have hAl : A.length = x := by rw [hA, List.length_take]; omega
    have hDl : D.length = l.length - s := by rw [hD, List.length_drop]
    have hW : wrL l x X = A ++ X ++ D := by rw [hA, hD, hs]; simp [wrL]
    obtain ⟨R, hR⟩ : ∃ R, R = A ++ X ++ D := ⟨_, rfl⟩
    rw [hW, ← hR] at hwl hwb ⊢
    have HR := Lib.hid hR
    have HWL := Lib.hid hwl
    have HWB := Lib.hid hwb
    have hm1 : 0 + A.length ≤ 140737488355328 := by omega
    have hm2 : 0 + A.length + X.length ≤ 140737488355328 := by omega
    have hm3 : 0 + A.length + X.length + D.length ≤ 140737488355328 := by omega
    have HH2 := Lib.hid h2
    have HA0 := Lib.hid hal0
    have hsl : (s : Int) ≤ (l.length : Int) := by omega
    have hxi : (x : Int) ≤ (c : Int) := by omega
    have hx0 : (0 : Int) ≤ (x : Int) := by omega
    have hsi : (0 : Int) ≤ (s : Int) := by omega
    have HEnd : Hid (∀ (W3 : World) v3 n3 L3, W3.ownsRow w.heap.size 5 1 v3 n3 (vals L3) → L3 = R → Below w.heap.size w W3 → WroteA w (.pointer (some ⟨g, 0, none⟩)) g b (R, 0) (.returned (.int .i64 0)) (W3.setCell ⟨g, 0, none⟩ v3)) := by
      rintro W3 v3 n3 L3 ho hL3 hB
      subst hL3
      have hn : L3.length = n3 := by have := ho.1; rw [vals_length] at this; omega
      have hrow := row_of_owns ho hn HWB.out
      obtain ⟨_, ⟨-, h0⟩ | ⟨g3, cap3, cur3, rfl, hg3, hh3, -⟩⟩ := ho
      · rw [HWL.out] at hn; omega
      · have hf0 := (Fr.refl W3.heap.size (fun k => k = g) W3).setCell (p := ⟨g, 0, none⟩) (.inr rfl) (.slice (some ⟨g3, 0, none⟩) n3 cap3)
        refine ⟨rfl, g3, ⟨0, n3, cap3, rfl, one_setCell ((hB.block g hlg).trans HH2.out), hrow.fr hf0 (fun _ k hk => ?_), by simpa using lt_of_block hh3, by rw [HWL.out]; exact h5, by rw [HWL.out]; omega⟩, .inr hg3, (Fr.of_below (S := fun k => k = g) hB).setCell (p := ⟨g, 0, none⟩) (.inr rfl) _⟩
        simp only [Value.ownBlock, Option.some.injEq] at hk
        have := lt_of_block hh3
        omega
    clear hf hre h2 h3 hby hbx hy hs hA hD hwl hwb hW hal0 hR
    go_enter Try.func27, Try.ntmps27
    go_wp2_with fail
    refine HF.out.mono ?_
    rintro e w' ⟨rfl, rfl⟩
    go_wp2_with fail
    go_region_law (first
      | (refine step_append_row _ (by rfl) (.tmp 14) (.tmp 20) 32 (by rfl) w.heap.size 5 i0 (.int .u8 0) Try.underlying32 hi hz0 hz1 hz2 rfl _ 0 [] (by rfl) HOwn.out _ A (by rfl) (HT.out _ _ _ _ HA0.out rfl rfl rfl) hm1 hs0 ?_
         intro v1 W1 ho1 hg1 hk1 hn1
         have hB1 := HA0.out.grown hg1 hs0 (fun r hr => (HOwn.out.lt r hr).1)
         have cw1 := (hB1.cell (p := ⟨g, 0, none⟩) hlg).trans cw)
      | (refine step_append_row _ (by rfl) (.tmp 21) (.tmp 22) 32 (by rfl) w.heap.size 5 i0 (.int .u8 0) Try.underlying32 hi hz0 hz1 hz2 rfl _ _ _ (by rfl) ho1 _ X (by rfl) (HX0.out.mono hB1 (Nat.le_refl _)) hm2 hB1.size ?_
         intro v2 W2 ho2 hg2 hk2 hn2
         have hB2 := hB1.grown hg2 hB1.size (fun r hr => (ho1.lt r hr).1)
         have cw2 := (hB2.cell (p := ⟨g, 0, none⟩) hlg).trans cw)
      | (refine step_append_row _ (by rfl) (.tmp 23) (.tmp 32) 32 (by rfl) w.heap.size 5 i0 (.int .u8 0) Try.underlying32 hi hz0 hz1 hz2 rfl _ _ _ (by rfl) ho2 _ D (by rfl) (HDr.out _ _ _ _ hB2 rfl rfl rfl) hm3 hB2.size ?_
         intro v3 W3 ho3 hg3 hk3 hn3
         obtain ⟨a3, c3, rfl⟩ := owns_slice ho3
         obtain ⟨N3, hN3⟩ : ∃ N, N = 0 + A.length + X.length + D.length := ⟨_, rfl⟩
         rw [← hN3] at ho3 ⊢
         clear hN3
         have hB3 := hB2.grown hg3 hB2.size (fun r hr => (ho2.lt r hr).1)
         have cw3 := (hB3.cell (p := ⟨g, 0, none⟩) hlg).trans cw
         have fw3 : W3.frozen? ⟨g, 0, none⟩ = false := (hB3.frozen (p := ⟨g, 0, none⟩) hlg).trans (free_of_one HH2.out)))
    all_goals
      have HE := Lib.hid (HEnd.out _ _ _ _ ho3 (by rw [HR.out]; simp) hB3)
      clear ho1 ho2 ho3 hg1 hg2 hg3 hk1 hk2 hk3 hn1 hn2 hn3 HEnd HT HDr
      go_wp2
      all_goals
        go_ret
        exact HE.out
  · have hf' : fitB l.length a X.length = false := by simpa using hf
    rw [hf'] at HF
    have hre : wriA l a X = (l, 6) := by rw [wriA, if_neg hf]
    rw [hre]
    clear hf hf' hre h2
    go_enter Try.func27, Try.ntmps27
    go_wp2_with fail
    refine HF.out.mono ?_
    rintro e w' ⟨rfl, rfl⟩
    go_wp2
    go_ret
    exact ⟨rfl, b, HRA.out, .inl rfl, Fr.refl _ _ _⟩
end Go.Proofs.Ytncbfagmdldclaa.Arn
