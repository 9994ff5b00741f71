/- Contracts of layout's landed functions: most, nearest, Right, and the closure that places the parts. -/
import Derived.Test.YtemkmkkpamhfoaaDoorLayL
import Derived.Test.YtemkmkkpamhfoaaDoorClsZ
import Derived.Test.YtemkmkkpamhfoaaDoorKit11
import Derived.Deep.MidRow
import Derived.Lib.QuoteBits
namespace Go.Proofs.YtemkmkkpamhfoaaDoor.Lay
open Go.RowKit
set_option linter.unusedVariables false

theorem cmost_any (k : Int) (w : World) (ht : Cls.Tab w) (h1 : -1000000 ≤ k) (h2 : k ≤ 1000000) : Calls Tryd.prog 30 #[.int .i64 k] w fun e w' => e = .returned (.int .i64 (k * 32)) ∧ w = w' := by
  have HB := Lib.hid ((show Cls.blC 1 = 32 by decide) ▸ Cls.blocks_any 1 w ht)
  clear ht
  have hw : IntKind.i64.wrap (k * 32) = k * 32 := wrap_id (by omega) (by omega)
  go_enter Tryd.func30, Tryd.ntmps30
  go_wp2_with (go_at_call 33; refine HB.out.mono ?_; rintro e w1 ⟨rfl, rfl⟩)
  go_ret
  exact ⟨rfl, rfl⟩

/-- The nearest numbers of slabs and of slots. -/
def nearS (s : Int) : Int := if s < 7 then 7 else if 64 < s then 64 else s
def nearM (s n : Int) : Int := if n < nearS s * 32 then nearS s * 32 else if 8192 < n then 8192 else n
def nearN (s n : Int) : Int := ((nearM s n).toNat / 2 * 2 : Nat)
theorem nearS_bd (s : Int) : 7 ≤ nearS s ∧ nearS s ≤ 64 := by
  unfold nearS
  repeat' split
  all_goals omega
theorem nearM_bd (s n : Int) : 224 ≤ nearM s n ∧ nearM s n ≤ 8192 := by
  have := nearS_bd s
  unfold nearM
  repeat' split
  all_goals omega
theorem near_right (s n : Int) : (decide (s = nearS s) && decide (n = nearN s n)) = rightC s n := by
  have h1 := nearS_bd s
  have h2 := nearM_bd s n
  rw [Bool.eq_iff_iff]
  unfold rightC
  simp only [Bool.and_eq_true, decide_eq_true_eq]
  have hN : nearN s n = nearM s n / 2 * 2 := by unfold nearN; omega
  constructor
  · rintro ⟨e1, e2⟩
    rw [← e1] at h1
    rw [hN] at e2
    have e3 : n < nearS s * 32 ∨ 8192 < n ∨ (nearM s n = n ∧ nearS s * 32 ≤ n) := by
      unfold nearM
      repeat' split
      all_goals omega
    have e4 : n < nearS s * 32 → nearM s n = nearS s * 32 := fun h => by rw [nearM, if_pos h]
    refine ⟨h1.1, h1.2, ?_⟩
    omega
  · rintro ⟨a1, a2, a3, a4, a5⟩
    have e1 : nearS s = s := by rw [nearS, if_neg (by omega), if_neg (by omega)]
    have e2 : nearM s n = n := by rw [nearM, e1, if_neg (by omega), if_neg (by omega)]
    rw [hN, e1, e2]
    omega

theorem two_set {w : World} {b : Nat} {u0 u1 : Value} (h0 : w.cell? ⟨b, 0, none⟩ = some u0) (h1 : w.cell? ⟨b, 1, none⟩ = some u1) (v0 v1 : Value) :
    ((w.setCell ⟨b, 0, none⟩ v0).setCell ⟨b, 1, none⟩ v1).cell? ⟨b, 0, none⟩ = some v0 ∧ ((w.setCell ⟨b, 0, none⟩ v0).setCell ⟨b, 1, none⟩ v1).cell? ⟨b, 1, none⟩ = some v1 := by
  have e1 : (w.setCell ⟨b, 0, none⟩ v0).cell? ⟨b, 1, none⟩ = some u1 := (World.cell?_setCell_other _ _ _ _ (by simp)).trans h1
  exact ⟨(World.cell?_setCell_other _ _ _ _ (by simp)).trans (World.cell?_setCell_same _ _ _ h0), World.cell?_setCell_same _ _ _ e1⟩

theorem near_bits (n K : Int) (h1 : 224 ≤ K) (h2 : K ≤ 8192) : bits .andNot .i64 (if 8192 < if n < K then K else n then 8192 else if n < K then K else n) 1 = (((if n < K then K else if 8192 < n then 8192 else n).toNat / 2 * 2 : Nat) : Int) := by
  have e : (if 8192 < if n < K then K else n then 8192 else if n < K then K else n) = (((if n < K then K else if 8192 < n then 8192 else n).toNat : Nat) : Int) := by
    repeat' split
    all_goals omega
  rw [e]
  exact Lib.andNot_one _ (by repeat' split
                             all_goals omega)

set_option maxRecDepth 100000 in
set_option maxHeartbeats 2000000 in
theorem near_one (s n S : Int) (w : World) (ht : Cls.Tab w) (hS1 : 7 ≤ S) (hS2 : S ≤ 64)
    (hs : (s < 7 ∧ S = 7) ∨ (¬ s < 7 ∧ 64 < s ∧ S = 64) ∨ (¬ s < 7 ∧ ¬ 64 < s ∧ s = S)) :
    Calls Tryd.prog 28 #[.agg #[.int .i64 s, .int .i64 n]] w fun e w' => e = .returned (.agg #[.int .i64 S, .int .i64 (((if n < S * 32 then S * 32 else if 8192 < n then 8192 else n).toNat / 2 * 2 : Nat) : Int)]) ∧ Below w.heap.size w w' := by
  have hm2 := fun u (hu : Cls.Tab u) => cmost_any S u hu (by omega) (by omega)
  obtain ⟨K, hK⟩ : ∃ K, K = S * 32 := ⟨_, rfl⟩
  rw [← hK] at hm2 ⊢
  have HM := Lib.hid hm2
  have HX := Lib.hid (near_bits n K (by omega) (by omega))
  obtain ⟨q, hq⟩ : ∃ q, q = (if n < K then K else if 8192 < n then 8192 else n).toNat / 2 * 2 := ⟨_, rfl⟩
  rw [← hq] at HX ⊢
  have hsz := size_alloc w (.cells #[.int .i64 s, .int .i64 n] 23)
  have hb0 : Below w.heap.size w ((w.alloc (.cells #[.int .i64 s, .int .i64 n] 23)).alloc (.cells #[.int .i64 0, .int .i64 0] 23)) := ((Below.refl _ w).alloc (Nat.le_refl _) _).alloc (by omega) _
  have ht1 : Hid (Cls.Tab ((w.alloc (.cells #[.int .i64 s, .int .i64 n] 23)).alloc (.cells #[.int .i64 0, .int .i64 0] 23))) := tab_keep hb0 ht
  have ht2 : Hid (Cls.Tab ((w.alloc (.cells #[.int .i64 s, .int .i64 n] 23)).alloc (.cells #[.int .i64 0, .int .i64 0] 23)).drew) := tab_keep hb0.drew ht
  have e1 : (((w.alloc (.cells #[.int .i64 s, .int .i64 n] 23)).alloc (.cells #[.int .i64 S, .int .i64 (q : Int)] 23)).drew).heap[w.heap.size + 1]? = some (.cells #[.int .i64 S, .int .i64 (q : Int)] 23 (0, 0)) := by
    have := heap_alloc_new (w.alloc (.cells #[.int .i64 s, .int .i64 n] 23)) (.cells #[.int .i64 S, .int .i64 (q : Int)] 23)
    rw [hsz] at this
    exact this
  have hb1 : Hid (Below w.heap.size w (((w.alloc (.cells #[.int .i64 s, .int .i64 n] 23)).alloc (.cells #[.int .i64 S, .int .i64 (q : Int)] 23)).drew)) := (((Below.refl _ w).alloc (Nat.le_refl _) _).alloc (by omega) _).drew
  have d0 := Lib.hid ((cell_block e1 0).trans (show _ = some (Value.int .i64 S) from rfl))
  have d1 := Lib.hid ((cell_block e1 1).trans (show _ = some (Value.int .i64 (q : Int)) from rfl))
  have c2 : ((w.alloc (.cells #[.int .i64 s, .int .i64 n] 23)).alloc (.cells #[.int .i64 0, .int .i64 0] 23)).cell? ⟨w.heap.size, 1, none⟩ = some (.int .i64 n) :=
    (cell_block ((Below.heap_alloc _ _ _ (by omega)).trans (heap_alloc_new _ _)) 1).trans rfl
  clear hm2 hK hq e1 hb0 ht hS1 hS2
  rcases hs with ⟨h1, rfl⟩ | ⟨h1, h2, rfl⟩ | ⟨h1, h2, rfl⟩
  all_goals
    go_enter Tryd.func28, Tryd.ntmps28
    go_wp2_with fail
    go_region_held3 (fun w' => w'.cell? ⟨w.heap.size, 1, none⟩ = some (.int .i64 n)) (first | exact c2 | go_keep) ((go_at_call 30; refine (HM.out _ (by first | exact ht1.out | exact ht2.out)).mono ?_; rintro e w1 ⟨rfl, rfl⟩))
    have hX := HX.out
    try rw [hX]
    generalize ((w.alloc (.cells #[.int .i64 s, .int .i64 n] 23)).alloc (.cells #[_, .int .i64 (q : Int)] 23)).drew = W at hb1 d0 d1 ⊢
    have q0 := d0.out
    have q1 := d1.out
    clear hX HX ht1 ht2
    go_wp2
    all_goals refine bodyPost_ret (v := .agg #[_, .int .i64 (q : Int)]) (by simp [results, Tryd.results28, go_sem, q0, q1]) rfl ⟨rfl, hb1.out⟩
theorem near_any (s n : Int) (w : World) (ht : Cls.Tab w) : Calls Tryd.prog 28 #[.agg #[.int .i64 s, .int .i64 n]] w fun e w' => e = .returned (.agg #[.int .i64 (nearS s), .int .i64 (nearN s n)]) ∧ Below w.heap.size w w' := by
  have hb := nearS_bd s
  refine (near_one s n (nearS s) w ht hb.1 hb.2 ?_)
  unfold nearS
  by_cases h1 : s < 7
  · exact .inl ⟨h1, by rw [if_pos h1]⟩
  · by_cases h2 : 64 < s
    · exact .inr (.inl ⟨h1, h2, by rw [if_neg h1, if_pos h2]⟩)
    · exact .inr (.inr ⟨h1, h2, by rw [if_neg h1, if_neg h2]⟩)

set_option maxRecDepth 100000 in
theorem right_any (s n : Int) (w : World) (ht : Cls.Tab w) : Calls Tryd.prog 8 #[.agg #[.int .i64 s, .int .i64 n]] w fun e w' => e = .returned (.bool (rightC s n)) ∧ Below w.heap.size w w' := by
  have HT := Lib.hid (fun u (hu : Below w.heap.size w u) => near_any s n u (tab_keep hu ht))
  have HR := Lib.hid (near_right s n)
  generalize nearS s = S at HT HR
  generalize nearN s n = N at HT HR
  obtain ⟨c1, c2, hlt1, hb⟩ := one_box (Below.refl (W1 w s n).heap.size (W1 w s n))
  unfold W1 at c1 c2 hlt1 hb
  clear ht
  by_cases e1 : s = S
  · subst e1
    by_cases e2 : n = N
    · subst e2
      rw [← HR.out]
      clear HR
      go_enter Tryd.func8, Tryd.ntmps8
      go_wp2_with fail
      go_region_held3 (fun w' => w'.cell? ⟨w.heap.size, 0, none⟩ = some (.int .i64 s) ∧ w'.cell? ⟨w.heap.size, 1, none⟩ = some (.int .i64 n)) (first | exact ⟨c1, c2⟩ | go_keep) ((go_at_call 28; refine (HT.out _ (by first | exact hb | exact hb.drew)).mono ?_; rintro e w1 ⟨rfl, hw1⟩; replace c1 := (hw1.cell (p := ⟨w.heap.size, 0, none⟩) hlt1).trans c1; replace c2 := (hw1.cell (p := ⟨w.heap.size, 1, none⟩) hlt1).trans c2; (first | replace hb := hb.trans (hw1.mono hb.size) | replace hb := hb.drew.trans (hw1.mono hb.size)); clear hw1))
      go_wp2
      go_ret
      exact ⟨rfl, hb⟩
    · have f1 : (n == N) = false := by simp [e2]
      have f2 : decide (n = N) = false := by simp [e2]
      rw [← HR.out, f2]
      clear HR
      go_enter Tryd.func8, Tryd.ntmps8
      go_wp2_with fail
      go_region_held3 (fun w' => w'.cell? ⟨w.heap.size, 0, none⟩ = some (.int .i64 s) ∧ w'.cell? ⟨w.heap.size, 1, none⟩ = some (.int .i64 n)) (first | exact ⟨c1, c2⟩ | go_keep) ((go_at_call 28; refine (HT.out _ (by first | exact hb | exact hb.drew)).mono ?_; rintro e w1 ⟨rfl, hw1⟩; replace c1 := (hw1.cell (p := ⟨w.heap.size, 0, none⟩) hlt1).trans c1; replace c2 := (hw1.cell (p := ⟨w.heap.size, 1, none⟩) hlt1).trans c2; (first | replace hb := hb.trans (hw1.mono hb.size) | replace hb := hb.drew.trans (hw1.mono hb.size)); clear hw1))
      go_wp2
      go_ret
      exact ⟨rfl, hb⟩
  · have f1 : (s == S) = false := by simp [e1]
    have f2 : decide (s = S) = false := by simp [e1]
    rw [← HR.out, f2]
    clear HR
    go_enter Tryd.func8, Tryd.ntmps8
    go_wp2_with fail
    go_region_held3 (fun w' => w'.cell? ⟨w.heap.size, 0, none⟩ = some (.int .i64 s) ∧ w'.cell? ⟨w.heap.size, 1, none⟩ = some (.int .i64 n)) (first | exact ⟨c1, c2⟩ | go_keep) ((go_at_call 28; refine (HT.out _ (by first | exact hb | exact hb.drew)).mono ?_; rintro e w1 ⟨rfl, hw1⟩; replace c1 := (hw1.cell (p := ⟨w.heap.size, 0, none⟩) hlt1).trans c1; replace c2 := (hw1.cell (p := ⟨w.heap.size, 1, none⟩) hlt1).trans c2; (first | replace hb := hb.trans (hw1.mono hb.size) | replace hb := hb.drew.trans (hw1.mono hb.size)); clear hw1))
    go_wp2
    go_ret
    exact ⟨rfl, hb⟩
end Go.Proofs.YtemkmkkpamhfoaaDoor.Lay
