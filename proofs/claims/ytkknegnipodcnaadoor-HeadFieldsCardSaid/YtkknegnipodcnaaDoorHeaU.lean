/- The landed head: its tables; where fields lie; how long heads are. -/
import Derived.Test.YtkknegnipodcnaaDoorHeaL
import Derived.Test.YtkknegnipodcnaaDoorKit13
import Derived.Test.YtkknegnipodcnaaDoorKit14
import Derived.Test.YtkknegnipodcnaaDoorKit15
namespace Go.Proofs.YtkknegnipodcnaaDoor.Hea
open Go.RowKit Num
set_option linter.unusedVariables false

/-- The order of the fields. -/
def ordI : List Int := [0, 1, 2, 3, 4, 5, 6, 7, 8, 9, 11, 10]
structure Tab (w : World) : Prop where
  ord : Lib.TabIs Tryd.prog w "columbarium/head.order" .i64 ordI
  pl : ∀ p q, p < 3 → q < 12 → w.cell? ⟨1, p * 24 + q * 2, none⟩ = some (.int .i64 (whF (p : Int) (q : Int)).1) ∧ w.cell? ⟨1, p * 24 + q * 2 + 1, none⟩ = some (.int .i64 (whF (p : Int) (q : Int)).2)
theorem cell_keep {w w' : World} {b o : Nat} {v : Value} (hb : Below w.heap.size w w') (h : w.cell? ⟨b, o, none⟩ = some v) : w'.cell? ⟨b, o, none⟩ = some v := by
  have hlt : b < w.heap.size := by
    rcases Nat.lt_or_ge b w.heap.size with h1 | h1
    · exact h1
    · rw [World.cell?, Array.getElem?_eq_none h1] at h
      simp at h
  exact (hb.cell (p := ⟨b, o, none⟩) hlt).trans h
theorem Tab.keep {w w' : World} (hb : Below w.heap.size w w') (h : Tab w) : Tab w' :=
  ⟨tab_keep hb h.ord, fun p q hp hq => ⟨cell_keep hb (h.pl p q hp hq).1, cell_keep hb (h.pl p q hp hq).2⟩⟩
theorem Tab.at {w : World} (h : Tab w) (i : Nat) (hi : i < 12) : w.cell? ⟨0, i, none⟩ = some (.int .i64 (ordI.getD i 0)) :=
  Lib.TabIs.cell h.ord (show Tryd.prog.globalNamed "columbarium/head.order" = some 0 by kernel_rfl) i hi
def plG (p q : Nat) : List Int := [(whF (p : Int) (q : Int)).1, (whF (p : Int) (q : Int)).2]
theorem tab_of {l : List (String × DataW Unit)} {w : World} (hp : (l.all fun x => x.2.handleName?.isNone) = true) (h1 : ("columbarium/head.places", Rows.laid_columbarium_head_places) ∈ l) (h2 : ("columbarium/head.order", Rows.laid_columbarium_head_order) ∈ l) (h : laidMetH Tryd.prog l w) : Tab w := by
  refine ⟨tab_of_laid (g := 0) (n := 12) (t := 94) (e := 3) hp h2 (by kernel_rfl) (by kernel_rfl) (by kernel_rfl) (by kernel_rfl) (by kernel_rfl) (by kernel_rfl) h, fun p q h3 h4 => ?_⟩
  have k := fun a (ha : a < 2) => grid_of_laid (n := 3) (m := 12) (s := 2) (G := plG) (k := .i64) (g := 1) (t := 103) (t1 := 102) (t2 := 72) (e := 3) hp h1 (by kernel_rfl) (by kernel_rfl) (by kernel_rfl) (by kernel_rfl) (by kernel_rfl) (by kernel_rfl) (by kernel_rfl) (by kernel_rfl) (by kernel_rfl) (by kernel_rfl) h p q a h3 h4 ha rfl
  exact ⟨k 0 (by omega), k 1 (by omega)⟩

theorem isTag_any (t : Int) (w : World) : Calls Tryd.prog 30 #[.int .i64 t] w fun e w' => e = .returned (.bool (decide (0 ≤ t ∧ t ≤ 2))) ∧ w = w' := by
  by_cases h0 : 0 ≤ t
  · by_cases h2 : t < 3
    · go_enter Tryd.func30, Tryd.ntmps30
      go_wp2
      go_ret
      exact ⟨ret_bool (by simp <;> omega), rfl⟩
    · have h2' : decide (t < 3) = false := decide_eq_false h2
      go_enter Tryd.func30, Tryd.ntmps30
      go_wp2
      go_ret
      exact ⟨ret_bool (by simp <;> omega), rfl⟩
  · have h0' : decide (0 ≤ t) = false := decide_eq_false h0
    go_enter Tryd.func30, Tryd.ntmps30
    go_wp2
    go_ret
    exact ⟨ret_bool (by simp <;> omega), rfl⟩
theorem between_any (a n b : Int) (w : World) : Calls Tryd.prog 35 #[.int .i64 a, .int .i64 n, .int .i64 b] w fun e w' => e = .returned (.bool (decide (a ≤ n ∧ n ≤ b))) ∧ w = w' := by
  by_cases h0 : a ≤ n
  · by_cases h2 : n ≤ b
    · go_enter Tryd.func35, Tryd.ntmps35
      go_wp2
      go_ret
      exact ⟨ret_bool (by simp <;> omega), rfl⟩
    · have h2' : decide (n ≤ b) = false := decide_eq_false h2
      go_enter Tryd.func35, Tryd.ntmps35
      go_wp2
      go_ret
      exact ⟨ret_bool (by simp <;> omega), rfl⟩
  · have h0' : decide (a ≤ n) = false := decide_eq_false h0
    go_enter Tryd.func35, Tryd.ntmps35
    go_wp2
    go_ret
    exact ⟨ret_bool (by simp <;> omega), rfl⟩
theorem size_any (t : Int) (w : World) : Calls Tryd.prog 17 #[.int .i64 t] w fun e w' => e = .returned (.int .i64 (szF t)) ∧ w = w' := by
  by_cases h0 : t = 0
  · subst h0
    go_enter Tryd.func17, Tryd.ntmps17
    go_wp2
    go_ret
    exact ⟨rfl, rfl⟩
  by_cases h1 : t = 1
  · subst h1
    go_enter Tryd.func17, Tryd.ntmps17
    go_wp2
    go_ret
    exact ⟨rfl, rfl⟩
  by_cases h2 : t = 2
  · subst h2
    go_enter Tryd.func17, Tryd.ntmps17
    go_wp2
    go_ret
    exact ⟨rfl, rfl⟩
  have e0 : (t == 0) = false := by simpa using h0
  have e1 : (t == 1) = false := by simpa using h1
  have e2 : (t == 2) = false := by simpa using h2
  have H := Lib.hid (show szF t = 0 by rw [szF, if_neg h0, if_neg h1, if_neg h2])
  clear h0 h1 h2
  go_enter Tryd.func17, Tryd.ntmps17
  go_wp2
  go_ret
  exact ⟨ret_int H.out.symm, rfl⟩

theorem placeOf_any (t f : Int) (w : World) (ht : Tab w) : Calls Tryd.prog 36 #[.int .i64 t, .int .i64 f] w fun e w' => e = .returned (.agg #[.int .i64 (whF t f).1, .int .i64 (whF t f).2]) ∧ Below w.heap.size w w' := by
  have HT := Lib.hid (fun W => isTag_any t W)
  have hb := below_made w (.cells #[.int .i64 0, .int .i64 0] 72)
  have HB := Lib.hid hb
  by_cases h : (0 ≤ t ∧ t ≤ 2) ∧ 0 ≤ f ∧ f < 12
  · obtain ⟨⟨h1, h2⟩, h3, h4⟩ := h
    obtain ⟨p, rfl⟩ : ∃ p : Nat, t = p := ⟨t.toNat, by omega⟩
    obtain ⟨q, rfl⟩ : ∃ q : Nat, f = q := ⟨f.toNat, by omega⟩
    obtain ⟨c0, c1⟩ := (ht.keep hb).pl p q (by omega) (by omega)
    rw [show decide (0 ≤ (p : Int) ∧ (p : Int) ≤ 2) = true by simp; omega] at HT
    have hp3 : (p : Int) < 3 := by omega
    have hq0 : decide ((q : Int) < 0) = false := by simp
    have hq1 : decide ((12 : Int) ≤ (q : Int)) = false := by simp; omega
    have hblk := heap_alloc_new w (.cells #[.int .i64 (whF (p : Int) (q : Int)).1, .int .i64 (whF (p : Int) (q : Int)).2] 72)
    have q0 : (w.alloc (.cells #[.int .i64 (whF (p : Int) (q : Int)).1, .int .i64 (whF (p : Int) (q : Int)).2] 72)).cell? ⟨w.heap.size, 0, none⟩ = some (.int .i64 (whF (p : Int) (q : Int)).1) := (cell_block hblk 0).trans rfl
    have q1 : (w.alloc (.cells #[.int .i64 (whF (p : Int) (q : Int)).1, .int .i64 (whF (p : Int) (q : Int)).2] 72)).cell? ⟨w.heap.size, 1, none⟩ = some (.int .i64 (whF (p : Int) (q : Int)).2) := (cell_block hblk 1).trans rfl
    obtain ⟨x, y, hxy⟩ : ∃ x y, whF (p : Int) (q : Int) = (x, y) := ⟨_, _, rfl⟩
    rw [hxy] at c0 c1 q0 q1 ⊢
    clear hxy ht hb hblk
    go_enter Tryd.func36, Tryd.ntmps36
    go_wp2_with fail
    refine (HT.out _).mono ?_
    rintro e w' ⟨rfl, rfl⟩
    go_wp2
    refine bodyPost_ret (v := .agg #[.int .i64 x, .int .i64 y]) (by simp [results, Tryd.results36, go_sem, q0, q1]) rfl ⟨rfl, below_made _ _⟩
  · have hz : whF t f = (0, 0) := by rw [whF, if_pos (by omega)]
    have hblk := heap_alloc_new w (.cells #[.int .i64 0, .int .i64 0] 72)
    have q0 : (w.alloc (.cells #[.int .i64 0, .int .i64 0] 72)).cell? ⟨w.heap.size, 0, none⟩ = some (.int .i64 0) := (cell_block hblk 0).trans rfl
    have q1 : (w.alloc (.cells #[.int .i64 0, .int .i64 0] 72)).cell? ⟨w.heap.size, 1, none⟩ = some (.int .i64 0) := (cell_block hblk 1).trans rfl
    rw [hz]
    clear hz ht hb hblk
    by_cases h1 : 0 ≤ t ∧ t ≤ 2
    · rw [show decide (0 ≤ t ∧ t ≤ 2) = true by simpa using h1] at HT
      by_cases h2 : f < 0
      · clear h h1
        go_enter Tryd.func36, Tryd.ntmps36
        go_wp2_with fail
        refine (HT.out _).mono ?_
        rintro e w' ⟨rfl, rfl⟩
        go_wp2
        refine bodyPost_ret (v := .agg #[.int .i64 0, .int .i64 0]) (by simp [results, Tryd.results36, go_sem, q0, q1]) rfl ⟨rfl, HB.out⟩
      · have h2' : decide (f < 0) = false := decide_eq_false h2
        have h3 : (12 : Int) ≤ f := by omega
        clear h h1
        go_enter Tryd.func36, Tryd.ntmps36
        go_wp2_with fail
        refine (HT.out _).mono ?_
        rintro e w' ⟨rfl, rfl⟩
        go_wp2
        refine bodyPost_ret (v := .agg #[.int .i64 0, .int .i64 0]) (by simp [results, Tryd.results36, go_sem, q0, q1]) rfl ⟨rfl, HB.out⟩
    · rw [show decide (0 ≤ t ∧ t ≤ 2) = false by simpa using h1] at HT
      clear h h1
      go_enter Tryd.func36, Tryd.ntmps36
      go_wp2_with fail
      refine (HT.out _).mono ?_
      rintro e w' ⟨rfl, rfl⟩
      go_wp2
      refine bodyPost_ret (v := .agg #[.int .i64 0, .int .i64 0]) (by simp [results, Tryd.results36, go_sem, q0, q1]) rfl ⟨rfl, HB.out⟩

theorem where_any (t f : Int) (w : World) (ht : Tab w) : Calls Tryd.prog 15 #[.int .i64 t, .int .i64 f] w fun e w' => e = .returned (.tuple #[.int .i64 (whF t f).1, .int .i64 (whF t f).2]) ∧ Below w.heap.size w w' := by
  have HP := Lib.hid (placeOf_any t f w ht)
  obtain ⟨x, y, hxy⟩ : ∃ x y, whF t f = (x, y) := ⟨_, _, rfl⟩
  rw [hxy] at HP ⊢
  clear hxy ht
  go_enter Tryd.func15, Tryd.ntmps15
  go_wp2_with fail
  refine HP.out.mono ?_
  rintro e w1 ⟨rfl, hb1⟩
  have hblk := heap_alloc_new w1 (.cells #[.int .i64 x, .int .i64 y] 72)
  have q0 : (w1.alloc (.cells #[.int .i64 x, .int .i64 y] 72)).cell? ⟨w1.heap.size, 0, none⟩ = some (.int .i64 x) := (cell_block hblk 0).trans rfl
  have q1 : (w1.alloc (.cells #[.int .i64 x, .int .i64 y] 72)).cell? ⟨w1.heap.size, 1, none⟩ = some (.int .i64 y) := (cell_block hblk 1).trans rfl
  have HB := Lib.hid (hb1.trans ((below_made w1 (.cells #[.int .i64 x, .int .i64 y] 72)).mono hb1.size))
  clear hblk hb1
  go_wp2_with fail
  generalize w1.alloc (.cells #[.int .i64 x, .int .i64 y] 72) = W at q0 q1 HB ⊢
  go_quiet (fail)
  go_wp2
  go_ret2
  exact ⟨rfl, below_drewN HB.out _⟩
end Go.Proofs.YtkknegnipodcnaaDoor.Hea
