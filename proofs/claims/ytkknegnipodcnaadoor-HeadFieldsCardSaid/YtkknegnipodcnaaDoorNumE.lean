/- Contracts of num's Store. -/
import Derived.Test.YtkknegnipodcnaaDoorNumD
namespace Go.Proofs.YtkknegnipodcnaaDoor.Num
open Go.RowKit
set_option linter.unusedVariables false

/-- The bytes of a number, the lowest first. -/
def parts (v : Int) : List Int := [v % 256, v / 256 % 256, v / 65536 % 256, v / 16777216 % 256, v / 4294967296 % 256, v / 1099511627776 % 256, v / 281474976710656 % 256, v / 72057594037927936]
/-- What Store answers, where it does. -/
def stl (l : List Int) (a x : Nat) (v : Int) : List Int := l.take a ++ ((parts v).take x ++ l.drop (a + x))
/-- Why Store answers nothing, or 0. -/
def ste (l : List Int) (a x v : Int) : Int := if fits v x then plc l.length a x else 2

theorem parts_length (v : Int) : (parts v).length = 8 := rfl
theorem parts_bd (v : Int) (h0 : 0 ≤ v) (h1 : v < 18446744073709551616) : ∀ i, 0 ≤ (parts v).getD i 0 ∧ (parts v).getD i 0 < 256 := by
  intro i
  match i with
  | 0 => simp [parts]; omega
  | 1 => simp [parts]; omega
  | 2 => simp [parts]; omega
  | 3 => simp [parts]; omega
  | 4 => simp [parts]; omega
  | 5 => simp [parts]; omega
  | 6 => simp [parts]; omega
  | 7 => simp [parts]; omega
  | j + 8 => simp [parts]

theorem stl_length (l : List Int) (a x : Nat) (v : Int) (h : a + x ≤ l.length) (hx : x ≤ 8) : (stl l a x v).length = l.length := by
  simp [stl, parts_length]; omega

def vals (l : List Int) : List Value := l.map (.int .u8)
theorem vals_length (l : List Int) : (vals l).length = l.length := by simp [vals]
theorem vals_get (l : List Int) (j : Nat) (h : j < l.length) : (vals l)[j]? = some (.int .u8 (l.getD j 0)) := by simp [vals, h, List.getD]
theorem vals_oneCell (l : List Int) : ∀ u ∈ vals l, u.oneCell' = true := by
  intro u hu
  obtain ⟨x, _, rfl⟩ := List.mem_map.1 hu
  rfl
theorem src_vals {w W : World} {b off at_ : Nat} {l : List Int} (hcell : ∀ i, i < l.length → w.cell? ⟨b, off + i, none⟩ = some (.int .u8 (l.getD i 0)))
    (hW : ∀ o, W.cell? ⟨b, o, none⟩ = w.cell? ⟨b, o, none⟩) (n : Nat) (hn : at_ + n ≤ l.length) :
    ∀ j v, (vals ((l.drop at_).take n))[j]? = some v → W.cell? ((⟨b, off + at_, none⟩ : Addr).add j) = some v := by
  have hlen : ((l.drop at_).take n).length = n := by simp; omega
  refine src_cells hcell hW _ (by rw [vals_length, hlen]; exact hn) ?_
  intro j hj
  rw [vals_length, hlen] at hj
  rw [vals_get _ _ (by omega), take_getD _ _ _ hj, drop_getD]

theorem infoU8 : (Tryd.prog.info? 5).map (fun i => (i.zero, i.size, i.bytes)) = some (some (.int .u8 0), 1, 1) := by kernel_rfl

set_option maxRecDepth 100000 in
theorem store_ok (b off cap : Nat) (l : List Int) (m n : Nat) (v : Int) (w : World) (hl : l.length ≤ cap) (hc : cap ≤ 9223372036854775807) (hlen : l.length ≤ 281474976710656)
    (hcell : ∀ i, i < l.length → w.cell? ⟨b, off + i, none⟩ = some (.int .u8 (l.getD i 0))) (hblk : b < w.heap.size)
    (h0 : 0 ≤ v) (h1 : v < 18446744073709551616) (hf : fits v n = true) (hx1 : 1 ≤ n) (hx2 : n ≤ 8) (hp : plc l.length m n = 0) (hat : m + n ≤ l.length) :
    Calls Tryd.prog 28 #[.slice (some ⟨b, off, none⟩) l.length cap, .int .i64 m, .int .i64 n, .int .u64 v] w
      fun e w' => e = .returned (.tuple #[.slice (some ⟨w.heap.size, 0, none⟩) l.length l.length, .int .i64 0]) ∧ Below w.heap.size w w' ∧ w'.heap[w.heap.size]? = some (.cells (vals (stl l m n v)).toArray 5 (0, 0)) := by
  have Hf := Lib.hid hf
  have Hp := Lib.hid hp
  have HC := Lib.hid hcell
  clear hf hp hcell
  obtain ⟨i0, hi, hz0, hz1, hz2⟩ := info_parts infoU8
  have HS1 : Hid (∀ j v, (vals l)[j]? = some v → (w.alloc (.cells (madeCells #[.int .u8 0] l.length) 5)).cell? ((⟨b, off, none⟩ : Addr).add j) = some v) := by
    have := src_vals (w := w) (W := w.alloc (.cells (madeCells #[.int .u8 0] l.length) 5)) (b := b) (off := off) (at_ := 0) (l := l) HC.out (fun o => World.cell?_of_block (by show (w.heap.push _)[b]? = _; rw [Array.getElem?_push, if_neg (by omega)])) l.length (by omega)
    unfold Hid
    simpa using this
  have hrow1 : ((madeCells #[.int .u8 0] l.length).toList.take 0 ++ (vals l ++ (madeCells #[.int .u8 0] l.length).toList.drop (0 + (vals l).length))).toArray = (vals l).toArray := by
    have : (madeCells #[Value.int .u8 0] l.length).toList.length = l.length := by simp [size_madeCells1]
    rw [List.drop_eq_nil_of_le (by rw [this, vals_length]; omega)]
    simp
  have Hrow1 := Lib.hid hrow1
  clear hrow1
  have hsz1 : 0 + (vals l).length ≤ (madeCells #[Value.int .u8 0] l.length).size := by rw [vals_length, size_madeCells1]; omega
  have hn1 : Hid ((vals l).length = Nat.min l.length l.length) := by unfold Hid; rw [vals_length]; simp
  go_enter Tryd.func28, Tryd.ntmps28
  go_wp2_with (first
    | (go_at_call 53; refine (fits_any _ _ _ h0 h1).mono ?_; rintro e w' ⟨rfl, rfl⟩; rw [Hf.out])
    | (go_at_call 54; refine (placed_any _ _ _ _ (by omega) (by omega) (by omega) (by omega)).mono ?_; rintro e w' ⟨rfl, rfl⟩; rw [Hp.out])
    | (refine wpList_make_row rfl (.tmp 26) (.tmp 26) 27 rfl 5 i0 (.int .u8 0) 1 Tryd.underlying27 hi hz0 hz1 hz2 .i64 .i64 l.length rfl rfl (by omega) (by omega) ?_)
    | (refine wpList_copy_row rfl (.tmp 28) (.tmp 29) 27 27 rfl 5 Tryd.underlying27 (by kernel_rfl) w.heap.size 0 l.length l.length ⟨b, off, none⟩ l.length cap rfl rfl (madeCells #[.int .u8 0] l.length) 5 (heap_alloc_new w _) (vals l) hn1.out HS1.out hsz1 (vals_oneCell l) (vals l).toArray Hrow1.out _ (setRow_alloc _ _ _ _) ?_)
    | (go_at_call 55; refine (split_any v _ h0 h1).mono ?_; rintro e w1 ⟨rfl, hb1⟩))
  have hg1 : w1.heap[w.heap.size]? = some (.cells (vals l).toArray 5 (0, 0)) := (hb1.block _ (by simp)).trans (heap_alloc_new w _)
  have hsz : w.heap.size < w1.heap.size := by have := hb1.size; simp at this; omega
  have HG : Hid (((w1.alloc (.cells (vals (parts v)).toArray 96)).drew).heap[w.heap.size]? = some (.cells (vals l).toArray 5 (0, 0))) := by
    unfold Hid
    rw [← hg1]
    exact heap_alloc_old w1 _ hsz
  have hlp : ((parts v).take n).length = n := by simp [parts_length]; omega
  have HS2 : Hid (∀ j u, (vals ((parts v).take n))[j]? = some u → ((w1.alloc (.cells (vals (parts v)).toArray 96)).drew).cell? ((⟨w1.heap.size, 0, none⟩ : Addr).add j) = some u) := by
    intro j u hu
    have hj : j < n := by
      by_cases h : j < n
      · exact h
      · rw [List.getElem?_eq_none (by rw [vals_length, hlp]; omega)] at hu; cases hu
    rw [vals_get _ _ (by omega), take_getD _ _ _ hj] at hu
    show (w1.alloc (.cells (vals (parts v)).toArray 96)).cell? _ = _
    rw [Addr_add, Nat.zero_add, cell_block (c := (vals (parts v)).toArray) (e := 96) (f := (0, 0)) (heap_alloc_new w1 _), ← hu, List.getElem?_toArray, vals_get _ _ (by rw [parts_length]; omega)]
  have hn2 : Hid ((vals ((parts v).take n)).length = Nat.min n (l.length - m)) := by
    unfold Hid
    rw [vals_length, hlp]
    exact (Nat.min_eq_left (by omega)).symm
  have hfit2 : m + (vals ((parts v).take n)).length ≤ (vals l).toArray.size := by
    rw [vals_length, hlp, List.size_toArray, vals_length]; omega
  have Hrow2 : Hid (((vals l).toArray.toList.take m ++ (vals ((parts v).take n) ++ (vals l).toArray.toList.drop (m + (vals ((parts v).take n)).length))).toArray = (vals (stl l m n v)).toArray) := by
    unfold Hid
    rw [vals_length, hlp]
    simp [vals, stl]
  clear hlp hg1
  have e1 : ¬ l.length = m := by omega
  have e2 : (0 : Int) ≤ (m : Int) := by omega
  have e3 : (m : Int) ≤ (l.length : Int) := by omega
  have e4 : (0 : Int) ≤ (n : Int) := by omega
  have e5 : (n : Int) ≤ 8 := by omega
  go_region_law (refine step_copy_row rfl (.tmp 35) (.tmp 37) 27 27 rfl 5 Tryd.underlying27 (by kernel_rfl) w.heap.size m (l.length - m) (l.length - m) ⟨w1.heap.size, 0, none⟩ n 8 (by simp [Act.eval, Act.put]) (by simp [Act.eval, Act.put]) (vals l).toArray 5 HG.out (vals ((parts v).take n)) hn2.out HS2.out hfit2 (vals_oneCell _) (vals (stl l m n v)).toArray Hrow2.out _ rfl ?_)
  clear e1 e2 e3 e4 e5
  go_wp2
  go_ret2
  refine ⟨rfl, ?_, ?_⟩
  · refine below_setRow ?_ (Nat.le_refl _) _
    exact (((((Below.refl _ _).alloc (Nat.le_refl _) _).trans (hb1.mono (by simp))).alloc (by omega) _).drew)
  · exact setRow_heap _ _ _ _ _ _ HG.out

/-- What Store comes to. -/
def Stored (w : World) (l : List Int) (a x v : Int) (e : Ending) (w' : World) : Prop :=
  ∃ u, e = .returned (.tuple #[u, .int .i64 (ste l a x v)]) ∧ Below w.heap.size w w' ∧ Row .u8 w' u (if ste l a x v = 0 then stl l a.toNat x.toNat v else [])

theorem row_of_block {w : World} {g : Nat} {l : List Int} {t : TypeId} (h : w.heap[g]? = some (.cells (vals l).toArray t (0, 0))) (hb : ∀ i, 0 ≤ l.getD i 0 ∧ l.getD i 0 < 256) (hl : l.length ≤ 9223372036854775807) :
    Row .u8 w (.slice (some ⟨g, 0, none⟩) l.length l.length) l := by
  refine ⟨_, _, rfl, Nat.le_refl _, hl, fun i hi => ?_, fun _ => ⟨g, 0, rfl, ?_, fun i hi => ?_⟩⟩
  · have := hb i; exact WalkArith.wf_u8 (by omega)
  · exact (Array.getElem?_eq_some_iff.1 h).1
  · rw [Nat.zero_add, cell_block h, List.getElem?_toArray, vals_get _ _ hi]

theorem stl_bd (l : List Int) (a x : Nat) (v : Int) (h0 : 0 ≤ v) (h1 : v < 18446744073709551616) (hl : ∀ i, 0 ≤ l.getD i 0 ∧ l.getD i 0 < 256) : ∀ i, 0 ≤ (stl l a x v).getD i 0 ∧ (stl l a x v).getD i 0 < 256 := by
  have key : ∀ u, u ∈ stl l a x v → 0 ≤ u ∧ u < 256 := by
    intro u hu
    have mem : ∀ (L : List Int), (∀ i, 0 ≤ L.getD i 0 ∧ L.getD i 0 < 256) → u ∈ L → 0 ≤ u ∧ u < 256 := by
      intro L hL hm
      obtain ⟨i, hi, rfl⟩ := List.getElem_of_mem hm
      have := hL i
      simpa [List.getD, hi] using this
    simp only [stl, List.mem_append] at hu
    rcases hu with hu | hu | hu
    · exact mem l hl (List.mem_of_mem_take hu)
    · exact mem _ (parts_bd v h0 h1) (List.mem_of_mem_take hu)
    · exact mem l hl (List.mem_of_mem_drop hu)
  intro i
  by_cases hi : i < (stl l a x v).length
  · have := key _ (List.getElem_mem hi)
    simpa [List.getD, hi] using this
  · simp [List.getD, List.getElem?_eq_none (show (stl l a x v).length ≤ i by omega)]

theorem store_any (u : Value) (a x v : Int) (l : List Int) (w : World) (hr : Row .u8 w u l) (h0 : 0 ≤ v) (h1 : v < 18446744073709551616) (hlen : l.length ≤ 281474976710656) :
    Calls Tryd.prog 28 #[u, .int .i64 a, .int .i64 x, .int .u64 v] w (Stored w l a x v) := by
  have hby := hr.bytes
  obtain ⟨ad, cap, rfl, h2, h3, h4, h5⟩ := hr
  by_cases hf : fits v x = true
  · have hw : isW x = true := by simp [fits] at hf; exact hf.1
    obtain ⟨b1, b2⟩ := isW_bd hw
    by_cases hp : plc l.length a x = 0
    · obtain ⟨p1, p2, p3⟩ := plc_ok hp
      obtain ⟨b, off, rfl, hlt, hc⟩ := h5 (by rintro rfl; simp at p2; omega)
      obtain ⟨m, rfl⟩ := Int.eq_ofNat_of_zero_le p1
      obtain ⟨n, rfl⟩ := Int.eq_ofNat_of_zero_le (show 0 ≤ x by omega)
      refine (store_ok b off cap l m n v w h2 h3 hlen hc hlt h0 h1 hf (by omega) (by omega) hp (by omega)).mono ?_
      rintro e w' ⟨rfl, hb, hg⟩
      have e0 : ste l m n v = 0 := by simp [ste, hf, hp]
      refine ⟨_, by rw [e0], hb, ?_⟩
      rw [if_pos e0, Int.toNat_natCast, Int.toNat_natCast]
      have hL := stl_length l m n v (by omega) (by omega)
      have := row_of_block hg (stl_bd l m n v h0 h1 hby) (by omega)
      rwa [hL] at this
    · have e0 : ste l a x v = plc l.length a x := by simp [ste, hf]
      have Hst : Hid (∀ e w', e = .returned (.tuple #[.slice none 0 0, .int .i64 (plc l.length a x)]) ∧ w = w' → Stored w l a x v e w') := by
        rintro e w' ⟨rfl, rfl⟩
        exact ⟨_, by rw [e0], Below.refl _ _, by rw [if_neg (by rw [e0]; exact hp)]; exact Row.nil _ _⟩
      refine Calls.mono ?_ Hst.out
      have Hf := Lib.hid hf
      clear hf h5 h4 hby e0 Hst hw
      obtain ⟨p, hpp⟩ : ∃ p, p = plc l.length a x := ⟨_, rfl⟩
      rw [← hpp] at hp ⊢
      have Hp := Lib.hid hpp.symm
      have hne : (p == 0) = false := by simpa using hp
      clear hpp hp
      go_enter Tryd.func28, Tryd.ntmps28
      go_wp2_with (first
        | (go_at_call 53; refine (fits_any _ _ _ h0 h1).mono ?_; rintro e w' ⟨rfl, rfl⟩; rw [Hf.out])
        | (go_at_call 54; refine (placed_any _ _ _ _ (by omega) (by omega) (by omega) (by omega)).mono ?_; rintro e w' ⟨rfl, rfl⟩; rw [Hp.out]))
      go_ret2
      exact ⟨rfl, rfl⟩
  · have hf' : fits v x = false := by simpa using hf
    have e0 : ste l a x v = 2 := by simp [ste, hf']
    have Hst : Hid (∀ e w', e = .returned (.tuple #[.slice none 0 0, .int .i64 2]) ∧ w = w' → Stored w l a x v e w') := by
      rintro e w' ⟨rfl, rfl⟩
      exact ⟨_, by rw [e0], Below.refl _ _, by rw [if_neg (by rw [e0]; decide)]; exact Row.nil _ _⟩
    refine Calls.mono ?_ Hst.out
    have Hf := Lib.hid hf'
    clear hf hf' h5 h4 hby e0 Hst
    go_enter Tryd.func28, Tryd.ntmps28
    go_wp2_with (first
      | (go_at_call 53; refine (fits_any _ _ _ h0 h1).mono ?_; rintro e w' ⟨rfl, rfl⟩; rw [Hf.out]))
    go_ret2
    exact ⟨rfl, rfl⟩
end Go.Proofs.YtkknegnipodcnaaDoor.Num
