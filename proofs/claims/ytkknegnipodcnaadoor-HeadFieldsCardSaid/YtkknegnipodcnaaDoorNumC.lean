/- Contracts of num's Load and of the document's. -/
import Derived.Test.YtkknegnipodcnaaDoorNumB
import Derived.Test.YtkknegnipodcnaaDoorKit
import Derived.IntWalk
namespace Go.Proofs.YtkknegnipodcnaaDoor.Num
open Go.RowKit
set_option linter.unusedVariables false

/-- The cells from a place on, as a copy reads them. -/
theorem src_cells {w W : World} {b off at_ : Nat} {l : List Int} (hcell : ∀ i, i < l.length → w.cell? ⟨b, off + i, none⟩ = some (.int .u8 (l.getD i 0)))
    (hW : ∀ o, W.cell? ⟨b, o, none⟩ = w.cell? ⟨b, o, none⟩) (cs : List Value) (hn : at_ + cs.length ≤ l.length) (hcs : ∀ j, j < cs.length → cs[j]? = some (.int .u8 (l.getD (at_ + j) 0))) :
    ∀ j v, cs[j]? = some v → W.cell? ((⟨b, off + at_, none⟩ : Addr).add j) = some v := by
  intro j v hv
  have hj : j < cs.length := by
    by_cases h : j < cs.length
    · exact h
    · rw [List.getElem?_eq_none (by omega)] at hv; cases hv
  rw [hcs j hj] at hv
  injection hv with hv
  subst hv
  have e : (⟨b, off + at_, none⟩ : Addr).add j = ⟨b, off + (at_ + j), none⟩ := by unfold Addr.add; split <;> simp_all <;> omega
  rw [e, hW, hcell _ (by omega)]

theorem take_drop_cons (l : List Int) (a n : Nat) (h : a < l.length) : (l.drop a).take (n + 1) = l.getD a 0 :: (l.drop (a + 1)).take n := by
  rw [List.drop_eq_getElem_cons h, List.take_succ_cons]
  simp [List.getD, h]

theorem load_ok1 (b off cap : Nat) (l : List Int) (at_ : Nat) (w : World) (hl : l.length ≤ cap) (hc : cap ≤ 9223372036854775807)
    (hcell : ∀ i, i < l.length → w.cell? ⟨b, off + i, none⟩ = some (.int .u8 (l.getD i 0))) (hbd : ∀ i, 0 ≤ l.getD i 0 ∧ l.getD i 0 < 256)
    (hp : plc l.length at_ 1 = 0) (hat : at_ + 1 ≤ l.length) (hblk : b < w.heap.size) :
    Calls Tryd.prog 59 #[.slice (some ⟨b, off, none⟩) l.length cap, .int .i64 at_, .int .i64 1] w
      fun e w' => e = .returned (.tuple #[.int .u64 (le ((l.drop at_).take 1)), .int .i64 0]) ∧ Below w.heap.size w w' := by
  have Hw := Lib.hid (show isW 1 = true by decide)
  have Hp := Lib.hid hp
  clear hp
  have HC := Lib.hid hcell
  clear hcell
  have HB := Lib.hid hbd
  clear hbd
  have e1 : ¬ cap = at_ := by omega
  have e2 : (0 : Int) ≤ (at_ : Int) + 1 := by omega
  have e3 : (at_ : Int) + 1 ≤ (cap : Int) := by omega
  have e4 : ((at_ : Int) + 1).toNat = at_ + 1 := by omega
  have e5 : IntKind.i64.wrap ((at_ : Int) + 1) = (at_ : Int) + 1 := IntWalk.i64_in _ (by omega)
  have HS : Hid (∀ j v, ([.int .u8 (l.getD at_ 0)] : List Value)[j]? = some v → ((w.alloc (.cells #[.int .u8 0, .int .u8 0, .int .u8 0, .int .u8 0, .int .u8 0, .int .u8 0, .int .u8 0, .int .u8 0] 96)).drew).cell? ((⟨b, off + at_, none⟩ : Addr).add j) = some v) := by
    refine src_cells HC.out ?_ _ (by simpa using hat) ?_
    · intro o
      exact World.cell?_of_block (by show (w.heap.push _)[b]? = _; rw [Array.getElem?_push, if_neg (by omega)])
    · intro j hj
      match j, hj with
      | 0, _ => rfl
  go_enter Tryd.func59, Tryd.ntmps59
  go_wp2_with (first
    | (go_at_call 77; refine (isWidth_any _ _).mono ?_; rintro e w' ⟨rfl, rfl⟩; rw [Hw.out])
    | (go_at_call 54; refine (placed_any _ _ _ _ (by omega) (by omega) (by omega) (by omega)).mono ?_; rintro e w' ⟨rfl, rfl⟩; rw [Hp.out]))
  go_region_law (refine step_copy_row rfl (.tmp 21) (.tmp 27) 27 27 rfl 5 Tryd.underlying27 (by kernel_rfl) w.heap.size 0 8 8 ⟨b, off + at_, none⟩ 1 (cap - at_) (by simp [Act.eval, Act.put]) (by simp [Act.eval, Act.put]) #[.int .u8 0, .int .u8 0, .int .u8 0, .int .u8 0, .int .u8 0, .int .u8 0, .int .u8 0, .int .u8 0] 96 (heap_alloc_new w _) [.int .u8 (l.getD at_ 0)] (by simp) HS.out (by simp) (by simp [oneCell_int]) #[.int .u8 (l.getD at_ 0), .int .u8 0, .int .u8 0, .int .u8 0, .int .u8 0, .int .u8 0, .int .u8 0, .int .u8 0] (by simp) _ (setRow_alloc_drew _ _ _ _) ?_)
  clear e1 e2 e3 e4 e5
  go_wp2_with (go_at_call 79; refine (join_any (l.getD at_ 0) 0 0 0 0 0 0 0 _ (HB.out _) (by decide) (by decide) (by decide) (by decide) (by decide) (by decide) (by decide)).mono ?_; rintro e w' ⟨rfl, hb⟩)
  go_ret2
  refine ⟨?_, ?_⟩
  · have e : le ((l.drop at_).take 1) = le [l.getD at_ 0, 0, 0, 0, 0, 0, 0, 0] := by
      rw [take_drop_cons l at_ 0 (by omega), List.take_zero]
      simp only [le] <;> omega
    rw [e]
    rfl
  · exact (((Below.refl _ _).alloc (Nat.le_refl _) _).drew).trans (hb.mono (by simp))

theorem load_ok2 (b off cap : Nat) (l : List Int) (at_ : Nat) (w : World) (hl : l.length ≤ cap) (hc : cap ≤ 9223372036854775807)
    (hcell : ∀ i, i < l.length → w.cell? ⟨b, off + i, none⟩ = some (.int .u8 (l.getD i 0))) (hbd : ∀ i, 0 ≤ l.getD i 0 ∧ l.getD i 0 < 256)
    (hp : plc l.length at_ 2 = 0) (hat : at_ + 2 ≤ l.length) (hblk : b < w.heap.size) :
    Calls Tryd.prog 59 #[.slice (some ⟨b, off, none⟩) l.length cap, .int .i64 at_, .int .i64 2] w
      fun e w' => e = .returned (.tuple #[.int .u64 (le ((l.drop at_).take 2)), .int .i64 0]) ∧ Below w.heap.size w w' := by
  have Hw := Lib.hid (show isW 2 = true by decide)
  have Hp := Lib.hid hp
  clear hp
  have HC := Lib.hid hcell
  clear hcell
  have HB := Lib.hid hbd
  clear hbd
  have e1 : ¬ cap = at_ := by omega
  have e2 : (0 : Int) ≤ (at_ : Int) + 2 := by omega
  have e3 : (at_ : Int) + 2 ≤ (cap : Int) := by omega
  have e4 : ((at_ : Int) + 2).toNat = at_ + 2 := by omega
  have e5 : IntKind.i64.wrap ((at_ : Int) + 2) = (at_ : Int) + 2 := IntWalk.i64_in _ (by omega)
  have HS : Hid (∀ j v, ([.int .u8 (l.getD at_ 0), .int .u8 (l.getD (at_ + 1) 0)] : List Value)[j]? = some v → ((w.alloc (.cells #[.int .u8 0, .int .u8 0, .int .u8 0, .int .u8 0, .int .u8 0, .int .u8 0, .int .u8 0, .int .u8 0] 96)).drew).cell? ((⟨b, off + at_, none⟩ : Addr).add j) = some v) := by
    refine src_cells HC.out ?_ _ (by simpa using hat) ?_
    · intro o
      exact World.cell?_of_block (by show (w.heap.push _)[b]? = _; rw [Array.getElem?_push, if_neg (by omega)])
    · intro j hj
      match j, hj with
      | 0, _ => rfl
      | 1, _ => rfl
  go_enter Tryd.func59, Tryd.ntmps59
  go_wp2_with (first
    | (go_at_call 77; refine (isWidth_any _ _).mono ?_; rintro e w' ⟨rfl, rfl⟩; rw [Hw.out])
    | (go_at_call 54; refine (placed_any _ _ _ _ (by omega) (by omega) (by omega) (by omega)).mono ?_; rintro e w' ⟨rfl, rfl⟩; rw [Hp.out]))
  go_region_law (refine step_copy_row rfl (.tmp 21) (.tmp 27) 27 27 rfl 5 Tryd.underlying27 (by kernel_rfl) w.heap.size 0 8 8 ⟨b, off + at_, none⟩ 2 (cap - at_) (by simp [Act.eval, Act.put]) (by simp [Act.eval, Act.put]) #[.int .u8 0, .int .u8 0, .int .u8 0, .int .u8 0, .int .u8 0, .int .u8 0, .int .u8 0, .int .u8 0] 96 (heap_alloc_new w _) [.int .u8 (l.getD at_ 0), .int .u8 (l.getD (at_ + 1) 0)] (by simp) HS.out (by simp) (by simp [oneCell_int]) #[.int .u8 (l.getD at_ 0), .int .u8 (l.getD (at_ + 1) 0), .int .u8 0, .int .u8 0, .int .u8 0, .int .u8 0, .int .u8 0, .int .u8 0] (by simp) _ (setRow_alloc_drew _ _ _ _) ?_)
  clear e1 e2 e3 e4 e5
  go_wp2_with (go_at_call 79; refine (join_any (l.getD at_ 0) (l.getD (at_ + 1) 0) 0 0 0 0 0 0 _ (HB.out _) (HB.out _) (by decide) (by decide) (by decide) (by decide) (by decide) (by decide)).mono ?_; rintro e w' ⟨rfl, hb⟩)
  go_ret2
  refine ⟨?_, ?_⟩
  · have e : le ((l.drop at_).take 2) = le [l.getD at_ 0, l.getD (at_ + 1) 0, 0, 0, 0, 0, 0, 0] := by
      rw [take_drop_cons l at_ 1 (by omega), take_drop_cons l (at_ + 1) 0 (by omega), List.take_zero]
      simp only [le] <;> omega
    rw [e]
    rfl
  · exact (((Below.refl _ _).alloc (Nat.le_refl _) _).drew).trans (hb.mono (by simp))

theorem load_ok4 (b off cap : Nat) (l : List Int) (at_ : Nat) (w : World) (hl : l.length ≤ cap) (hc : cap ≤ 9223372036854775807)
    (hcell : ∀ i, i < l.length → w.cell? ⟨b, off + i, none⟩ = some (.int .u8 (l.getD i 0))) (hbd : ∀ i, 0 ≤ l.getD i 0 ∧ l.getD i 0 < 256)
    (hp : plc l.length at_ 4 = 0) (hat : at_ + 4 ≤ l.length) (hblk : b < w.heap.size) :
    Calls Tryd.prog 59 #[.slice (some ⟨b, off, none⟩) l.length cap, .int .i64 at_, .int .i64 4] w
      fun e w' => e = .returned (.tuple #[.int .u64 (le ((l.drop at_).take 4)), .int .i64 0]) ∧ Below w.heap.size w w' := by
  have Hw := Lib.hid (show isW 4 = true by decide)
  have Hp := Lib.hid hp
  clear hp
  have HC := Lib.hid hcell
  clear hcell
  have HB := Lib.hid hbd
  clear hbd
  have e1 : ¬ cap = at_ := by omega
  have e2 : (0 : Int) ≤ (at_ : Int) + 4 := by omega
  have e3 : (at_ : Int) + 4 ≤ (cap : Int) := by omega
  have e4 : ((at_ : Int) + 4).toNat = at_ + 4 := by omega
  have e5 : IntKind.i64.wrap ((at_ : Int) + 4) = (at_ : Int) + 4 := IntWalk.i64_in _ (by omega)
  have HS : Hid (∀ j v, ([.int .u8 (l.getD at_ 0), .int .u8 (l.getD (at_ + 1) 0), .int .u8 (l.getD (at_ + 2) 0), .int .u8 (l.getD (at_ + 3) 0)] : List Value)[j]? = some v → ((w.alloc (.cells #[.int .u8 0, .int .u8 0, .int .u8 0, .int .u8 0, .int .u8 0, .int .u8 0, .int .u8 0, .int .u8 0] 96)).drew).cell? ((⟨b, off + at_, none⟩ : Addr).add j) = some v) := by
    refine src_cells HC.out ?_ _ (by simpa using hat) ?_
    · intro o
      exact World.cell?_of_block (by show (w.heap.push _)[b]? = _; rw [Array.getElem?_push, if_neg (by omega)])
    · intro j hj
      match j, hj with
      | 0, _ => rfl
      | 1, _ => rfl
      | 2, _ => rfl
      | 3, _ => rfl
  go_enter Tryd.func59, Tryd.ntmps59
  go_wp2_with (first
    | (go_at_call 77; refine (isWidth_any _ _).mono ?_; rintro e w' ⟨rfl, rfl⟩; rw [Hw.out])
    | (go_at_call 54; refine (placed_any _ _ _ _ (by omega) (by omega) (by omega) (by omega)).mono ?_; rintro e w' ⟨rfl, rfl⟩; rw [Hp.out]))
  go_region_law (refine step_copy_row rfl (.tmp 21) (.tmp 27) 27 27 rfl 5 Tryd.underlying27 (by kernel_rfl) w.heap.size 0 8 8 ⟨b, off + at_, none⟩ 4 (cap - at_) (by simp [Act.eval, Act.put]) (by simp [Act.eval, Act.put]) #[.int .u8 0, .int .u8 0, .int .u8 0, .int .u8 0, .int .u8 0, .int .u8 0, .int .u8 0, .int .u8 0] 96 (heap_alloc_new w _) [.int .u8 (l.getD at_ 0), .int .u8 (l.getD (at_ + 1) 0), .int .u8 (l.getD (at_ + 2) 0), .int .u8 (l.getD (at_ + 3) 0)] (by simp) HS.out (by simp) (by simp [oneCell_int]) #[.int .u8 (l.getD at_ 0), .int .u8 (l.getD (at_ + 1) 0), .int .u8 (l.getD (at_ + 2) 0), .int .u8 (l.getD (at_ + 3) 0), .int .u8 0, .int .u8 0, .int .u8 0, .int .u8 0] (by simp) _ (setRow_alloc_drew _ _ _ _) ?_)
  clear e1 e2 e3 e4 e5
  go_wp2_with (go_at_call 79; refine (join_any (l.getD at_ 0) (l.getD (at_ + 1) 0) (l.getD (at_ + 2) 0) (l.getD (at_ + 3) 0) 0 0 0 0 _ (HB.out _) (HB.out _) (HB.out _) (HB.out _) (by decide) (by decide) (by decide) (by decide)).mono ?_; rintro e w' ⟨rfl, hb⟩)
  go_ret2
  refine ⟨?_, ?_⟩
  · have e : le ((l.drop at_).take 4) = le [l.getD at_ 0, l.getD (at_ + 1) 0, l.getD (at_ + 2) 0, l.getD (at_ + 3) 0, 0, 0, 0, 0] := by
      rw [take_drop_cons l at_ 3 (by omega), take_drop_cons l (at_ + 1) 2 (by omega), take_drop_cons l (at_ + 2) 1 (by omega), take_drop_cons l (at_ + 3) 0 (by omega), List.take_zero]
      simp only [le] <;> omega
    rw [e]
    rfl
  · exact (((Below.refl _ _).alloc (Nat.le_refl _) _).drew).trans (hb.mono (by simp))

theorem load_ok8 (b off cap : Nat) (l : List Int) (at_ : Nat) (w : World) (hl : l.length ≤ cap) (hc : cap ≤ 9223372036854775807)
    (hcell : ∀ i, i < l.length → w.cell? ⟨b, off + i, none⟩ = some (.int .u8 (l.getD i 0))) (hbd : ∀ i, 0 ≤ l.getD i 0 ∧ l.getD i 0 < 256)
    (hp : plc l.length at_ 8 = 0) (hat : at_ + 8 ≤ l.length) (hblk : b < w.heap.size) :
    Calls Tryd.prog 59 #[.slice (some ⟨b, off, none⟩) l.length cap, .int .i64 at_, .int .i64 8] w
      fun e w' => e = .returned (.tuple #[.int .u64 (le ((l.drop at_).take 8)), .int .i64 0]) ∧ Below w.heap.size w w' := by
  have Hw := Lib.hid (show isW 8 = true by decide)
  have Hp := Lib.hid hp
  clear hp
  have HC := Lib.hid hcell
  clear hcell
  have HB := Lib.hid hbd
  clear hbd
  have e1 : ¬ cap = at_ := by omega
  have e2 : (0 : Int) ≤ (at_ : Int) + 8 := by omega
  have e3 : (at_ : Int) + 8 ≤ (cap : Int) := by omega
  have e4 : ((at_ : Int) + 8).toNat = at_ + 8 := by omega
  have e5 : IntKind.i64.wrap ((at_ : Int) + 8) = (at_ : Int) + 8 := IntWalk.i64_in _ (by omega)
  have HS : Hid (∀ j v, ([.int .u8 (l.getD at_ 0), .int .u8 (l.getD (at_ + 1) 0), .int .u8 (l.getD (at_ + 2) 0), .int .u8 (l.getD (at_ + 3) 0), .int .u8 (l.getD (at_ + 4) 0), .int .u8 (l.getD (at_ + 5) 0), .int .u8 (l.getD (at_ + 6) 0), .int .u8 (l.getD (at_ + 7) 0)] : List Value)[j]? = some v → ((w.alloc (.cells #[.int .u8 0, .int .u8 0, .int .u8 0, .int .u8 0, .int .u8 0, .int .u8 0, .int .u8 0, .int .u8 0] 96)).drew).cell? ((⟨b, off + at_, none⟩ : Addr).add j) = some v) := by
    refine src_cells HC.out ?_ _ (by simpa using hat) ?_
    · intro o
      exact World.cell?_of_block (by show (w.heap.push _)[b]? = _; rw [Array.getElem?_push, if_neg (by omega)])
    · intro j hj
      match j, hj with
      | 0, _ => rfl
      | 1, _ => rfl
      | 2, _ => rfl
      | 3, _ => rfl
      | 4, _ => rfl
      | 5, _ => rfl
      | 6, _ => rfl
      | 7, _ => rfl
  go_enter Tryd.func59, Tryd.ntmps59
  go_wp2_with (first
    | (go_at_call 77; refine (isWidth_any _ _).mono ?_; rintro e w' ⟨rfl, rfl⟩; rw [Hw.out])
    | (go_at_call 54; refine (placed_any _ _ _ _ (by omega) (by omega) (by omega) (by omega)).mono ?_; rintro e w' ⟨rfl, rfl⟩; rw [Hp.out]))
  go_region_law (refine step_copy_row rfl (.tmp 21) (.tmp 27) 27 27 rfl 5 Tryd.underlying27 (by kernel_rfl) w.heap.size 0 8 8 ⟨b, off + at_, none⟩ 8 (cap - at_) (by simp [Act.eval, Act.put]) (by simp [Act.eval, Act.put]) #[.int .u8 0, .int .u8 0, .int .u8 0, .int .u8 0, .int .u8 0, .int .u8 0, .int .u8 0, .int .u8 0] 96 (heap_alloc_new w _) [.int .u8 (l.getD at_ 0), .int .u8 (l.getD (at_ + 1) 0), .int .u8 (l.getD (at_ + 2) 0), .int .u8 (l.getD (at_ + 3) 0), .int .u8 (l.getD (at_ + 4) 0), .int .u8 (l.getD (at_ + 5) 0), .int .u8 (l.getD (at_ + 6) 0), .int .u8 (l.getD (at_ + 7) 0)] (by simp) HS.out (by simp) (by simp [oneCell_int]) #[.int .u8 (l.getD at_ 0), .int .u8 (l.getD (at_ + 1) 0), .int .u8 (l.getD (at_ + 2) 0), .int .u8 (l.getD (at_ + 3) 0), .int .u8 (l.getD (at_ + 4) 0), .int .u8 (l.getD (at_ + 5) 0), .int .u8 (l.getD (at_ + 6) 0), .int .u8 (l.getD (at_ + 7) 0)] (by simp) _ (setRow_alloc_drew _ _ _ _) ?_)
  clear e1 e2 e3 e4 e5
  go_wp2_with (go_at_call 79; refine (join_any (l.getD at_ 0) (l.getD (at_ + 1) 0) (l.getD (at_ + 2) 0) (l.getD (at_ + 3) 0) (l.getD (at_ + 4) 0) (l.getD (at_ + 5) 0) (l.getD (at_ + 6) 0) (l.getD (at_ + 7) 0) _ (HB.out _) (HB.out _) (HB.out _) (HB.out _) (HB.out _) (HB.out _) (HB.out _) (HB.out _)).mono ?_; rintro e w' ⟨rfl, hb⟩)
  go_ret2
  refine ⟨?_, ?_⟩
  · have e : le ((l.drop at_).take 8) = le [l.getD at_ 0, l.getD (at_ + 1) 0, l.getD (at_ + 2) 0, l.getD (at_ + 3) 0, l.getD (at_ + 4) 0, l.getD (at_ + 5) 0, l.getD (at_ + 6) 0, l.getD (at_ + 7) 0] := by
      rw [take_drop_cons l at_ 7 (by omega), take_drop_cons l (at_ + 1) 6 (by omega), take_drop_cons l (at_ + 2) 5 (by omega), take_drop_cons l (at_ + 3) 4 (by omega), take_drop_cons l (at_ + 4) 3 (by omega), take_drop_cons l (at_ + 5) 2 (by omega), take_drop_cons l (at_ + 6) 1 (by omega), take_drop_cons l (at_ + 7) 0 (by omega), List.take_zero]
    rw [e]
    rfl
  · exact (((Below.refl _ _).alloc (Nat.le_refl _) _).drew).trans (hb.mono (by simp))
end Go.Proofs.YtkknegnipodcnaaDoor.Num
