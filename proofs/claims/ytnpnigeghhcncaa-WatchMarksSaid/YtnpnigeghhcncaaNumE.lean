/- Contracts of num's Store. -/
import Derived.Test.YtnpnigeghhcncaaNumD
namespace Go.Proofs.Ytnpnigeghhcncaa.Num
open Go.RowKit
set_option linter.unusedVariables false

/-- The bytes of a number, the lowest first. -/
def parts (v : Int) : List Int := [v % 256, v / 256 % 256, v / 65536 % 256, v / 16777216 % 256, v / 4294967296 % 256, v / 1099511627776 % 256, v / 281474976710656 % 256, v / 72057594037927936]
/-- What Store answers, where it does. -/
def stl (l : List Int) (a x : Nat) (v : Int) : List Int := l.take a ++ ((parts v).take x ++ l.drop (a + x))
/-- Why Store answers nothing, or 0. -/
def ste (l : List Int) (a x v : Int) : Int := if fits v x then plc l.length a x else 2

theorem parts_length (v : Int) : (parts v).length = 8 := rfl
theorem parts_bd (v : Int) (h0 : 0 ≤ v) (h1 : v < 18446744073709551616) : ∀ i, 0 ≤ (parts v).getD i 0 ∧ (parts v).getD i 0 < 256 := by
  intro i
  match i with
  | 0 => simp [parts]; omega
  | 1 => simp [parts]; omega
  | 2 => simp [parts]; omega
  | 3 => simp [parts]; omega
  | 4 => simp [parts]; omega
  | 5 => simp [parts]; omega
  | 6 => simp [parts]; omega
  | 7 => simp [parts]; omega
  | j + 8 => simp [parts]

theorem stl_length (l : List Int) (a x : Nat) (v : Int) (h : a + x ≤ l.length) (hx : x ≤ 8) : (stl l a x v).length = l.length := by
  simp [stl, parts_length]; omega

def vals (l : List Int) : List Value := l.map (.int .u8)
theorem vals_length (l : List Int) : (vals l).length = l.length := by simp [vals]
theorem vals_get (l : List Int) (j : Nat) (h : j < l.length) : (vals l)[j]? = some (.int .u8 (l.getD j 0)) := by simp [vals, h, List.getD]
theorem vals_oneCell (l : List Int) : ∀ u ∈ vals l, u.oneCell' = true := by
  intro u hu
  obtain ⟨x, _, rfl⟩ := List.mem_map.1 hu
  rfl
theorem src_vals {w W : World} {b off at_ : Nat} {l : List Int} (hcell : ∀ i, i < l.length → w.cell? ⟨b, off + i, none⟩ = some (.int .u8 (l.getD i 0)))
    (hW : ∀ o, W.cell? ⟨b, o, none⟩ = w.cell? ⟨b, o, none⟩) (n : Nat) (hn : at_ + n ≤ l.length) :
    ∀ j v, (vals ((l.drop at_).take n))[j]? = some v → W.cell? ((⟨b, off + at_, none⟩ : Addr).add j) = some v := by
  have hlen : ((l.drop at_).take n).length = n := by simp; omega
  refine src_cells hcell hW _ (by rw [vals_length, hlen]; exact hn) ?_
  intro j hj
  rw [vals_length, hlen] at hj
  rw [vals_get _ _ (by omega), take_getD _ _ _ hj, drop_getD]

theorem infoU8 : (Try.prog.info? 5).map (fun i => (i.zero, i.size, i.bytes)) = some (some (.int .u8 0), 1, 1) := by kernel_rfl

/-- What Store comes to. -/
def Stored (w : World) (l : List Int) (a x v : Int) (e : Ending) (w' : World) : Prop :=
  ∃ u, e = .returned (.tuple #[u, .int .i64 (ste l a x v)]) ∧ Below w.heap.size w w' ∧ Row .u8 w' u (if ste l a x v = 0 then stl l a.toNat x.toNat v else [])

theorem row_of_block {w : World} {g : Nat} {l : List Int} {t : TypeId} (h : w.heap[g]? = some (.cells (vals l).toArray t (0, 0))) (hb : ∀ i, 0 ≤ l.getD i 0 ∧ l.getD i 0 < 256) (hl : l.length ≤ 9223372036854775807) :
    Row .u8 w (.slice (some ⟨g, 0, none⟩) l.length l.length) l := by
  refine ⟨_, _, rfl, Nat.le_refl _, hl, fun i hi => ?_, fun _ => ⟨g, 0, rfl, ?_, fun i hi => ?_⟩⟩
  · have := hb i; exact WalkArith.wf_u8 (by omega)
  · exact (Array.getElem?_eq_some_iff.1 h).1
  · rw [Nat.zero_add, cell_block h, List.getElem?_toArray, vals_get _ _ hi]

theorem stl_bd (l : List Int) (a x : Nat) (v : Int) (h0 : 0 ≤ v) (h1 : v < 18446744073709551616) (hl : ∀ i, 0 ≤ l.getD i 0 ∧ l.getD i 0 < 256) : ∀ i, 0 ≤ (stl l a x v).getD i 0 ∧ (stl l a x v).getD i 0 < 256 := by
  have key : ∀ u, u ∈ stl l a x v → 0 ≤ u ∧ u < 256 := by
    intro u hu
    have mem : ∀ (L : List Int), (∀ i, 0 ≤ L.getD i 0 ∧ L.getD i 0 < 256) → u ∈ L → 0 ≤ u ∧ u < 256 := by
      intro L hL hm
      obtain ⟨i, hi, rfl⟩ := List.getElem_of_mem hm
      have := hL i
      simpa [List.getD, hi] using this
    simp only [stl, List.mem_append] at hu
    rcases hu with hu | hu | hu
    · exact mem l hl (List.mem_of_mem_take hu)
    · exact mem _ (parts_bd v h0 h1) (List.mem_of_mem_take hu)
    · exact mem l hl (List.mem_of_mem_drop hu)
  intro i
  by_cases hi : i < (stl l a x v).length
  · have := key _ (List.getElem_mem hi)
    simpa [List.getD, hi] using this
  · simp [List.getD, List.getElem?_eq_none (show (stl l a x v).length ≤ i by omega)]

end Go.Proofs.Ytnpnigeghhcncaa.Num
