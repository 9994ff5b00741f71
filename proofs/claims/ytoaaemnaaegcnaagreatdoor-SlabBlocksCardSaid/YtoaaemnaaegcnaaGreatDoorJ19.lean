/- Get of the document's lists. The document's lists: Begin, Set, Insert, Remove. Begin of the document's lists. -/
import Derived.Test.YtoaaemnaaegcnaaGreatDoorJ16
import Derived.Laws.MakeOwn
namespace Go.Proofs.YtoaaemnaaegcnaaGreatDoor.Lis
open Go.RowKit Num Arn
open Mem (Mm MemC MRet Hm rd blkM)
set_option linter.unusedVariables false

end Go.Proofs.YtoaaemnaaegcnaaGreatDoor.Lis

namespace Go.Proofs.YtoaaemnaaegcnaaGreatDoor.Lis
open Go.RowKit Num Arn
open Mem (Mm MemC MRet Hm rd blkM)
set_option linter.unusedVariables false

/-! ### Five cells of an array -/
def set5 (c : Array Value) (o : Nat) (v0 v1 v2 v3 v4 : Value) : Array Value := ((((c.setIfInBounds o v0).setIfInBounds (o + 1) v1).setIfInBounds (o + 2) v2).setIfInBounds (o + 3) v3).setIfInBounds (o + 4) v4
theorem set5_size (c : Array Value) (o : Nat) (v0 v1 v2 v3 v4 : Value) : (set5 c o v0 v1 v2 v3 v4).size = c.size := by simp [set5]
theorem set5_ne (c : Array Value) (o p : Nat) (v0 v1 v2 v3 v4 : Value) (h : p < o ∨ o + 5 ≤ p) : (set5 c o v0 v1 v2 v3 v4)[p]? = c[p]? := by
  unfold set5
  rw [Array.getElem?_setIfInBounds_ne (by omega), Array.getElem?_setIfInBounds_ne (by omega), Array.getElem?_setIfInBounds_ne (by omega), Array.getElem?_setIfInBounds_ne (by omega), Array.getElem?_setIfInBounds_ne (by omega)]
theorem set5_at (c : Array Value) (o : Nat) (v0 v1 v2 v3 v4 : Value) (h : o + 5 ≤ c.size) :
    (set5 c o v0 v1 v2 v3 v4)[o]? = some v0 ∧ (set5 c o v0 v1 v2 v3 v4)[o + 1]? = some v1 ∧ (set5 c o v0 v1 v2 v3 v4)[o + 2]? = some v2 ∧ (set5 c o v0 v1 v2 v3 v4)[o + 3]? = some v3 ∧ (set5 c o v0 v1 v2 v3 v4)[o + 4]? = some v4 := by
  unfold set5
  have h0 : o < c.size := by omega
  have h1 : o + 1 < c.size := by omega
  have h2 : o + 2 < c.size := by omega
  have h3 : o + 3 < c.size := by omega
  have h4 : o + 4 < c.size := by omega
  refine ⟨?_, ?_, ?_, ?_, ?_⟩ <;> simp [h0, h1, h2, h3, h4]
/-- A slab's five cells, written one by one. -/
def SH (w : World) (a o : Nat) (c v f : Int) : World :=
  ((((w.setCell ⟨a, o, none⟩ (.int .i64 c)).setCell ⟨a, o + 1, none⟩ (.int .i64 v)).setCell ⟨a, o + 2, none⟩ (.int .u32 f)).setCell ⟨a, o + 3, none⟩ (.int .i64 0)).setCell ⟨a, o + 4, none⟩ (.int .i64 0)
theorem sh_fr (w : World) (a o : Nat) (c v f : Int) : Fr w.heap.size (fun j => j = a) w (SH w a o c v f) := by
  unfold SH
  exact (((((Fr.refl w.heap.size (fun j => j = a) w).setCell (p := ⟨a, o, none⟩) (.inr rfl) _).setCell (p := ⟨a, o + 1, none⟩) (.inr rfl) _).setCell (p := ⟨a, o + 2, none⟩) (.inr rfl) _).setCell (p := ⟨a, o + 3, none⟩) (.inr rfl) _).setCell (p := ⟨a, o + 4, none⟩) (.inr rfl) _
theorem ckB_cases {S : Nat} {c s : Int} : (isL c = false ∧ ckB S c s = 2) ∨ (isL c = true ∧ ¬ (0 ≤ s ∧ s < (S : Int)) ∧ ckB S c s = 6) ∨ ∃ k n : Nat, c = k ∧ k < 10 ∧ s = n ∧ n < S ∧ ckB S c s = 0 := by
  unfold ckB ckS
  cases hi : isL c with
  | false => exact .inl ⟨rfl, rfl⟩
  | true =>
    obtain ⟨k, rfl, hk⟩ := isL_nat hi
    by_cases h1 : 0 ≤ s ∧ s < (S : Int)
    · exact .inr (.inr ⟨k, s.toNat, rfl, hk, by omega, by omega, by rw [if_pos rfl, if_pos h1]⟩)
    · exact .inr (.inl ⟨rfl, h1, by rw [if_pos rfl, if_neg h1]⟩)

end Go.Proofs.YtoaaemnaaegcnaaGreatDoor.Lis

namespace Go.Proofs.YtoaaemnaaegcnaaGreatDoor.Lis
open Go.RowKit Num Arn
set_option linter.unusedVariables false

theorem infoSlab : (Tryz.prog.info? 101).map (fun i => (i.zero, i.size, i.bytes)) = some (some Hd.zero.agg, 5, 40) := by kernel_rfl
theorem run_make_n {P : Program} (t e : TypeId) (i : TypeInfo) (z : Value) (ht : P.underlying t = some (.slice e)) (hi : P.info? e = some i) (hz : i.zero = some z) (n : Nat) (hb : i.bytes ≤ 40) (hn : n ≤ 64) (w : World) :
    (Instr.makeSlice t (.int .i64 (n : Int)) (.int .i64 (n : Int))).run P w = .ok (.slice (some ⟨w.heap.size, 0, none⟩) n n) (w.alloc (.cells (madeCells z.cells (n * i.size)) e)) := by
  have hbb : (i.bytes : Int) * (n : Int) ≤ 281474976710656 := by
    have h : ((i.bytes * n : Nat) : Int) ≤ 281474976710656 := by
      have := Nat.mul_le_mul hb hn
      omega
    rwa [Int.natCast_mul] at h
  have hr := run_make (P := P) w t e i z ht hi hz .i64 .i64 n n (by omega) (by omega) hbb (by omega)
  simp only [Int.toNat_natCast] at hr
  exact hr
/-- The cells of n headers that say nothing. -/
def MH (n : Nat) : Array Value := madeCells Hd.zero.agg.cells (n * 5)
theorem mh_size (n : Nat) : (MH n).size = n * 5 := size_madeCells _ _
theorem mh_at (n j i : Nat) (hj : j < n) (hi : i < 5) : (MH n)[j * 5 + i]? = Hd.zero.cells[i]? := by
  have h1 : (j * 5 + i) % 5 = i := by omega
  have h2 : j * 5 + i < n * 5 := by omega
  have h3 : Hd.zero.agg.cells = Hd.zero.cells := rfl
  unfold MH madeCells
  rw [h3]
  have h4 : Hd.zero.cells.size = 5 := rfl
  simp [h2, h4, h1, hi]
theorem three_blocks (w : World) (o1 o2 o3 : Obj) : (((w.alloc o1).alloc o2).alloc o3).drew.heap[w.heap.size]? = some o1 ∧ (((w.alloc o1).alloc o2).alloc o3).drew.heap[w.heap.size + 1]? = some o2 ∧ (((w.alloc o1).alloc o2).alloc o3).drew.heap[w.heap.size + 1 + 1]? = some o3 ∧ Below w.heap.size w (((w.alloc o1).alloc o2).alloc o3).drew := by
  have z1 : (w.alloc o1).heap.size = w.heap.size + 1 := by simp
  have z2 : ((w.alloc o1).alloc o2).heap.size = w.heap.size + 1 + 1 := by simp
  have b1 := below_made w o1
  have b2 := below_made (w.alloc o1) o2
  have b3 := below_made ((w.alloc o1).alloc o2) o3
  have n1 := heap_alloc_new w o1
  have n2 := heap_alloc_new (w.alloc o1) o2
  have n3 := heap_alloc_new ((w.alloc o1).alloc o2) o3
  rw [z1] at n2
  rw [z2] at n3
  exact ⟨(b3.block _ (by omega)).trans ((b2.block _ (by omega)).trans n1), (b3.block _ (by omega)).trans n2, n3, (b1.trans ((b2.trans (b3.mono (by omega))).mono (by omega))).drew⟩
end Go.Proofs.YtoaaemnaaegcnaaGreatDoor.Lis
