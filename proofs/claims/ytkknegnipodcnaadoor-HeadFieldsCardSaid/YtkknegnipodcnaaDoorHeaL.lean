/- What is asked of head's functions; the example of the page; HeadWhere. -/
import Derived.Test.YtkknegnipodcnaaDoorHeaF
import Derived.Test.YtkknegnipodcnaaDoorKit4
import Derived.Test.YtkknegnipodcnaaDoorNumF
namespace Go.Proofs.YtkknegnipodcnaaDoor.Hea
open Go.RowKit Num
set_option linter.unusedVariables false

/-- 'Tb': what the code's package variables hold, of a world. -/
structure Does (Tb : World → Prop) : Prop where
  keep : ∀ (w w' : World), Below w.heap.size w w' → Tb w → Tb w'
  whr : ∀ (t f : Int) (w : World), Tb w → i64 t → i64 f → Calls Tryd.prog 15 #[.int .i64 t, .int .i64 f] w fun e w' => e = .returned (.tuple #[.int .i64 (whF t f).1, .int .i64 (whF t f).2]) ∧ Below w.heap.size w w'
  size : ∀ (t : Int) (w : World), Tb w → i64 t → Calls Tryd.prog 17 #[.int .i64 t] w fun e w' => e = .returned (.int .i64 (szF t)) ∧ Below w.heap.size w w'
  right : ∀ (b : Blk) (w : World), Tb w → b.Ok → Calls Tryd.prog 13 #[b.agg] w fun e w' => e = .returned (.bool (rightF b)) ∧ Below w.heap.size w w'
  encode : ∀ (b : Blk) (w : World), Tb w → b.Ok → Calls Tryd.prog 9 #[b.agg] w fun e w' => ∃ u, e = .returned (.tuple #[u, .int .i64 (encF b).2]) ∧ Below w.heap.size w w' ∧ Row .u8 w' u (encF b).1
  decode : ∀ (v : Value) (l : List Int) (w : World), Tb w → Row .u8 w v l → l.length ≤ 1000 → Calls Tryd.prog 11 #[v] w fun e w' => e = .returned (.tuple #[(decF l).1.agg, .int .i64 (decF l).2]) ∧ Below w.heap.size w w'

def exB : Blk := ⟨2, 1, false, 3, 5, 0, 0, 1, 0, 0, 0, 7⟩
def exL : List Int := [2, 1, 0, 3, 5, 0, 0, 0, 1, 0, 0, 0, 7, 0, 0, 0]
theorem exB_ok : exB.Ok := by constructor <;> simp [exB, i64, u32, u64, u16]
theorem exEnc : encF exB = (exL, 0) := by kernel_rfl
theorem exDec : decF exL = (exB, 0) := by kernel_rfl
theorem exBad : decF [3] = (Blk.zero, 4) := by kernel_rfl
theorem exStr : (strOfNums exL).toList = [2, 1, 0, 3, 5, 0, 0, 0, 1, 0, 0, 0, 7, 0, 0, 0] := by rw [ByteArray.toList_eq]; kernel_rfl

set_option maxRecDepth 100000 in
set_option maxHeartbeats 2000000 in
theorem heads_any {Tb : World → Prop} (D : Does Tb) (w : World) (ht : Tb w) : Calls Tryd.prog 8 #[] w fun e w' => e = .returned (.bool true) ∧ Below w.heap.size w w' := by
  have he := fun u (hu : Tb u) => D.encode exB u hu exB_ok
  rw [exEnc] at he
  unfold Blk.agg exB at he
  have HE := Lib.hid he
  have hd := fun v u (hu : Tb u) (hr : Row .u8 u v exL) => D.decode v exL u hu hr (by decide)
  rw [exDec] at hd
  unfold Blk.agg exB at hd
  have HDe := Lib.hid hd
  have hd3 := fun v u (hu : Tb u) (hr : Row .u8 u v [3]) => D.decode v [3] u hu hr (by decide)
  rw [exBad] at hd3
  unfold Blk.agg Blk.zero at hd3
  have HD3 := Lib.hid hd3
  have HW : Hid (∀ u, Tb u → Calls Tryd.prog 15 #[.int .i64 1, .int .i64 7] u fun e w' => e = .returned (.tuple #[.int .i64 16, .int .i64 8]) ∧ Below u.heap.size u w') := fun u hu => D.whr 1 7 u hu (by unfold i64; omega) (by unfold i64; omega)
  have HS : Hid (∀ u, Tb u → Calls Tryd.prog 17 #[.int .i64 1] u fun e w' => e = .returned (.int .i64 32) ∧ Below u.heap.size u w') := fun u hu => D.size 1 u hu (by unfold i64; omega)
  have HKeep := Lib.hid D.keep
  have HT := Lib.hid ht
  clear he hd hd3 D ht
  have hb0 := below_made w (.cells #[.int .i64 2, .int .i64 1, .bool false, .int .i64 3, .int .u32 5, .int .u32 0, .int .u32 0, .int .u32 1, .int .u64 0, .int .u16 0, .int .i64 0, .int .u32 7] 26)
  have HX : Hid (∀ W, Below (BW w exB).heap.size (BW w exB) W → BX w W exB) := fun W hb => (BX.first w exB).below hb
  unfold BW exB at HX
  have HT0 := Lib.hid (HKeep.out _ _ hb0 HT.out)
  clear hb0
  obtain ⟨c0, c1, c2, c3, c4, c5, c6, c7, c8, c9, c10, c11, -, -⟩ := HX.out _ (Below.refl _ _)
  go_enter Tryd.func8, Tryd.ntmps8
  go_wp2_with fail
  refine (HE.out _ HT0.out).mono ?_
  rintro e w1 ⟨u1, rfl, hb1, hr1⟩
  have HT1 := Lib.hid (HKeep.out _ _ hb1 HT0.out)
  have HR1 := Lib.hid hr1
  have HB1 := Lib.hid hb1
  obtain ⟨a1, k1, rfl, -, -, -, -⟩ := hr1
  clear c0 c1 c2 c3 c4 c5 c6 c7 c8 c9 c10 c11 hb1
  go_wp2_with fail
  refine (HDe.out _ _ HT1.out HR1.out).mono ?_
  rintro e w2 ⟨rfl, hb2⟩
  have HA2 := Lib.hid (below_made w2 (.cells #[.int .i64 2, .int .i64 1, .bool false, .int .i64 3, .int .u32 5, .int .u32 0, .int .u32 0, .int .u32 1, .int .u64 0, .int .u16 0, .int .i64 0, .int .u32 7] 26))
  have hbx := heap_alloc_new w2 (.cells #[.int .i64 2, .int .i64 1, .bool false, .int .i64 3, .int .u32 5, .int .u32 0, .int .u32 0, .int .u32 1, .int .u64 0, .int .u16 0, .int .i64 0, .int .u32 7] 26)
  obtain ⟨w3, hw3⟩ : ∃ w3, w3 = w2.alloc (.cells #[.int .i64 2, .int .i64 1, .bool false, .int .i64 3, .int .u32 5, .int .u32 0, .int .u32 0, .int .u32 1, .int .u64 0, .int .u16 0, .int .i64 0, .int .u32 7] 26) := ⟨_, rfl⟩
  have hz3 : w2.heap.size + 1 = w3.heap.size := by rw [hw3]; simp
  have HZ3 := Lib.hid hz3
  have HW3 := Lib.hid hw3
  rw [← hw3] at HA2 hbx
  have HBX : Hid (w3.heap[w2.heap.size]? = some (.cells (cellsA exB) 26 (0, 0))) := hbx
  have hr3 : Row .u8 (w3.alloc (.cells #[.int .u8 3] 5)) (.slice (some ⟨w3.heap.size, 0, none⟩) 1 1) [3] := row_of_block (l := [3]) (heap_alloc_new w3 _) (by intro i; match i with | 0 => decide | j + 1 => simp) (by decide)
  have HR3 := Lib.hid hr3
  have hb3 := below_made w3 (.cells #[.int .u8 3] 5)
  have h1 : Below w1.heap.size w1 w3 := hb2.trans (HA2.out.mono hb2.size)
  have HB13 := Lib.hid (h1.trans (hb3.mono h1.size))
  have HB33 := Lib.hid hb3
  clear hb2 hbx hw3 hz3 hr3 hb3 h1
  go_wp2_with fail
  rw [HZ3.out, ← HW3.out]
  refine (HD3.out _ _ (HKeep.out _ _ HB13.out HT1.out) HR3.out).mono ?_
  rintro e w4 ⟨rfl, hb4⟩
  have HB14 := Lib.hid (HB13.out.trans (hb4.mono HB13.out.size))
  have HB34 := Lib.hid (HB33.out.trans (hb4.mono HB33.out.size))
  clear hb4 HB13 HB33 HR3 HZ3 HW3 HA2
  have hb5 := below_made w4 (.cells #[.int .i64 0, .int .i64 0, .bool false, .int .i64 0, .int .u32 0, .int .u32 0, .int .u32 0, .int .u32 0, .int .u64 0, .int .u16 0, .int .i64 0, .int .u32 0] 26)
  have HB15 := Lib.hid (HB14.out.trans (hb5.mono HB14.out.size))
  have HB35 := Lib.hid (HB34.out.trans (hb5.mono HB34.out.size))
  clear hb5
  go_wp2_with fail
  refine (HW.out _ (HKeep.out _ _ HB15.out HT1.out)).mono ?_
  rintro e w6 ⟨rfl, hb6⟩
  have hb16 := HB15.out.trans (hb6.mono HB15.out.size)
  have HB16 := Lib.hid hb16
  have hb36 := HB35.out.trans (hb6.mono HB35.out.size)
  obtain ⟨c0, c1, c2, c3, c4, c5, c6, c7, c8, c9, c10, c11, -, hbel⟩ := HX.out w6 (HB1.out.trans (hb16.mono HB1.out.size))
  have hb7 := (hb36.block _ (lt_block HBX.out)).trans HBX.out
  obtain ⟨d0, d1, d2, d3, d4, d5, d6, d7, d8, d9, d10, d11⟩ := cells_of hb7
  simp only [exB] at d0 d1 d2 d3 d4 d5 d6 d7 d8 d9 d10 d11
  have hr6 := HR1.out.mono hb16 (Nat.le_refl _)
  have hconv : (convert 27 9 (.slice a1 exL.length k1)).run Tryd.prog w6 = .ok (.string (strOfNums exL)) w6 := Row.string (P := Tryd.prog) hr6 27 9 5 Tryd.underlying27 Tryd.underlying5 Tryd.underlying9
  have hstr := exStr
  have HBel := Lib.hid hbel
  clear hb6 hb16 hb36 hb7 hr6 hbel
  go_wp2_with fail
  refine (HS.out _ (HKeep.out _ _ HB16.out HT1.out)).mono ?_
  rintro e w7 ⟨rfl, hb7⟩
  have HE7 := Lib.hid (HBel.out.trans (hb7.mono HBel.out.size))
  clear hb7
  go_wp2
  go_ret
  exact ⟨rfl, HE7.out⟩
end Go.Proofs.YtkknegnipodcnaaDoor.Hea
