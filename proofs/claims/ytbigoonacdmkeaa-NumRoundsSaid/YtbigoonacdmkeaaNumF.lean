/- Contracts of the document's Same and Store, and of what must come at any rate. -/
import Derived.Test.YtbigoonacdmkeaaNumE
namespace Go.Proofs.Ytbigoonacdmkeaa.Num
open Go.RowKit
set_option linter.unusedVariables false

theorem same_any (u v : Value) (l m : List Int) (w : World) (hu : Row .u8 w u l) (hv : Row .u8 w v m) :
    Calls Try.prog 13 #[u, v] w fun e w' => e = .returned (.bool (l == m)) ∧ w = w' := by
  have h1 := hu.string (P := Try.prog) 22 9 5 Try.underlying22 Try.underlying5 Try.underlying9
  have h2 := hv.string (P := Try.prog) 22 9 5 Try.underlying22 Try.underlying5 Try.underlying9
  go_enter Try.func13, Try.ntmps13
  go_wp2
  go_ret
  exact ⟨ret_bool (strOfNums_toList_beq hu.bytes hv.bytes), rfl⟩

theorem madeCells_one (z : Value) (n : Nat) : madeCells #[z] n = (List.replicate n z).toArray := by
  apply Array.ext
  · simp [madeCells]
  · intro i h1 h2
    simp [madeCells, Nat.mod_one]

theorem row_zeros4 (w : World) : Row .u8 (w.alloc (.cells (madeCells (Value.int .u8 0).cells 4) 5)) (.slice (some ⟨w.heap.size, 0, none⟩) 4 4) [0, 0, 0, 0] :=
  row_of_block (l := [0, 0, 0, 0]) (t := 5) (by rw [heap_alloc_new]; exact congrArg (fun c => some (Obj.cells c 5)) (madeCells_one _ 4)) (by intro i; match i with | 0 | 1 | 2 | 3 => decide | j + 4 => simp) (by decide)

theorem loads_any (w : World) :
    Calls Try.prog 8 #[] w fun e w' => e = .returned (.bool true) ∧ Below w.heap.size w w' := by
  obtain ⟨i0, hi, hz0, hz1, hz2⟩ := info_parts infoU8
  have R0 := Lib.hid (row_zeros4 w)
  go_enter Try.func8, Try.ntmps8
  go_wp2_with (refine wpList_make_row rfl (.const (.int .i64 4)) (.const (.int .i64 4)) 22 rfl 5 i0 (.int .u8 0) 1 Try.underlying22 hi hz0 hz1 hz2 .i64 .i64 4 rfl rfl (by omega) (by omega) ?_)
  refine (store_any _ 2 2 258 [0, 0, 0, 0] _ R0.out (by omega) (by omega) (by decide)).mono ?_
  rintro e w1 ⟨u, rfl, hb1, hr1⟩
  rw [show ste [0, 0, 0, 0] 2 2 258 = 0 by decide] at hr1 ⊢
  rw [if_pos rfl, show stl [0, 0, 0, 0] (2 : Int).toNat (2 : Int).toNat 258 = [0, 0, 2, 1] by decide] at hr1
  have B1 : Below w.heap.size w w1 := ((Below.refl _ _).alloc (Nat.le_refl _) _).trans (hb1.mono (by simp))
  clear hb1
  have R1 := Lib.hid hr1
  clear hr1
  go_wp2_with fail
  refine (load_any _ 2 2 [0, 0, 2, 1] _ R1.out).mono ?_
  rintro e w2 ⟨rfl, hb2⟩
  rw [show ldv [0, 0, 2, 1] 2 2 = (258, 0) by decide]
  have R2 := Lib.hid (R1.out.mono hb2 (Nat.le_refl _))
  have B2 : Below w.heap.size w w2 := B1.trans (hb2.mono B1.size)
  clear hb2 R1 B1
  go_wp2_with fail
  refine (load_any _ 1 2 [0, 0, 2, 1] _ R2.out).mono ?_
  rintro e w3 ⟨rfl, hb3⟩
  rw [show ldv [0, 0, 2, 1] 1 2 = (0, 9) by decide]
  have R3 := Lib.hid (R2.out.mono hb3 (Nat.le_refl _))
  have B3 : Below w.heap.size w w3 := B2.trans (hb3.mono B2.size)
  clear hb3 R2 B2
  go_wp2_with fail
  refine (store_any _ 0 1 256 [0, 0, 2, 1] _ R3.out (by omega) (by omega) (by decide)).mono ?_
  rintro e w4 ⟨u4, rfl, hb4, hr4⟩
  rw [show ste [0, 0, 2, 1] 0 1 256 = 2 by decide]
  have R4 := R3.out.mono hb4 (Nat.le_refl _)
  have B4 : Below w.heap.size w w4 := B3.trans (hb4.mono B3.size)
  clear hb4 R3 B3 hr4
  have hs := R4.string (P := Try.prog) 22 9 5 Try.underlying22 Try.underlying5 Try.underlying9
  have hstr : ((strOfNums [0, 0, 2, 1]).toList == [0, 0, 2, 1]) = true := by rw [ByteArray.toList_eq, strOfNums_data]; decide
  have e33 : rnd 33 16 = 48 := by decide
  have e5 : ((hlv 5 : Nat) : Int) = 3 := by decide
  have e255 : fits 255 1 = true := by decide
  go_wp2_with (first
    | (go_at_call 16; refine (round_any _ _ _).mono ?_; rintro e w' ⟨rfl, rfl⟩; rw [e33])
    | (go_at_call 18; refine (halves_any _ _ (by omega)).mono ?_; rintro e w' ⟨rfl, rfl⟩; rw [e5])
    | (go_at_call 14; refine (fits_any _ _ _ (by omega) (by omega)).mono ?_; rintro e w' ⟨rfl, rfl⟩; rw [e255]))
  go_ret
  exact ⟨rfl, B4⟩
end Go.Proofs.Ytbigoonacdmkeaa.Num
