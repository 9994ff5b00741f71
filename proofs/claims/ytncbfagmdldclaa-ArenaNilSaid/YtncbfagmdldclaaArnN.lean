/- The walk of ArenaNil: an arena that is none. -/
import Derived.Test.YtncbfagmdldclaaArnY
import Derived.Test.YtncbfagmdldclaaArnV
import Derived.Test.YtncbfagmdldclaaArnP
import Derived.Test.YtncbfagmdldclaaKit4
namespace Go.Proofs.Ytncbfagmdldclaa.Arn
open Go.RowKit Num
set_option linter.unusedVariables false

/-- An arena that is nil, or that nobody made. -/
def NoneA (w : World) (v : Value) : Prop := v = .pointer none ∨ ∃ g, v = .pointer (some ⟨g, 0, none⟩) ∧ w.heap[g]? = some (.cells #[.slice none 0 0] 57 (0, 0))
theorem NoneA.below {w w' : World} {v : Value} (h : NoneA w v) (hb : Below w.heap.size w w') : NoneA w' v := by
  rcases h with rfl | ⟨g, rfl, hg⟩
  · exact .inl rfl
  · exact .inr ⟨g, rfl, (hb.block g (lt_of_block hg)).trans hg⟩

theorem madeN_any (v : Value) (w : World) (hn : NoneA w v) : Calls Try.prog 32 #[v] w fun e w' => e = .returned (.bool false) ∧ w = w' := by
  rcases hn with rfl | ⟨g, rfl, hg⟩
  · go_enter Try.func32, Try.ntmps32
    go_wp2
    go_ret
    exact ⟨rfl, rfl⟩
  · have c1 := cell_of_one hg
    clear hg
    go_enter Try.func32, Try.ntmps32
    go_wp2
    go_ret
    exact ⟨rfl, rfl⟩
theorem lenN_any (v : Value) (w : World) (hn : NoneA w v) : Calls Try.prog 13 #[v] w fun e w' => e = .returned (.int .i64 0) ∧ w = w' := by
  have HM := Lib.hid (madeN_any v w hn)
  clear hn
  go_enter Try.func13, Try.ntmps13
  go_wp2_with fail
  refine HM.out.mono ?_
  rintro e w' ⟨rfl, rfl⟩
  go_wp2
  go_ret
  exact ⟨rfl, rfl⟩
theorem imageN_any (v : Value) (w : World) (hn : NoneA w v) : Calls Try.prog 12 #[v] w fun e w' => e = .returned (.slice none 0 0) ∧ w = w' := by
  have HM := Lib.hid (madeN_any v w hn)
  clear hn
  go_enter Try.func12, Try.ntmps12
  go_wp2_with fail
  refine HM.out.mono ?_
  rintro e w' ⟨rfl, rfl⟩
  go_wp2
  go_ret
  exact ⟨rfl, rfl⟩
theorem getN_any (v : Value) (a x : Int) (w : World) (hn : NoneA w v) : Calls Try.prog 18 #[v, .int .i64 a, .int .i64 x] w fun e w' => e = .returned (.tuple #[.int .u64 0, .int .i64 1]) ∧ w = w' := by
  have HM := Lib.hid (madeN_any v w hn)
  clear hn
  go_enter Try.func18, Try.ntmps18
  go_wp2_with fail
  refine HM.out.mono ?_
  rintro e w' ⟨rfl, rfl⟩
  go_wp2
  go_ret2
  exact ⟨rfl, rfl⟩
theorem putN_any (v : Value) (a x y : Int) (w : World) (hn : NoneA w v) : Calls Try.prog 17 #[v, .int .i64 a, .int .i64 x, .int .u64 y] w fun e w' => e = .returned (.int .i64 1) ∧ w = w' := by
  have HM := Lib.hid (madeN_any v w hn)
  clear hn
  go_enter Try.func17, Try.ntmps17
  go_wp2_with fail
  refine HM.out.mono ?_
  rintro e w' ⟨rfl, rfl⟩
  go_wp2
  go_ret
  exact ⟨rfl, rfl⟩
theorem viewN_any (v : Value) (a n : Int) (w : World) (hn : NoneA w v) : Calls Try.prog 16 #[v, .int .i64 a, .int .i64 n] w fun e w' => e = .returned (.tuple #[.slice none 0 0, .int .i64 1]) ∧ w = w' := by
  have HM := Lib.hid (madeN_any v w hn)
  clear hn
  go_enter Try.func16, Try.ntmps16
  go_wp2_with fail
  refine HM.out.mono ?_
  rintro e w' ⟨rfl, rfl⟩
  go_wp2
  go_ret2
  exact ⟨rfl, rfl⟩
theorem readN_any (v : Value) (a n : Int) (w : World) (hn : NoneA w v) : Calls Try.prog 19 #[v, .int .i64 a, .int .i64 n] w fun e w' => e = .returned (.tuple #[.slice none 0 0, .int .i64 1]) ∧ w = w' := by
  have HM := Lib.hid (viewN_any v a n w hn)
  clear hn
  go_enter Try.func19, Try.ntmps19
  go_wp2_with fail
  refine HM.out.mono ?_
  rintro e w' ⟨rfl, rfl⟩
  go_wp2
  go_ret2
  exact ⟨rfl, rfl⟩
theorem changeN_any (v : Value) (a n : Int) (f : Value) (w : World) (hn : NoneA w v) : Calls Try.prog 37 #[v, .int .i64 a, .int .i64 n, f] w fun e w' => e = .returned (.int .i64 1) ∧ w = w' := by
  have HM := Lib.hid (viewN_any v a n w hn)
  clear hn
  go_enter Try.func37, Try.ntmps37
  go_wp2_with fail
  refine HM.out.mono ?_
  rintro e w' ⟨rfl, rfl⟩
  go_wp2
  go_ret
  exact ⟨rfl, rfl⟩
theorem writeN_any (v : Value) (a : Int) (p : Option Addr) (n c : Nat) (w : World) (hn : NoneA w v) : Calls Try.prog 20 #[v, .int .i64 a, .slice p n c] w fun e w' => e = .returned (.int .i64 1) ∧ w = w' := by
  have HM := Lib.hid (changeN_any v a n (.func (.func 38) #[.slice p n c] #[]) w hn)
  clear hn
  go_enter Try.func20, Try.ntmps20
  go_wp2_with fail
  refine HM.out.mono ?_
  rintro e w' ⟨rfl, rfl⟩
  go_wp2
  go_ret
  exact ⟨rfl, rfl⟩
theorem zeroN_any (v : Value) (a n : Int) (w : World) (hn : NoneA w v) : Calls Try.prog 21 #[v, .int .i64 a, .int .i64 n] w fun e w' => e = .returned (.int .i64 1) ∧ w = w' := by
  have HM := Lib.hid (changeN_any v a n (.func (.func 38) #[.slice none 0 0] #[]) w hn)
  clear hn
  go_enter Try.func21, Try.ntmps21
  go_wp2_with fail
  refine HM.out.mono ?_
  rintro e w' ⟨rfl, rfl⟩
  go_wp2
  go_ret
  exact ⟨rfl, rfl⟩
theorem moveN_any (v : Value) (f t n : Int) (w : World) (hn : NoneA w v) : Calls Try.prog 22 #[v, .int .i64 f, .int .i64 t, .int .i64 n] w fun e w' => e = .returned (.int .i64 1) ∧ w = w' := by
  have HM := Lib.hid (viewN_any v f n w hn)
  clear hn
  go_enter Try.func22, Try.ntmps22
  go_wp2_with fail
  refine HM.out.mono ?_
  rintro e w' ⟨rfl, rfl⟩
  go_wp2
  go_ret
  exact ⟨rfl, rfl⟩
theorem hasN_any (v : Value) (u : Value) (w : World) (hn : NoneA w v) : Calls Try.prog 23 #[v, u] w fun e w' => e = .returned (.bool false) ∧ w = w' := by
  have HM := Lib.hid (madeN_any v w hn)
  clear hn
  go_enter Try.func23, Try.ntmps23
  go_wp2_with fail
  refine HM.out.mono ?_
  rintro e w' ⟨rfl, rfl⟩
  go_wp2
  go_ret
  exact ⟨rfl, rfl⟩

theorem act_shape {w : World} {v : Value} {r : Reach} {b0 : Nat} {H : Type} {enc : TypeId × Value → H} {base : Nat} {spare : Nat → Bool} {held : Bool} {d : DataW H} {p : List MemPlace}
    (hval : Value.okWide Try.prog w r b0 34 v) (h : DataW.Trod enc Try.prog w base spare held 34 v d p) : ∃ x : Act, v = x.agg ∧ ActR w x.cells x := by
  obtain ⟨cs, rfl, hsz⟩ := WideShapes.okWide_struct Try.underlying34 hval
  obtain ⟨fuel, hf⟩ := h
  obtain ⟨x, hx⟩ := act_cells hf
  refine ⟨x, ?_, rfl, hx.2⟩
  have hc := hx.1
  have : cs.toList = x.cells := by simpa [Value.cells] using hc
  rw [← Array.toArray_toList (xs := cs), this]
  rfl

set_option maxRecDepth 100000 in
set_option maxHeartbeats 4000000 in
theorem arenaNil_walk (X : Act) (w : World) (htb : Tb w) (hx : ActR w X.cells X) :
    Calls Try.prog 6 #[X.agg] w fun e w' => e = .returned (.bool true) ∧ Below w.heap.size w w' := by
  have HTb := Lib.hid htb
  have HH : Hid (∀ W, Below w.heap.size w W → Calls Try.prog 8 #[] W fun e w' => e = .returned (.bool true) ∧ Below w.heap.size w w') := fun W hb => by
    refine (holds_any does W (htb.keep hb)).mono ?_
    rintro e w' ⟨rfl, hb'⟩
    exact ⟨rfl, hb.trans (hb'.mono hb.size)⟩
  obtain ⟨k, a, t, n, x, v, u, b⟩ := X
  have hxx := hx
  obtain ⟨-, -, -, -, -, -, -, -, hxr⟩ := hx
  obtain ⟨up, uc, hu, -, -, -, -⟩ := hxr
  simp only at hu
  subst hu
  have hz1 : (w.alloc (.cells #[.int .i64 k, .int .i64 a, .int .i64 t, .int .i64 n, .int .i64 x, .int .u64 v, .slice up b.length uc] 34)).heap.size = w.heap.size + 1 := size_alloc _ _
  have hg1 := heap_alloc_new w (.cells #[.int .i64 k, .int .i64 a, .int .i64 t, .int .i64 n, .int .i64 x, .int .u64 v, .slice up b.length uc] 34)
  have hb1 := below_made w (.cells #[.int .i64 k, .int .i64 a, .int .i64 t, .int .i64 n, .int .i64 x, .int .u64 v, .slice up b.length uc] 34)
  have hb12 := below_made (w.alloc (.cells #[.int .i64 k, .int .i64 a, .int .i64 t, .int .i64 n, .int .i64 x, .int .u64 v, .slice up b.length uc] 34)) (.cells #[.int .i64 k, .int .i64 a, .int .i64 t, .int .i64 n, .int .i64 x, .int .u64 v, .slice up b.length uc] 34)
  have hg2 := heap_alloc_new (w.alloc (.cells #[.int .i64 k, .int .i64 a, .int .i64 t, .int .i64 n, .int .i64 x, .int .u64 v, .slice up b.length uc] 34)) (.cells #[.int .i64 k, .int .i64 a, .int .i64 t, .int .i64 n, .int .i64 x, .int .u64 v, .slice up b.length uc] 34)
  have hz2 := size_alloc (w.alloc (.cells #[.int .i64 k, .int .i64 a, .int .i64 t, .int .i64 n, .int .i64 x, .int .u64 v, .slice up b.length uc] 34)) (.cells #[.int .i64 k, .int .i64 a, .int .i64 t, .int .i64 n, .int .i64 x, .int .u64 v, .slice up b.length uc] 34)
  rw [hz1] at hg2 hz2
  have hb2 := hb1.trans (hb12.mono (by omega))
  have hrow : ActRow ((w.alloc (.cells #[.int .i64 k, .int .i64 a, .int .i64 t, .int .i64 n, .int .i64 x, .int .u64 v, .slice up b.length uc] 34)).alloc (.cells #[.int .i64 k, .int .i64 a, .int .i64 t, .int .i64 n, .int .i64 x, .int .u64 v, .slice up b.length uc] 34)) (.slice (some ⟨w.heap.size + 1, 0, none⟩) 1 1) [⟨k, a, t, n, x, v, .slice up b.length uc, b⟩] := by
    refine ⟨_, 1, fun _ => (⟨k, a, t, n, x, v, .slice up b.length uc, b⟩ : Act).cells, rfl, by simp, by omega, fun i hi => ?_, fun _ => ⟨w.heap.size + 1, 0, rfl, by omega, fun i hi j u hu => ?_⟩⟩
    · obtain rfl : i = 0 := by simpa using hi
      exact ⟨rfl, actR_stays _ _ _ _ _ hxx hb2 (Nat.le_refl _)⟩
    · obtain rfl : i = 0 := by simpa using hi
      rw [Nat.zero_mul, Nat.add_zero, Nat.zero_add, cell_block hg2, ← hu]
      simp [Act.cells]
  have HF := Lib.hid (few_any _ _ _ hrow)
  obtain ⟨b0, hb0⟩ : ∃ b0, b0 = w.heap.size := ⟨_, rfl⟩
  have HC : Hid (∀ W, Below (w.heap.size + 1) (w.alloc (.cells #[.int .i64 k, .int .i64 a, .int .i64 t, .int .i64 n, .int .i64 x, .int .u64 v, .slice up b.length uc] 34)) W → W.cell? ⟨b0, 0, none⟩ = some (.int .i64 k) ∧ W.cell? ⟨b0, 1, none⟩ = some (.int .i64 a) ∧ W.cell? ⟨b0, 2, none⟩ = some (.int .i64 t) ∧ W.cell? ⟨b0, 3, none⟩ = some (.int .i64 n) ∧ W.cell? ⟨b0, 4, none⟩ = some (.int .i64 x) ∧ W.cell? ⟨b0, 5, none⟩ = some (.int .u64 v) ∧ W.cell? ⟨b0, 6, none⟩ = some (.slice up b.length uc)) := fun W hb => by
    have hg' := (hb.block b0 (by omega)).trans (hb0 ▸ hg1)
    exact ⟨(cell_block hg' 0).trans rfl, (cell_block hg' 1).trans rfl, (cell_block hg' 2).trans rfl, (cell_block hg' 3).trans rfl, (cell_block hg' 4).trans rfl, (cell_block hg' 5).trans rfl, (cell_block hg' 6).trans rfl⟩
  rw [hz1] at hb12
  have HB1 := Lib.hid hb1
  have HB2 := Lib.hid hb2
  have HB12 := Lib.hid hb12
  have HZ1 := Lib.hid hz1
  clear hg1 hg2 hz2 hb1 hb2 hb12 hrow htb hxx
  unfold Act.agg
  by_cases hfew : fewA [(⟨k, a, t, n, x, v, .slice up b.length uc, b⟩ : Act)] = false
  · rw [hfew] at HF
    clear hfew
    go_enter Try.func6, Try.ntmps6
    go_wp2_with fail
    refine HF.out.mono ?_
    rintro e w' ⟨rfl, rfl⟩
    go_wp2_with fail
    refine (HH.out _ HB2.out).mono ?_
    rintro e w1 ⟨rfl, hb⟩
    go_wp2
    go_ret
    exact ⟨rfl, hb⟩
  · have hfew' : fewA [(⟨k, a, t, n, x, v, .slice up b.length uc, b⟩ : Act)] = true := by simpa using hfew
    rw [hfew'] at HF
    clear hfew hfew'
    go_enter Try.func6, Try.ntmps6
    go_wp2_with fail
    refine HF.out.mono ?_
    rintro e w' ⟨rfl, rfl⟩
    go_wp2_with fail
    obtain ⟨wb, hwb⟩ : ∃ wb, wb = w.heap.size := ⟨_, rfl⟩
    go_loopw [3, 4] (fun va i wr => ∃ j : Nat, j ≤ 2 ∧ i = .int .i64 j ∧ Hid (NoneA wr va) ∧ Hid (Below w.heap.size w wr) ∧ Hid (Below (w.heap.size + 1) (w.alloc (.cells #[.int .i64 k, .int .i64 a, .int .i64 t, .int .i64 n, .int .i64 x, .int .u64 v, .slice up b.length uc] 34)) wr)) (fun _ i _ => 2 - (intOf i).toNat)
    case atStart => exact ⟨0, by omega, rfl, .inl rfl, HB2.out, HB12.out⟩
    case round =>
      obtain ⟨j, hj, rfl, HNo, HB, HBC⟩ := hrel
      by_cases hlt : j < 2
      · have hlt1 : (j : Int) < 2 := by omega
        obtain ⟨c0, c1, c2, c3, c4, c5, c6⟩ := HC.out _ HBC.out
        rw [hb0] at c0 c1 c2 c3 c4 c5 c6
        go_wp2_with fail
        refine (getN_any _ _ _ _ HNo.out).mono ?_
        rintro e w' ⟨rfl, rfl⟩
        go_wp2_with fail
        refine (readN_any _ _ _ _ HNo.out).mono ?_
        rintro e w' ⟨rfl, rfl⟩
        go_wp2_with fail
        refine (viewN_any _ _ _ _ HNo.out).mono ?_
        rintro e w' ⟨rfl, rfl⟩
        go_wp2_with fail
        refine (putN_any _ _ _ _ _ HNo.out).mono ?_
        rintro e w' ⟨rfl, rfl⟩
        go_wp2_with fail
        refine (writeN_any _ _ _ _ _ _ HNo.out).mono ?_
        rintro e w' ⟨rfl, rfl⟩
        go_wp2_with fail
        refine (zeroN_any _ _ _ _ HNo.out).mono ?_
        rintro e w' ⟨rfl, rfl⟩
        go_wp2_with fail
        refine (moveN_any _ _ _ _ _ HNo.out).mono ?_
        rintro e w' ⟨rfl, rfl⟩
        go_wp2_with fail
        refine (hasN_any _ _ _ HNo.out).mono ?_
        rintro e w' ⟨rfl, rfl⟩
        go_wp2_with fail
        refine (lenN_any _ _ HNo.out).mono ?_
        rintro e w' ⟨rfl, rfl⟩
        go_wp2_with fail
        refine (imageN_any _ _ HNo.out).mono ?_
        rintro e w' ⟨rfl, rfl⟩
        have HE2 : Hid (NoneA (wr.alloc (.cells #[.slice none 0 0] 57)) (.pointer (some ⟨wr.heap.size, 0, none⟩))) := .inr ⟨_, rfl, heap_alloc_new _ _⟩
        have HB6 := Lib.hid (HB.out.alloc (by have := HB.out.size; omega) (.cells #[.slice none 0 0] 57))
        have HC6 := Lib.hid (HBC.out.alloc (by have := HBC.out.size; omega) (.cells #[.slice none 0 0] 57))
        clear c0 c1 c2 c3 c4 c5 c6 HB HBC HNo
        go_wp2
        go_roundw
        case rel => exact ⟨j + 1, by omega, by go_num, HE2, HB6, HC6⟩
        case measure => simp [intOf]; omega
      · obtain rfl : j = 2 := by omega
        go_wp2_with fail
        refine (HH.out _ HB.out).mono ?_
        rintro e w4 ⟨rfl, hb5⟩
        go_wp2
        go_ret
        exact ⟨rfl, hb5⟩
end Go.Proofs.Ytncbfagmdldclaa.Arn
