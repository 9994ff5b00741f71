/- The walk of WatchNil: a watch that is none. -/
import Derived.Test.YtnpnigeghhcncaaWatV
import Derived.Test.YtnpnigeghhcncaaKit4
import Derived.Deep.Quiet
namespace Go.Proofs.Ytnpnigeghhcncaa.Wat
open Go.RowKit Num Arn
set_option linter.unusedVariables false

/-- A watch that is nil, or that nobody made. -/
def NoneW (w : World) (v : Value) : Prop := v = .pointer none ∨ ∃ g, v = .pointer (some ⟨g, 0, none⟩) ∧ w.heap[g]? = some (.cells #[.slice none 0 0, .int .i64 0, .int .i64 0] 51 (0, 0))
theorem NoneW.below {w w' : World} {v : Value} (h : NoneW w v) (hb : Below w.heap.size w w') : NoneW w' v := by
  rcases h with rfl | ⟨g, rfl, hg⟩
  · exact .inl rfl
  · exact .inr ⟨g, rfl, (hb.block g (lt_of_block hg)).trans hg⟩
theorem madeN_any (v : Value) (w : World) (hn : NoneW w v) : Calls Try.prog 25 #[v] w fun e w' => e = .returned (.bool false) ∧ w = w' := by
  rcases hn with rfl | ⟨g, rfl, hg⟩
  · go_enter Try.func25, Try.ntmps25
    go_wp2
    go_ret
    exact ⟨rfl, rfl⟩
  · have c1 : w.cell? ⟨g, 0, none⟩ = some (.slice none 0 0) := (cell_block hg 0).trans rfl
    clear hg
    go_enter Try.func25, Try.ntmps25
    go_wp2
    go_ret
    exact ⟨rfl, rfl⟩
theorem markN_any (v : Value) (a n k : Int) (w : World) (hn : NoneW w v) : Calls Try.prog 17 #[v, .int .i64 a, .int .i64 n, .int .i64 k] w fun e w' => e = .returned (.int .i64 1) ∧ w = w' := by
  have HM := Lib.hid (madeN_any v w hn)
  clear hn
  go_enter Try.func17, Try.ntmps17
  go_wp2_with fail
  refine HM.out.mono ?_
  rintro e w' ⟨rfl, rfl⟩
  go_wp2
  go_ret
  exact ⟨rfl, rfl⟩
theorem lookN_any (v : Value) (a n k : Int) (w : World) (hn : NoneW w v) : Calls Try.prog 11 #[v, .int .i64 a, .int .i64 n, .int .i64 k] w fun e w' => e = .returned (.bool false) ∧ w = w' := by
  have HM := Lib.hid (madeN_any v w hn)
  clear hn
  go_enter Try.func11, Try.ntmps11
  go_wp2_with fail
  refine HM.out.mono ?_
  rintro e w' ⟨rfl, rfl⟩
  go_wp2
  go_ret
  exact ⟨rfl, rfl⟩
theorem looksN_any (v : Value) (w : World) (hn : NoneW w v) : Calls Try.prog 19 #[v] w fun e w' => e = .returned (.int .i64 0) ∧ w = w' := by
  have HM := Lib.hid (madeN_any v w hn)
  clear hn
  go_enter Try.func19, Try.ntmps19
  go_wp2_with fail
  refine HM.out.mono ?_
  rintro e w' ⟨rfl, rfl⟩
  go_wp2
  go_ret
  exact ⟨rfl, rfl⟩
theorem faultsN_any (v : Value) (w : World) (hn : NoneW w v) : Calls Try.prog 20 #[v] w fun e w' => e = .returned (.int .i64 0) ∧ w = w' := by
  have HM := Lib.hid (madeN_any v w hn)
  clear hn
  go_enter Try.func20, Try.ntmps20
  go_wp2_with fail
  refine HM.out.mono ?_
  rintro e w' ⟨rfl, rfl⟩
  go_wp2
  go_ret
  exact ⟨rfl, rfl⟩
theorem runsN_any (v : Value) (w : World) (hn : NoneW w v) : Calls Try.prog 22 #[v] w fun e w' => e = .returned (.slice none 0 0) ∧ w = w' := by
  have HM := Lib.hid (madeN_any v w hn)
  clear hn
  go_enter Try.func22, Try.ntmps22
  go_wp2_with fail
  refine HM.out.mono ?_
  rintro e w' ⟨rfl, rfl⟩
  go_wp2
  go_ret
  exact ⟨rfl, rfl⟩
theorem sumN_any (v : Value) (k : Int) (w : World) (hn : NoneW w v) : Calls Try.prog 15 #[v, .int .i64 k] w fun e w' => e = .returned (.int .i64 0) ∧ Below w.heap.size w w' := by
  have hal := below_made w (.cells #[.int .i64 k] 3)
  have HM := Lib.hid (madeN_any v _ (hn.below hal))
  clear hn
  go_enter Try.func15, Try.ntmps15
  go_wp2_with fail
  refine HM.out.mono ?_
  rintro e w' ⟨rfl, rfl⟩
  go_wp2
  go_ret
  exact ⟨rfl, hal⟩
theorem kindN_any (v : Value) (a n : Int) (w : World) (hn : NoneW w v) : Calls Try.prog 13 #[v, .int .i64 a, .int .i64 n] w fun e w' => e = .returned (.int .i64 0) ∧ Below w.heap.size w w' := by
  have hal := (below_made w (.cells #[.int .i64 n] 3)).trans ((below_made (w.alloc (.cells #[.int .i64 n] 3)) (.cells #[.int .i64 0] 3)).mono (by simp))
  have HM := Lib.hid (madeN_any v _ (hn.below hal))
  have bS := Boxed.new (w.alloc (.cells #[.int .i64 n] 3)) 3 (.int .i64 0)
  rw [World.size_alloc] at bS
  have cS := bS.cell
  have fS := bS.frozen
  have HS := Lib.hid bS.cell
  have HB := Lib.hid hal
  clear hn hal bS
  go_enter Try.func13, Try.ntmps13
  go_wp2_with fail
  refine HM.out.mono ?_
  rintro e w' ⟨rfl, rfl⟩
  go_wp2
  refine bodyPost_ret (v := .int .i64 0) (by simp [results, Try.results13, go_sem, HS.out]) rfl ⟨rfl, HB.out⟩

set_option maxRecDepth 100000 in
set_option maxHeartbeats 8000000 in
theorem watchNil_walk (X : Act) (w : World) (hx : ActR w X.cells X) :
    Calls Try.prog 7 #[X.agg] w fun e w' => e = .returned (.bool true) ∧ Below w.heap.size w w' := by
  obtain ⟨k, a, n, o⟩ := X
  have hz1 : (w.alloc (.cells #[.int .i64 k, .int .i64 a, .int .i64 n, .int .i64 o] 29)).heap.size = w.heap.size + 1 := size_alloc _ _
  have hg1 := heap_alloc_new w (.cells #[.int .i64 k, .int .i64 a, .int .i64 n, .int .i64 o] 29)
  have hb1 := below_made w (.cells #[.int .i64 k, .int .i64 a, .int .i64 n, .int .i64 o] 29)
  have HG := Lib.hid hg1
  have HB1 := Lib.hid hb1
  have HZ1 := Lib.hid hz1
  clear hg1 hb1 hx
  unfold Act.agg
  go_enter Try.func7, Try.ntmps7
  go_wp2_with fail
  go_loopw [3, 4] (fun va i wr => ∃ j : Nat, j ≤ 2 ∧ i = .int .i64 j ∧ Hid (NoneW wr va) ∧ Hid (Below w.heap.size w wr) ∧ Hid (wr.heap[w.heap.size]? = some (.cells #[.int .i64 k, .int .i64 a, .int .i64 n, .int .i64 o] 29 (0, 0)))) (fun _ i _ => 2 - (intOf i).toNat)
  case atStart => exact ⟨0, by omega, rfl, .inl rfl, HB1.out, HG.out⟩
  case round =>
    obtain ⟨j, hj, rfl, HNo, HB, HC⟩ := hrel
    by_cases hlt : j < 2
    · have hlt1 : (j : Int) < 2 := by omega
      have hlw := lt_of_block HC.out
      have k1 : ∀ kk : Kept wr.heap.size wr, kk.w.cell? ⟨w.heap.size, 1, none⟩ = some (.int .i64 a) := Kept.cell ((cell_block HC.out 1).trans rfl) hlw
      have k2 : ∀ kk : Kept wr.heap.size wr, kk.w.cell? ⟨w.heap.size, 2, none⟩ = some (.int .i64 n) := Kept.cell ((cell_block HC.out 2).trans rfl) hlw
      have k3 : ∀ kk : Kept wr.heap.size wr, kk.w.cell? ⟨w.heap.size, 3, none⟩ = some (.int .i64 o) := Kept.cell ((cell_block HC.out 3).trans rfl) hlw
      have HN := Lib.hid (fun kk : Kept wr.heap.size wr => HNo.out.below kk.below)
      go_wp2_with fail
      refine wp_region_kept (by kernel_rfl) (by kernel_rfl) ?_
      repeat (go_big_quiet_step (first | (go_at_call 17; exact Calls.kept_same (markN_any _ _ _ _ _ (HN.out _))) | (go_at_call 13; exact Calls.kept_of (kindN_any _ _ _ _ (HN.out _)) (Nat.le_refl _)) | (go_at_call 11; exact Calls.kept_same (lookN_any _ _ _ _ _ (HN.out _))) | (go_at_call 19; exact Calls.kept_same (looksN_any _ _ (HN.out _))) | (go_at_call 20; exact Calls.kept_same (faultsN_any _ _ (HN.out _))) | (go_at_call 15; exact Calls.kept_of (sumN_any _ _ _ (HN.out _)) (Nat.le_refl _)) | (go_at_call 22; exact Calls.kept_same (runsN_any _ _ (HN.out _)))))
      refine wpQuiet_nil ?_
      intro _ hw'
      obtain ⟨kk, rfl⟩ := hw'
      have HB2 := Lib.hid (HB.out.trans (kk.below.mono HB.out.size))
      have HC2 := Lib.hid ((kk.below.block w.heap.size hlw).trans HC.out)
      generalize kk.w = W at HB2 HC2 ⊢
      have HB3 := Lib.hid (HB2.out.alloc HB2.out.size (.cells #[.slice none 0 0, .int .i64 0, .int .i64 0] 51))
      have HC3 := Lib.hid ((Below.heap_alloc W (.cells #[.slice none 0 0, .int .i64 0, .int .i64 0] 51) _ (lt_of_block HC2.out)).trans HC2.out)
      have HN3 : Hid (NoneW (W.alloc (.cells #[.slice none 0 0, .int .i64 0, .int .i64 0] 51)) (.pointer (some ⟨W.heap.size, 0, none⟩))) := .inr ⟨_, rfl, heap_alloc_new _ _⟩
      clear HN k1 k2 k3
      go_wp2
      go_roundw
      case rel => exact ⟨j + 1, by omega, by go_num, HN3.out, HB3.out, HC3.out⟩
      case measure => simp [intOf]; omega
    · obtain rfl : j = 2 := by omega
      go_wp2_with fail
      refine (watches_any _).mono ?_
      rintro e w2 ⟨rfl, hb2⟩
      go_wp2
      go_ret
      exact ⟨rfl, HB.out.trans (hb2.mono HB.out.size)⟩
end Go.Proofs.Ytnpnigeghhcncaa.Wat
