/- The landed head: what a header has in each field; Encode. -/
import Derived.Test.YtkknegnipodcnaaDoorHeaV
namespace Go.Proofs.YtkknegnipodcnaaDoor.Hea
open Go.RowKit Go.Shelf Num
set_option linter.unusedVariables false
attribute [local go_sem] Oper.semAt_some

/-- A head's bytes when these fields have been written. -/
def EL (b : Blk) (pre : List Nat) : List Int := pre.foldl (fun (l : List Int) (f : Nat) => stl l (whF b.tag f).1.toNat (whF b.tag f).2.toNat (numF b f)) (List.replicate (szF b.tag).toNat 0)
theorem EL_snoc (b : Blk) (pre : List Nat) (f : Nat) : EL b (pre ++ [f]) = stl (EL b pre) (whF b.tag f).1.toNat (whF b.tag f).2.toNat (numF b f) := by
  unfold EL
  rw [List.foldl_append]
  rfl
theorem fl0 : fl 0 12 = [0, 1, 2, 3, 4] := by kernel_rfl
theorem fl1 : fl 1 12 = [0, 1, 2, 3, 4, 5, 6, 7, 8, 9, 10] := by kernel_rfl
theorem fl2 : fl 2 12 = [0, 1, 2, 3, 4, 11, 10] := by kernel_rfl
theorem EL_end {b : Blk} (hb : b.Ok) (hr : RightP b) : EL b (fl b.tag 12) = encL b := by
  obtain ⟨k1, k2, k3, k4, k5, k6, k7, k8, k9, k10, k11⟩ := hb
  simp only [i64, u32, u64, u16] at *
  obtain ⟨tag, cls, used, lab, name, next, prev, refs, exp, typ, size, hash⟩ := b
  simp only [] at *
  rcases hr with ⟨h0, h1, h2, h3, h4, h5, h6, h7, h8, h9, h10⟩ | ⟨h0, h1, h2, h3, h4, h5, h6⟩ | ⟨h0, h1, h2, h3, h4, h5, h6, h7, h8, h9, h10⟩
  · simp only [] at h0 h1 h2 h3 h4 h5 h6 h7 h8 h9 h10
    subst h0 h1 h2 h3
    rw [fl0]
    simp [EL, szF, whF, stl, parts, encL, p1, p4, numF, u64_id, List.replicate]
    omega
  · simp only [] at h0 h1 h2 h3 h4 h5 h6
    subst h0 h3
    have e1 : IntKind.u64.wrap cls = cls := u64_id (by omega) (by omega)
    have e2 : IntKind.u64.wrap size = size := u64_id (by omega) (by omega)
    rw [fl1]
    cases used <;> simp [EL, szF, whF, stl, parts, encL, p1, p4, p8, p2, numF, u64_id, List.replicate, e1, e2] <;> omega
  · simp only [] at h0 h1 h2 h3 h4 h5 h6 h7 h8 h9 h10
    subst h0 h3
    have e1 : IntKind.u64.wrap cls = cls := u64_id (by omega) (by omega)
    have e2 : IntKind.u64.wrap lab = lab := u64_id (by omega) (by omega)
    rw [fl2]
    simp [EL, szF, whF, stl, parts, encL, p1, p4, p8, p2, numF, u64_id, List.replicate, e1, e2]
    omega
theorem EL_length {b : Blk} (ht : 0 ≤ b.tag ∧ b.tag ≤ 2) : ∀ pre : List Nat, (∀ f ∈ pre, f < 12) → (EL b pre).length = (szF b.tag).toNat := by
  intro pre
  generalize hn : pre.length = n
  induction n generalizing pre with
  | zero =>
    intro _
    obtain rfl : pre = [] := List.length_eq_zero_iff.1 hn
    simp [EL]
  | succ n ih =>
    intro h
    obtain ⟨p, f, rfl⟩ : ∃ p f, pre = p ++ [f] := ⟨pre.dropLast, pre.getLast (by rintro rfl; simp at hn), (List.dropLast_concat_getLast _).symm⟩
    have h1 := ih p (by simpa using hn) (fun g hg => h g (by simp [hg]))
    have h2 := wh_fit ht f (h f (by simp))
    rw [EL_snoc, stl_length _ _ _ _ (by rw [h1]; omega) (by omega), h1]
/-- A field's number fits, and its place too. -/
theorem field_ok {b : Blk} (hb : b.Ok) (hr : RightP b) {f : Nat} (hf : hasF b.tag f = true) (h12 : f < 12) : ste (List.replicate (szF b.tag).toNat 0) (whF b.tag f).1 (whF b.tag f).2 (numF b f) = 0 := by
  obtain ⟨k1, k2, k3, k4, k5, k6, k7, k8, k9, k10, k11⟩ := hb
  simp only [i64, u32, u64, u16] at *
  obtain ⟨tag, cls, used, lab, name, next, prev, refs, exp, typ, size, hash⟩ := b
  simp only [] at *
  have hk : f = 0 ∨ f = 1 ∨ f = 2 ∨ f = 3 ∨ f = 4 ∨ f = 5 ∨ f = 6 ∨ f = 7 ∨ f = 8 ∨ f = 9 ∨ f = 10 ∨ f = 11 := by omega
  rcases hr with ⟨h0, h1, h2, h3, h4, h5, h6, h7, h8, h9, h10⟩ | ⟨h0, h1, h2, h3, h4, h5, h6⟩ | ⟨h0, h1, h2, h3, h4, h5, h6, h7, h8, h9, h10⟩
  · simp only [] at h0 h1 h2 h3 h4 h5 h6 h7 h8 h9 h10
    subst h0 h1 h2 h3
    rcases hk with rfl | rfl | rfl | rfl | rfl | rfl | rfl | rfl | rfl | rfl | rfl | rfl <;> simp [hasF, whF, szF, ste, fits, isW, plc, numF, u64_id] at hf ⊢ <;> omega
  · simp only [] at h0 h1 h2 h3 h4 h5 h6
    subst h0 h3
    have e1 : IntKind.u64.wrap cls = cls := u64_id (by omega) (by omega)
    have e2 : IntKind.u64.wrap size = size := u64_id (by omega) (by omega)
    rcases hk with rfl | rfl | rfl | rfl | rfl | rfl | rfl | rfl | rfl | rfl | rfl | rfl <;> cases used <;> simp [hasF, whF, szF, ste, fits, isW, plc, numF, u64_id, e1, e2] at hf ⊢ <;> omega
  · simp only [] at h0 h1 h2 h3 h4 h5 h6 h7 h8 h9 h10
    subst h0 h3
    have e1 : IntKind.u64.wrap cls = cls := u64_id (by omega) (by omega)
    have e2 : IntKind.u64.wrap lab = lab := u64_id (by omega) (by omega)
    rcases hk with rfl | rfl | rfl | rfl | rfl | rfl | rfl | rfl | rfl | rfl | rfl | rfl <;> simp [hasF, whF, szF, ste, fits, isW, plc, numF, u64_id, e1, e2] at hf ⊢ <;> omega

def numsA (b : Blk) : Array Value := #[.int .u64 (numF b 0), .int .u64 (numF b 1), .int .u64 (numF b 2), .int .u64 (numF b 3), .int .u64 (numF b 4), .int .u64 (numF b 5), .int .u64 (numF b 6), .int .u64 (numF b 7), .int .u64 (numF b 8), .int .u64 (numF b 9), .int .u64 (numF b 10), .int .u64 (numF b 11)]
theorem numsA_at (b : Blk) {f : Nat} (h : f < 12) : (numsA b)[f]? = some (.int .u64 (numF b f)) := by
  rcases (show f = 0 ∨ f = 1 ∨ f = 2 ∨ f = 3 ∨ f = 4 ∨ f = 5 ∨ f = 6 ∨ f = 7 ∨ f = 8 ∨ f = 9 ∨ f = 10 ∨ f = 11 by omega) with rfl | rfl | rfl | rfl | rfl | rfl | rfl | rfl | rfl | rfl | rfl | rfl <;> rfl

set_option maxRecDepth 100000 in
set_option maxHeartbeats 4000000 in
theorem numbers_any (b : Blk) (hb : b.Ok) (w : World) : Calls Tryd.prog 26 #[b.agg] w fun e w' => e = .returned (.agg (numsA b)) ∧ Below w.heap.size w w' := by
  obtain ⟨c0, c1, c2, c3, c4, c5, c6, c7, c8, c9, c10, c11, hlt, hbel⟩ := (BX.first w b).below (below_made (BW w b) (.cells #[.int .u64 0, .int .u64 0, .int .u64 0, .int .u64 0, .int .u64 0, .int .u64 0, .int .u64 0, .int .u64 0, .int .u64 0, .int .u64 0, .int .u64 0, .int .u64 0] 59))
  have hz : (BW w b).heap.size = w.heap.size + 1 := by unfold BW; simp
  have hblk := heap_alloc_new (BW w b) (.cells (numsA b) 59)
  have hbb := (BX.first w b).bel.trans ((below_made (BW w b) (.cells (numsA b) 59)).mono (BX.first w b).bel.size)
  rw [hz] at hblk
  have HBel := Lib.hid hbb
  have q0 := (cell_block hblk 0).trans (numsA_at b (f := 0) (by omega))
  have q1 := (cell_block hblk 1).trans (numsA_at b (f := 1) (by omega))
  have q2 := (cell_block hblk 2).trans (numsA_at b (f := 2) (by omega))
  have q3 := (cell_block hblk 3).trans (numsA_at b (f := 3) (by omega))
  have q4 := (cell_block hblk 4).trans (numsA_at b (f := 4) (by omega))
  have q5 := (cell_block hblk 5).trans (numsA_at b (f := 5) (by omega))
  have q6 := (cell_block hblk 6).trans (numsA_at b (f := 6) (by omega))
  have q7 := (cell_block hblk 7).trans (numsA_at b (f := 7) (by omega))
  have q8 := (cell_block hblk 8).trans (numsA_at b (f := 8) (by omega))
  have q9 := (cell_block hblk 9).trans (numsA_at b (f := 9) (by omega))
  have q10 := (cell_block hblk 10).trans (numsA_at b (f := 10) (by omega))
  have q11 := (cell_block hblk 11).trans (numsA_at b (f := 11) (by omega))
  unfold BW at c0 c1 c2 c3 c4 c5 c6 c7 c8 c9 c10 c11 q0 q1 q2 q3 q4 q5 q6 q7 q8 q9 q10 q11 HBel
  obtain ⟨h1, h2, h3, h4, h5, h6, h7, h8, h9, h10, h11⟩ := hb
  simp only [i64, u32, u64, u16] at h4 h5 h6 h7 h8 h9 h11
  have e4 : IntKind.u64.wrap b.name = b.name := u64_id (by omega) (by omega)
  have e5 : IntKind.u64.wrap b.next = b.next := u64_id (by omega) (by omega)
  have e6 : IntKind.u64.wrap b.prev = b.prev := u64_id (by omega) (by omega)
  have e7 : IntKind.u64.wrap b.refs = b.refs := u64_id (by omega) (by omega)
  have e8 : IntKind.u64.wrap b.typ = b.typ := u64_id (by omega) (by omega)
  have e9 : IntKind.u64.wrap b.hash = b.hash := u64_id (by omega) (by omega)
  obtain ⟨tag, cls, used, lab, name, next, prev, refs, exp, typ, size, hash⟩ := b
  unfold numsA numF at q0 q1 q2 q3 q4 q5 q6 q7 q8 q9 q10 q11 HBel
  simp only [] at c0 c1 c2 c3 c4 c5 c6 c7 c8 c9 c10 c11 e4 e5 e6 e7 e8 e9 q0 q1 q2 q3 q4 q5 q6 q7 q8 q9 q10 q11 HBel
  unfold Blk.agg numsA numF
  simp only []
  clear h1 h2 h3 h4 h5 h6 h7 h8 h9 h10 h11 hlt hbel hz hblk hbb
  cases used
  all_goals
    simp only [if_true, if_false, Bool.false_eq_true] at q2 HBel ⊢
    go_enter Tryd.func26, Tryd.ntmps26
    go_wp2
    refine bodyPost_ret (v := .agg #[_, _, _, _, _, _, _, _, _, _, _, _]) (by simp [results, Tryd.results26, go_sem, q0, q1, q2, q3, q4, q5, q6, q7, q8, q9, q10, q11]) rfl ⟨rfl, HBel.out⟩
end Go.Proofs.YtkknegnipodcnaaDoor.Hea
