/- One act, on both. -/
import Derived.Test.YtncbfagmdldclaaArnH
import Derived.Deep.RegionHeld3
namespace Go.Proofs.Ytncbfagmdldclaa.Arn
open Go.RowKit Num
set_option linter.unusedVariables false

/-- The bytes behind an act. -/
def stp (l : List Int) (x : Act) : List Int :=
  if x.k = 2 ∨ x.k = 3 ∨ x.k = 8 then l else if x.k = 4 then (wriA l x.at_ x.b).1 else if x.k = 5 then (zerA l x.at_ x.n).1 else if x.k = 6 then (movA l x.at_ x.to x.n).1
  else if x.k = 7 then (if fitB l.length x.at_ x.n = true ∧ 0 < x.n then l.set (x.at_ + x.n - 1).toNat (x.v % 256) else l) else (putA l x.at_ x.x x.v).1

section
variable {H : Type} (blk : H → Nat → Prop) (Ar : H → World → Value → List Int → Prop)
/-- Both have the same bytes, in memory of their own, from block B on. -/
def Two (B : Nat) (w : World) (va vr : Value) (l : List Int) : Prop :=
  ∃ h g b, Ar h w va l ∧ RefA w vr l g b ∧ ¬ blk h g ∧ ¬ blk h b ∧ (∀ k, blk h k → B ≤ k) ∧ B ≤ g ∧ B ≤ b
def ActGot (B : Nat) (w : World) (va vr : Value) (l : List Int) (e : Ending) (w' : World) : Prop :=
  e = .returned (.bool true) ∧ Two blk Ar B w' va vr l ∧ Below B w w'
end

/-- The act that was handed over, in a block of its own. -/
def Box (w : World) (N : Nat) (x : Act) : Prop := w.heap[N]? = some (.cells #[.int .i64 x.k, .int .i64 x.at_, .int .i64 x.to, .int .i64 x.n, .int .i64 x.x, .int .u64 x.v, x.u] 34 (0, 0))
theorem Box.made (w : World) (x : Act) : Box (w.alloc (.cells #[.int .i64 x.k, .int .i64 x.at_, .int .i64 x.to, .int .i64 x.n, .int .i64 x.x, .int .u64 x.v, x.u] 34)) w.heap.size x := heap_alloc_new _ _
theorem Box.fr {w w' : World} {N M : Nat} {x : Act} {T : Nat → Prop} (h : Box w N x) (hf : Fr M T w w') (h1 : N < M) (h2 : ¬ T N) : Box w' N x := (hf.block N h1 h2).trans h
theorem Box.lt {w : World} {N : Nat} {x : Act} (h : Box w N x) : N < w.heap.size := lt_of_block h
theorem Box.below {w w' : World} {N : Nat} {x : Act} (h : Box w N x) (hb : Below w.heap.size w w') : Box w' N x := (hb.block N h.lt).trans h
theorem Box.cells {w : World} {N : Nat} {k a t n x v : Int} {u : Value} {b : List Int} (h : Box w N ⟨k, a, t, n, x, v, u, b⟩) :
    w.cell? ⟨N, 0, none⟩ = some (.int .i64 k) ∧ w.cell? ⟨N, 1, none⟩ = some (.int .i64 a) ∧ w.cell? ⟨N, 2, none⟩ = some (.int .i64 t) ∧ w.cell? ⟨N, 3, none⟩ = some (.int .i64 n) ∧ w.cell? ⟨N, 4, none⟩ = some (.int .i64 x) ∧ w.cell? ⟨N, 5, none⟩ = some (.int .u64 v) ∧ w.cell? ⟨N, 6, none⟩ = some u :=
  ⟨(cell_block h 0).trans rfl, (cell_block h 1).trans rfl, (cell_block h 2).trans rfl, (cell_block h 3).trans rfl, (cell_block h 4).trans rfl, (cell_block h 5).trans rfl, (cell_block h 6).trans rfl⟩

theorem Two.below {H : Type} {blk : H → Nat → Prop} {Ar : H → World → Value → List Int → Prop} {Tb : World → Prop} (D : Does blk Ar Tb) {B : Nat} {w w' : World} {va vr : Value} {l : List Int} (h : Two blk Ar B w va vr l) (hb : Below w.heap.size w w') : Two blk Ar B w' va vr l := by
  obtain ⟨h, g, b, h1, h2, h3⟩ := h
  exact ⟨h, g, b, D.stay _ _ _ _ _ _ (fun _ => False) h1 (Fr.of_below hb) (fun k hk => ⟨D.lt _ _ _ _ h1 k hk, fun h => h⟩), h2.below hb, h3⟩

set_option maxRecDepth 100000 in
set_option maxHeartbeats 4000000 in
theorem act_get {H : Type} {blk : H → Nat → Prop} {Ar : H → World → Value → List Int → Prop} {Tb : World → Prop} (D : Does blk Ar Tb) (B : Nat) (va vr u : Value) (l b : List Int) (a t n x v : Int) (w : World) (hB : B ≤ w.heap.size) (ht : Two blk Ar B w va vr l) :
    Calls Try.prog 11 #[va, vr, (⟨2, a, t, n, x, v, u, b⟩ : Act).agg] w (ActGot blk Ar B w va vr l) := by
  have hal := below_made w (.cells #[.int .i64 2, .int .i64 a, .int .i64 t, .int .i64 n, .int .i64 x, .int .u64 v, u] 34)
  have HT := Lib.hid (ht.below D hal)
  have HAl := Lib.hid hal
  have HBox := Lib.hid (Box.made w ⟨2, a, t, n, x, v, u, b⟩)
  have HD := Lib.hid D
  have HBB := Lib.hid hB
  obtain ⟨h, g, b', ha, -⟩ := HT.out
  have HG := Lib.hid (D.get h va l a x _ ha)
  obtain ⟨p, q, hpq⟩ : ∃ p q, ldv l a x = (p, q) := ⟨_, _, rfl⟩
  rw [hpq] at HG
  have HPQ := Lib.hid hpq
  clear hal ht ha hpq hB
  unfold Act.agg
  go_enter Try.func11, Try.ntmps11
  go_wp2_with fail
  refine HG.out.mono ?_
  rintro e w1 ⟨rfl, hb1⟩
  have HT1 := Lib.hid (HT.out.below HD.out hb1)
  have HB1 := Lib.hid ((HAl.out.mono HBB.out).trans (hb1.mono (Nat.le_trans HBB.out HAl.out.size)))
  obtain ⟨b0, b1, b2, b3, b4, b5, b6⟩ := (HBox.out.below hb1).cells
  obtain ⟨h1, g1, r1, -, ⟨off, n1, c1, rfl, hr2, hr3, -⟩, -⟩ := HT1.out
  have cg := cell_of_one hr2
  have hlg := lt_of_block hr2
  have hlb : w.heap.size < w1.heap.size := World.block_lt_of_cell? w1 _ b0
  have k1 := Kept.cell b1 hlb
  have k4 := Kept.cell b4 hlb
  have kg := Kept.cell cg hlg
  have HLd : Hid (∀ k : Kept w1.heap.size w1, Calls Try.prog 25 #[.slice (some ⟨r1, off, none⟩) n1 c1, .int .i64 a, .int .i64 x] k.w fun e w' => e = .returned (.tuple #[.int .u64 p, .int .i64 q]) ∧ k.w = w') := fun k => by
    have := refLoad_any _ a x l k.w (hr3.mono k.below (Nat.le_refl _))
    rw [HPQ.out] at this
    exact this
  have hsz := HB1.out.size
  clear hr2 hr3 hb1 HG HBox HT HAl
  go_wp2_with fail
  refine wp_region_kept (by kernel_rfl) (by kernel_rfl) ?_
  repeat (go_big_quiet_step ((go_at_call 25; exact Calls.kept_same (HLd.out _))))
  refine wpQuiet_nil ?_
  intro _ hw'
  obtain ⟨kk, rfl⟩ := hw'
  have HT2 := Lib.hid (HT1.out.below HD.out kk.below)
  have HB2 := Lib.hid (HB1.out.trans (kk.below.mono (by have := HBB.out; omega)))
  have hpp : (p == p) = true := by simp
  have hqq : (q == q) = true := by simp
  go_wp2
  go_ret
  exact ⟨rfl, HT2.out, HB2.out⟩
end Go.Proofs.Ytncbfagmdldclaa.Arn
