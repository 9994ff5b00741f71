/- Acts that call both in one region: Write, Zero, Move, Put, Has (made by tools/gen_XArnQ.py). -/
import Derived.Test.YtncbfagmdldclaaArnP
namespace Go.Proofs.Ytncbfagmdldclaa.Arn
open Go.RowKit Num
set_option linter.unusedVariables false

/-- The one has the bytes l1, the other l2; the act lies at block N. -/
def Mid {H : Type} (blk : H → Nat → Prop) (Ar : H → World → Value → List Int → Prop) (B : Nat) (w : World) (va vr : Value) (l1 l2 : List Int) (N : Nat) (x : Act) : Prop :=
  ∃ h g b, (Ar h w va l1 ∧ RefA w vr l2 g b ∧ Box w N x) ∧ ¬ blk h g ∧ ¬ blk h b ∧ ¬ blk h N ∧ N ≠ g ∧ N ≠ b ∧ (∀ k, blk h k → B ≤ k) ∧ B ≤ g ∧ B ≤ b ∧ B ≤ N
theorem Mid.below {H : Type} {blk : H → Nat → Prop} {Ar : H → World → Value → List Int → Prop} {Tb : World → Prop} (D : Does blk Ar Tb) {B N : Nat} {w w' : World} {va vr : Value} {l1 l2 : List Int} {x : Act} (h : Mid blk Ar B w va vr l1 l2 N x) (hb : Below w.heap.size w w') : Mid blk Ar B w' va vr l1 l2 N x := by
  obtain ⟨h, g, b, ⟨h1, h2, h3⟩, h4⟩ := h
  exact ⟨h, g, b, ⟨D.stay _ _ _ _ _ _ (fun _ => False) h1 (Fr.of_below hb) (fun k hk => ⟨D.lt _ _ _ _ h1 k hk, fun h => h⟩), h2.below hb, h3.below hb⟩, h4⟩
theorem Mid.drew {H : Type} {blk : H → Nat → Prop} {Ar : H → World → Value → List Int → Prop} {Tb : World → Prop} (D : Does blk Ar Tb) {B N : Nat} {w : World} {va vr : Value} {l1 l2 : List Int} {x : Act} (h : Mid blk Ar B w va vr l1 l2 N x) : Mid blk Ar B w.drew va vr l1 l2 N x := h.below D (Below.refl _ w).drew
theorem Mid.box {H : Type} {blk : H → Nat → Prop} {Ar : H → World → Value → List Int → Prop} {B N : Nat} {w : World} {va vr : Value} {l1 l2 : List Int} {x : Act} (h : Mid blk Ar B w va vr l1 l2 N x) : Box w N x := by
  obtain ⟨h, g, b, ⟨h1, h2, h3⟩, h4⟩ := h
  exact h3
theorem Mid.two {H : Type} {blk : H → Nat → Prop} {Ar : H → World → Value → List Int → Prop} {B N : Nat} {w : World} {va vr : Value} {l : List Int} {x : Act} (h : Mid blk Ar B w va vr l l N x) : Two blk Ar B w va vr l := by
  obtain ⟨h, g, b, ⟨h1, h2, h3⟩, h4, h5, h6, h7, h8, h9, h10, h11, h12⟩ := h
  exact ⟨h, g, b, h1, h2, h4, h5, h9, h10, h11⟩
theorem Two.mid {H : Type} {blk : H → Nat → Prop} {Ar : H → World → Value → List Int → Prop} {Tb : World → Prop} (D : Does blk Ar Tb) {B : Nat} {w w' : World} {va vr : Value} {l : List Int} {x : Act} (h : Two blk Ar B w va vr l) (hB : B ≤ w.heap.size) (hb : Below w.heap.size w w') (hx : Box w' w.heap.size x) : Mid blk Ar B w' va vr l l w.heap.size x := by
  obtain ⟨h, g, b, h1, h2, h4, h5, h9, h10, h11⟩ := h
  refine ⟨h, g, b, ⟨D.stay _ _ _ _ _ _ (fun _ => False) h1 (Fr.of_below hb) (fun k hk => ⟨D.lt _ _ _ _ h1 k hk, fun h => h⟩), h2.below hb, hx⟩, h4, h5, fun hh => ?_, ?_, ?_, h9, h10, h11, hB⟩
  · have := D.lt _ _ _ _ h1 _ hh; omega
  · have := h2.lt.1; omega
  · have := h2.lt.2; omega

/-- The one's writing call, in such a world. -/
theorem mid_one {H : Type} {blk : H → Nat → Prop} {Ar : H → World → Value → List Int → Prop} {Tb : World → Prop} (D : Does blk Ar Tb) {B N : Nat} {wB w : World} {va vr : Value} {l1 l2 : List Int} {x : Act} {f : FuncId} {args : Array Value} {r : List Int × Int}
    (h : Mid blk Ar B w va vr l1 l2 N x) (hb : Below B wB w) (hB : B ≤ w.heap.size) (hc : ∀ h, Ar h w va l1 → Calls Try.prog f args w (WroteS blk Ar w va h r)) :
    Calls Try.prog f args w fun e w' => e = .returned (.int .i64 r.2) ∧ Mid blk Ar B w' va vr r.1 l2 N x ∧ Below B wB w' := by
  obtain ⟨h, g, b, ⟨h1, h2, h3⟩, h4, h5, h6, h7, h8, h9, h10, h11, h12⟩ := h
  refine (hc h h1).mono ?_
  rintro e w' ⟨rfl, h', ha', hk', hf⟩
  have hne : ∀ k, k < w.heap.size → ¬ blk h k → ¬ blk h' k := fun k hk hn hh => by
    rcases hk' k hh with h | h
    · exact hn h
    · omega
  refine ⟨rfl, ⟨h', g, b, ⟨ha', h2.fr hf ⟨h2.lt.1, h4⟩ ⟨h2.lt.2, h5⟩, h3.fr hf h3.lt h6⟩, hne _ h2.lt.1 h4, hne _ h2.lt.2 h5, hne _ h3.lt h6, h7, h8, fun k hh => ?_, h10, h11, h12⟩, hb.trans (hf.toBelow hB (fun k hk hh => by have := h9 k hh; omega))⟩
  rcases hk' k hh with h | h
  · exact h9 k h
  · omega
/-- The other's. -/
theorem mid_two {H : Type} {blk : H → Nat → Prop} {Ar : H → World → Value → List Int → Prop} {Tb : World → Prop} (D : Does blk Ar Tb) {B N : Nat} {wB w : World} {va vr : Value} {l1 l2 : List Int} {x : Act} {f : FuncId} {args : Array Value} {r : List Int × Int}
    (h : Mid blk Ar B w va vr l1 l2 N x) (hb : Below B wB w) (hB : B ≤ w.heap.size) (hc : ∀ g b, RefA w vr l2 g b → Calls Try.prog f args w (WroteA w vr g b r)) :
    Calls Try.prog f args w fun e w' => e = .returned (.int .i64 r.2) ∧ Mid blk Ar B w' va vr l1 r.1 N x ∧ Below B wB w' := by
  obtain ⟨h, g, b, ⟨h1, h2, h3⟩, h4, h5, h6, h7, h8, h9, h10, h11, h12⟩ := h
  refine (hc g b h2).mono ?_
  rintro e w' ⟨rfl, b', hr', hk', hf⟩
  have hlt := D.lt _ _ _ _ h1
  refine ⟨rfl, ⟨h, g, b', ⟨D.stay _ _ _ _ _ _ _ h1 hf (fun k hk => ⟨hlt k hk, fun e => h4 (e ▸ hk)⟩), hr', h3.fr hf h3.lt (fun e => h7 e)⟩, h4, ?_, h6, h7, ?_, h9, h10, ?_, h12⟩, hb.trans (hf.toBelow hB (fun k hk hh => by omega))⟩
  · rcases hk' with rfl | hk'
    · exact h5
    · intro hh; have := hlt _ hh; omega
  · rcases hk' with rfl | hk'
    · exact h8
    · have := h3.lt; omega
  · rcases hk' with rfl | hk'
    · exact h11
    · omega
/-- A call that only tells. -/
theorem mid_tells {H : Type} {blk : H → Nat → Prop} {Ar : H → World → Value → List Int → Prop} {Tb : World → Prop} (D : Does blk Ar Tb) {B N : Nat} {wB w : World} {va vr : Value} {l1 l2 : List Int} {x : Act} {f : FuncId} {args : Array Value} {v : Value}
    (h : Mid blk Ar B w va vr l1 l2 N x) (hb : Below B wB w) (hB : B ≤ w.heap.size) (hc : Calls Try.prog f args w fun e w' => e = .returned v ∧ Below w.heap.size w w') :
    Calls Try.prog f args w fun e w' => e = .returned v ∧ Mid blk Ar B w' va vr l1 l2 N x ∧ Below B wB w' := by
  refine hc.mono ?_
  rintro e w' ⟨rfl, hb'⟩
  exact ⟨rfl, h.below D hb', hb.trans (hb'.mono hB)⟩
theorem below_le {B : Nat} {wB w : World} (h : Below B wB w) (hB : B = wB.heap.size) : B ≤ w.heap.size := by have := h.size; omega

set_option maxRecDepth 100000 in
set_option maxHeartbeats 8000000 in
theorem act_write {H : Type} {blk : H → Nat → Prop} {Ar : H → World → Value → List Int → Prop} {Tb : World → Prop} (D : Does blk Ar Tb) (va vr u : Value) (l b : List Int) (a t n x v : Int) (wB w : World) (hb : Below wB.heap.size wB w) (hx : Row .u8 wB u b) (hbl : b.length ≤ 1000000) (h64 : is64 a) (ht : Two blk Ar wB.heap.size w va vr l) :
    Calls Try.prog 11 #[va, vr, (⟨4, a, t, n, x, v, u, b⟩ : Act).agg] w fun e w' => e = .returned (.bool true) ∧ Two blk Ar wB.heap.size w' va vr (wriA l a b).1 ∧ Below wB.heap.size wB w' := by
  obtain ⟨l1, c, hr⟩ : ∃ l1 c, wriA l a b = (l1, c) := ⟨_, _, rfl⟩
  have C1 : Hid (∀ W, Mid blk Ar wB.heap.size W va vr l l w.heap.size ⟨4, a, t, n, x, v, u, b⟩ → Below wB.heap.size wB W → Calls Try.prog 20 #[va, .int .i64 a, u] W fun e w' => e = .returned (.int .i64 c) ∧ Mid blk Ar wB.heap.size w' va vr l1 l w.heap.size ⟨4, a, t, n, x, v, u, b⟩ ∧ Below wB.heap.size wB w') := fun W hm hb => by
    have := mid_one D (r := (l1, c)) hm hb (below_le hb rfl) (fun h h1 => by rw [← hr]; exact D.write h va l a u b W h1 h64 (hx.mono hb (Nat.le_refl _)) hbl)
    exact this
  have C2 : Hid (∀ W, Mid blk Ar wB.heap.size W va vr l1 l w.heap.size ⟨4, a, t, n, x, v, u, b⟩ → Below wB.heap.size wB W → Calls Try.prog 27 #[vr, .int .i64 a, u] W fun e w' => e = .returned (.int .i64 c) ∧ Mid blk Ar wB.heap.size w' va vr l1 l1 w.heap.size ⟨4, a, t, n, x, v, u, b⟩ ∧ Below wB.heap.size wB w') := fun W hm hb => by
    have := mid_two D (r := (l1, c)) hm hb (below_le hb rfl) (fun g b' h2 => by rw [← hr]; exact refWrite_any vr u l b g b' a W h2 (hx.mono hb (Nat.le_refl _)) hbl)
    exact this
  have HD := Lib.hid D
  have hal := below_made w (.cells #[.int .i64 4, .int .i64 a, .int .i64 t, .int .i64 n, .int .i64 x, .int .u64 v, u] 34)
  have hm := ht.mid D (below_le hb rfl) hal (Box.made w ⟨4, a, t, n, x, v, u, b⟩)
  replace hb := hb.trans (hal.mono (below_le hb rfl))
  obtain ⟨c0, c1, c2, c3, c4, c5, c6⟩ := hm.box.cells
  have hcc : (c == c) = true := by simp
  obtain ⟨a1, n1, hu⟩ : ∃ a1 n1, u = .slice a1 b.length n1 := by
    obtain ⟨a1, n1, hu, -⟩ := hx
    exact ⟨a1, n1, hu⟩
  have HU := Lib.hid hu
  clear ht hal hx hbl hu
  unfold Act.agg
  go_enter Try.func11, Try.ntmps11
  go_wp2_with fail
  go_region_held3 (fun w' => w'.cell? ⟨w.heap.size, 0, none⟩ = some (.int .i64 4) ∧ w'.cell? ⟨w.heap.size, 1, none⟩ = some (.int .i64 a) ∧ w'.cell? ⟨w.heap.size, 2, none⟩ = some (.int .i64 t) ∧ w'.cell? ⟨w.heap.size, 3, none⟩ = some (.int .i64 n) ∧ w'.cell? ⟨w.heap.size, 4, none⟩ = some (.int .i64 x) ∧ w'.cell? ⟨w.heap.size, 5, none⟩ = some (.int .u64 v) ∧ w'.cell? ⟨w.heap.size, 6, none⟩ = some (u)) (first | exact ⟨c0, c1, c2, c3, c4, c5, c6⟩ | go_keep) ((first | (go_at_call 20; refine (C1.out _ (by first | exact hm | exact hm.drew HD.out) (by first | exact hb | exact hb.drew)).mono ?_; rintro e w1 ⟨rfl, hm1, hb1⟩; replace hm := hm1; replace hb := hb1; obtain ⟨c0, c1, c2, c3, c4, c5, c6⟩ := hm1.box.cells; clear hm1 hb1) | (go_at_call 27; refine (C2.out _ (by first | exact hm | exact hm.drew HD.out) (by first | exact hb | exact hb.drew)).mono ?_; rintro e w1 ⟨rfl, hm1, hb1⟩; replace hm := hm1; replace hb := hb1; obtain ⟨c0, c1, c2, c3, c4, c5, c6⟩ := hm1.box.cells; clear hm1 hb1)))
  go_wp2
  go_ret
  exact ⟨rfl, by rw [hr]; exact hm.two, hb⟩

set_option maxRecDepth 100000 in
set_option maxHeartbeats 8000000 in
theorem act_zero {H : Type} {blk : H → Nat → Prop} {Ar : H → World → Value → List Int → Prop} {Tb : World → Prop} (D : Does blk Ar Tb) (va vr u : Value) (l b : List Int) (a t n x v : Int) (wB w : World) (hb : Below wB.heap.size wB w) (hx : Row .u8 wB u b) (hbl : b.length ≤ 1000000) (h64 : is64 a) (ht : Two blk Ar wB.heap.size w va vr l) :
    Calls Try.prog 11 #[va, vr, (⟨5, a, t, n, x, v, u, b⟩ : Act).agg] w fun e w' => e = .returned (.bool true) ∧ Two blk Ar wB.heap.size w' va vr (zerA l a n).1 ∧ Below wB.heap.size wB w' := by
  obtain ⟨l1, c, hr⟩ : ∃ l1 c, zerA l a n = (l1, c) := ⟨_, _, rfl⟩
  have C1 : Hid (∀ W, Mid blk Ar wB.heap.size W va vr l l w.heap.size ⟨5, a, t, n, x, v, u, b⟩ → Below wB.heap.size wB W → Calls Try.prog 21 #[va, .int .i64 a, .int .i64 n] W fun e w' => e = .returned (.int .i64 c) ∧ Mid blk Ar wB.heap.size w' va vr l1 l w.heap.size ⟨5, a, t, n, x, v, u, b⟩ ∧ Below wB.heap.size wB w') := fun W hm hb => by
    have := mid_one D (r := (l1, c)) hm hb (below_le hb rfl) (fun h h1 => by rw [← hr]; exact D.zero h va l a n W h1 h64)
    exact this
  have C2 : Hid (∀ W, Mid blk Ar wB.heap.size W va vr l1 l w.heap.size ⟨5, a, t, n, x, v, u, b⟩ → Below wB.heap.size wB W → Calls Try.prog 28 #[vr, .int .i64 a, .int .i64 n] W fun e w' => e = .returned (.int .i64 c) ∧ Mid blk Ar wB.heap.size w' va vr l1 l1 w.heap.size ⟨5, a, t, n, x, v, u, b⟩ ∧ Below wB.heap.size wB w') := fun W hm hb => by
    have := mid_two D (r := (l1, c)) hm hb (below_le hb rfl) (fun g b' h2 => by rw [← hr]; exact refZero_any vr l g b' a n W h2)
    exact this
  have HD := Lib.hid D
  have hal := below_made w (.cells #[.int .i64 5, .int .i64 a, .int .i64 t, .int .i64 n, .int .i64 x, .int .u64 v, u] 34)
  have hm := ht.mid D (below_le hb rfl) hal (Box.made w ⟨5, a, t, n, x, v, u, b⟩)
  replace hb := hb.trans (hal.mono (below_le hb rfl))
  obtain ⟨c0, c1, c2, c3, c4, c5, c6⟩ := hm.box.cells
  have hcc : (c == c) = true := by simp
  obtain ⟨a1, n1, hu⟩ : ∃ a1 n1, u = .slice a1 b.length n1 := by
    obtain ⟨a1, n1, hu, -⟩ := hx
    exact ⟨a1, n1, hu⟩
  have HU := Lib.hid hu
  clear ht hal hx hbl hu
  unfold Act.agg
  go_enter Try.func11, Try.ntmps11
  go_wp2_with fail
  go_region_held3 (fun w' => w'.cell? ⟨w.heap.size, 0, none⟩ = some (.int .i64 5) ∧ w'.cell? ⟨w.heap.size, 1, none⟩ = some (.int .i64 a) ∧ w'.cell? ⟨w.heap.size, 2, none⟩ = some (.int .i64 t) ∧ w'.cell? ⟨w.heap.size, 3, none⟩ = some (.int .i64 n) ∧ w'.cell? ⟨w.heap.size, 4, none⟩ = some (.int .i64 x) ∧ w'.cell? ⟨w.heap.size, 5, none⟩ = some (.int .u64 v) ∧ w'.cell? ⟨w.heap.size, 6, none⟩ = some (u)) (first | exact ⟨c0, c1, c2, c3, c4, c5, c6⟩ | go_keep) ((first | (go_at_call 21; refine (C1.out _ (by first | exact hm | exact hm.drew HD.out) (by first | exact hb | exact hb.drew)).mono ?_; rintro e w1 ⟨rfl, hm1, hb1⟩; replace hm := hm1; replace hb := hb1; obtain ⟨c0, c1, c2, c3, c4, c5, c6⟩ := hm1.box.cells; clear hm1 hb1) | (go_at_call 28; refine (C2.out _ (by first | exact hm | exact hm.drew HD.out) (by first | exact hb | exact hb.drew)).mono ?_; rintro e w1 ⟨rfl, hm1, hb1⟩; replace hm := hm1; replace hb := hb1; obtain ⟨c0, c1, c2, c3, c4, c5, c6⟩ := hm1.box.cells; clear hm1 hb1)))
  go_wp2
  go_ret
  exact ⟨rfl, by rw [hr]; exact hm.two, hb⟩

set_option maxRecDepth 100000 in
set_option maxHeartbeats 8000000 in
theorem act_move {H : Type} {blk : H → Nat → Prop} {Ar : H → World → Value → List Int → Prop} {Tb : World → Prop} (D : Does blk Ar Tb) (va vr u : Value) (l b : List Int) (a t n x v : Int) (wB w : World) (hb : Below wB.heap.size wB w) (hx : Row .u8 wB u b) (hbl : b.length ≤ 1000000) (h64 : is64 a) (h65 : is64 t) (ht : Two blk Ar wB.heap.size w va vr l) :
    Calls Try.prog 11 #[va, vr, (⟨6, a, t, n, x, v, u, b⟩ : Act).agg] w fun e w' => e = .returned (.bool true) ∧ Two blk Ar wB.heap.size w' va vr (movA l a t n).1 ∧ Below wB.heap.size wB w' := by
  obtain ⟨l1, c, hr⟩ : ∃ l1 c, movA l a t n = (l1, c) := ⟨_, _, rfl⟩
  have C1 : Hid (∀ W, Mid blk Ar wB.heap.size W va vr l l w.heap.size ⟨6, a, t, n, x, v, u, b⟩ → Below wB.heap.size wB W → Calls Try.prog 22 #[va, .int .i64 a, .int .i64 t, .int .i64 n] W fun e w' => e = .returned (.int .i64 c) ∧ Mid blk Ar wB.heap.size w' va vr l1 l w.heap.size ⟨6, a, t, n, x, v, u, b⟩ ∧ Below wB.heap.size wB w') := fun W hm hb => by
    have := mid_one D (r := (l1, c)) hm hb (below_le hb rfl) (fun h h1 => by rw [← hr]; exact D.move h va l a t n W h1 h64 h65)
    exact this
  have C2 : Hid (∀ W, Mid blk Ar wB.heap.size W va vr l1 l w.heap.size ⟨6, a, t, n, x, v, u, b⟩ → Below wB.heap.size wB W → Calls Try.prog 29 #[vr, .int .i64 a, .int .i64 t, .int .i64 n] W fun e w' => e = .returned (.int .i64 c) ∧ Mid blk Ar wB.heap.size w' va vr l1 l1 w.heap.size ⟨6, a, t, n, x, v, u, b⟩ ∧ Below wB.heap.size wB w') := fun W hm hb => by
    have := mid_two D (r := (l1, c)) hm hb (below_le hb rfl) (fun g b' h2 => by rw [← hr]; exact refMove_any vr l g b' a t n W h2)
    exact this
  have HD := Lib.hid D
  have hal := below_made w (.cells #[.int .i64 6, .int .i64 a, .int .i64 t, .int .i64 n, .int .i64 x, .int .u64 v, u] 34)
  have hm := ht.mid D (below_le hb rfl) hal (Box.made w ⟨6, a, t, n, x, v, u, b⟩)
  replace hb := hb.trans (hal.mono (below_le hb rfl))
  obtain ⟨c0, c1, c2, c3, c4, c5, c6⟩ := hm.box.cells
  have hcc : (c == c) = true := by simp
  obtain ⟨a1, n1, hu⟩ : ∃ a1 n1, u = .slice a1 b.length n1 := by
    obtain ⟨a1, n1, hu, -⟩ := hx
    exact ⟨a1, n1, hu⟩
  have HU := Lib.hid hu
  clear ht hal hx hbl hu
  unfold Act.agg
  go_enter Try.func11, Try.ntmps11
  go_wp2_with fail
  go_region_held3 (fun w' => w'.cell? ⟨w.heap.size, 0, none⟩ = some (.int .i64 6) ∧ w'.cell? ⟨w.heap.size, 1, none⟩ = some (.int .i64 a) ∧ w'.cell? ⟨w.heap.size, 2, none⟩ = some (.int .i64 t) ∧ w'.cell? ⟨w.heap.size, 3, none⟩ = some (.int .i64 n) ∧ w'.cell? ⟨w.heap.size, 4, none⟩ = some (.int .i64 x) ∧ w'.cell? ⟨w.heap.size, 5, none⟩ = some (.int .u64 v) ∧ w'.cell? ⟨w.heap.size, 6, none⟩ = some (u)) (first | exact ⟨c0, c1, c2, c3, c4, c5, c6⟩ | go_keep) ((first | (go_at_call 22; refine (C1.out _ (by first | exact hm | exact hm.drew HD.out) (by first | exact hb | exact hb.drew)).mono ?_; rintro e w1 ⟨rfl, hm1, hb1⟩; replace hm := hm1; replace hb := hb1; obtain ⟨c0, c1, c2, c3, c4, c5, c6⟩ := hm1.box.cells; clear hm1 hb1) | (go_at_call 29; refine (C2.out _ (by first | exact hm | exact hm.drew HD.out) (by first | exact hb | exact hb.drew)).mono ?_; rintro e w1 ⟨rfl, hm1, hb1⟩; replace hm := hm1; replace hb := hb1; obtain ⟨c0, c1, c2, c3, c4, c5, c6⟩ := hm1.box.cells; clear hm1 hb1)))
  go_wp2
  go_ret
  exact ⟨rfl, by rw [hr]; exact hm.two, hb⟩

set_option maxRecDepth 100000 in
set_option maxHeartbeats 8000000 in
theorem act_has {H : Type} {blk : H → Nat → Prop} {Ar : H → World → Value → List Int → Prop} {Tb : World → Prop} (D : Does blk Ar Tb) (va vr u : Value) (l b : List Int) (a t n x v : Int) (wB w : World) (hb : Below wB.heap.size wB w) (htb : Tb wB) (hx : Row .u8 wB u b) (hbl : b.length ≤ 1000000) (ht : Two blk Ar wB.heap.size w va vr l) :
    Calls Try.prog 11 #[va, vr, (⟨8, a, t, n, x, v, u, b⟩ : Act).agg] w fun e w' => e = .returned (.bool true) ∧ Two blk Ar wB.heap.size w' va vr l ∧ Below wB.heap.size wB w' := by
  obtain ⟨c, hc⟩ : ∃ c, c = hasA l b := ⟨_, rfl⟩
  have C1 : Hid (∀ W, Mid blk Ar wB.heap.size W va vr l l w.heap.size ⟨8, a, t, n, x, v, u, b⟩ → Below wB.heap.size wB W → Calls Try.prog 23 #[va, u] W fun e w' => e = .returned (.bool c) ∧ Mid blk Ar wB.heap.size w' va vr l l w.heap.size ⟨8, a, t, n, x, v, u, b⟩ ∧ Below wB.heap.size wB w') := fun W hm hb => by
    obtain ⟨h, g, b', ⟨h1, h2, h3⟩, h4⟩ := hm
    refine mid_tells D ⟨h, g, b', ⟨h1, h2, h3⟩, h4⟩ hb (below_le hb rfl) ?_
    rw [hc]
    exact D.has h va l u b W h1 (hx.mono hb (Nat.le_refl _)) hbl (D.keep hb htb)
  have C2 : Hid (∀ W, Mid blk Ar wB.heap.size W va vr l l w.heap.size ⟨8, a, t, n, x, v, u, b⟩ → Below wB.heap.size wB W → Calls Try.prog 30 #[vr, u] W fun e w' => e = .returned (.bool c) ∧ Mid blk Ar wB.heap.size w' va vr l l w.heap.size ⟨8, a, t, n, x, v, u, b⟩ ∧ Below wB.heap.size wB w') := fun W hm hb => by
    obtain ⟨h, g, b', ⟨h1, h2, h3⟩, h4⟩ := hm
    refine mid_tells D ⟨h, g, b', ⟨h1, h2, h3⟩, h4⟩ hb (below_le hb rfl) ?_
    rw [hc]
    exact refHas_any vr u l b g b' W h2 (hx.mono hb (Nat.le_refl _)) hbl
  have HD := Lib.hid D
  have hal := below_made w (.cells #[.int .i64 8, .int .i64 a, .int .i64 t, .int .i64 n, .int .i64 x, .int .u64 v, u] 34)
  have hm := ht.mid D (below_le hb rfl) hal (Box.made w ⟨8, a, t, n, x, v, u, b⟩)
  replace hb := hb.trans (hal.mono (below_le hb rfl))
  obtain ⟨c0, c1, c2, c3, c4, c5, c6⟩ := hm.box.cells
  have hcc : (c == c) = true := by simp
  obtain ⟨a1, n1, hu⟩ : ∃ a1 n1, u = .slice a1 b.length n1 := by
    obtain ⟨a1, n1, hu, -⟩ := hx
    exact ⟨a1, n1, hu⟩
  have HU := Lib.hid hu
  clear ht hal hx hbl hu
  unfold Act.agg
  go_enter Try.func11, Try.ntmps11
  go_wp2_with fail
  go_region_held3 (fun w' => w'.cell? ⟨w.heap.size, 0, none⟩ = some (.int .i64 8) ∧ w'.cell? ⟨w.heap.size, 1, none⟩ = some (.int .i64 a) ∧ w'.cell? ⟨w.heap.size, 2, none⟩ = some (.int .i64 t) ∧ w'.cell? ⟨w.heap.size, 3, none⟩ = some (.int .i64 n) ∧ w'.cell? ⟨w.heap.size, 4, none⟩ = some (.int .i64 x) ∧ w'.cell? ⟨w.heap.size, 5, none⟩ = some (.int .u64 v) ∧ w'.cell? ⟨w.heap.size, 6, none⟩ = some (u)) (first | exact ⟨c0, c1, c2, c3, c4, c5, c6⟩ | go_keep) ((first | (go_at_call 23; refine (C1.out _ (by first | exact hm | exact hm.drew HD.out) (by first | exact hb | exact hb.drew)).mono ?_; rintro e w1 ⟨rfl, hm1, hb1⟩; replace hm := hm1; replace hb := hb1; obtain ⟨c0, c1, c2, c3, c4, c5, c6⟩ := hm1.box.cells; clear hm1 hb1) | (go_at_call 30; refine (C2.out _ (by first | exact hm | exact hm.drew HD.out) (by first | exact hb | exact hb.drew)).mono ?_; rintro e w1 ⟨rfl, hm1, hb1⟩; replace hm := hm1; replace hb := hb1; obtain ⟨c0, c1, c2, c3, c4, c5, c6⟩ := hm1.box.cells; clear hm1 hb1)))
  go_wp2
  go_ret
  exact ⟨rfl, hm.two, hb⟩

set_option maxRecDepth 100000 in
set_option maxHeartbeats 8000000 in
theorem act_put {H : Type} {blk : H → Nat → Prop} {Ar : H → World → Value → List Int → Prop} {Tb : World → Prop} (D : Does blk Ar Tb) (va vr u : Value) (l b : List Int) (k : Int) (a t n x v : Int) (wB w : World) (hb : Below wB.heap.size wB w) (hx : Row .u8 wB u b) (hbl : b.length ≤ 1000000) (hv0 : 0 ≤ v) (hv1 : v < 18446744073709551616) (hll : l.length ≤ 2000) (hk : ¬ k = 2 ∧ ¬ k = 3 ∧ ¬ k = 4 ∧ ¬ k = 5 ∧ ¬ k = 6 ∧ ¬ k = 7 ∧ ¬ k = 8) (ht : Two blk Ar wB.heap.size w va vr l) :
    Calls Try.prog 11 #[va, vr, (⟨k, a, t, n, x, v, u, b⟩ : Act).agg] w fun e w' => e = .returned (.bool true) ∧ Two blk Ar wB.heap.size w' va vr (putA l a x v).1 ∧ Below wB.heap.size wB w' := by
  obtain ⟨l1, c, hr⟩ : ∃ l1 c, putA l a x v = (l1, c) := ⟨_, _, rfl⟩
  have C1 : Hid (∀ W, Mid blk Ar wB.heap.size W va vr l l w.heap.size ⟨k, a, t, n, x, v, u, b⟩ → Below wB.heap.size wB W → Calls Try.prog 17 #[va, .int .i64 a, .int .i64 x, .int .u64 v] W fun e w' => e = .returned (.int .i64 c) ∧ Mid blk Ar wB.heap.size w' va vr l1 l w.heap.size ⟨k, a, t, n, x, v, u, b⟩ ∧ Below wB.heap.size wB w') := fun W hm hb => by
    have := mid_one D (r := (l1, c)) hm hb (below_le hb rfl) (fun h h1 => by rw [← hr]; exact D.put h va l a x v W h1 hv0 hv1)
    exact this
  have C2 : Hid (∀ W, Mid blk Ar wB.heap.size W va vr l1 l w.heap.size ⟨k, a, t, n, x, v, u, b⟩ → Below wB.heap.size wB W → Calls Try.prog 31 #[vr, .int .i64 a, .int .i64 x, .int .u64 v] W fun e w' => e = .returned (.int .i64 c) ∧ Mid blk Ar wB.heap.size w' va vr l1 l1 w.heap.size ⟨k, a, t, n, x, v, u, b⟩ ∧ Below wB.heap.size wB w') := fun W hm hb => by
    have := mid_two D (r := (l1, c)) hm hb (below_le hb rfl) (fun g b' h2 => by rw [← hr]; exact refPut_any vr l g b' a x v W h2 hv0 hv1 hll)
    exact this
  have HD := Lib.hid D
  have hal := below_made w (.cells #[.int .i64 k, .int .i64 a, .int .i64 t, .int .i64 n, .int .i64 x, .int .u64 v, u] 34)
  have hm := ht.mid D (below_le hb rfl) hal (Box.made w ⟨k, a, t, n, x, v, u, b⟩)
  replace hb := hb.trans (hal.mono (below_le hb rfl))
  obtain ⟨c0, c1, c2, c3, c4, c5, c6⟩ := hm.box.cells
  have hcc : (c == c) = true := by simp
  obtain ⟨a1, n1, hu⟩ : ∃ a1 n1, u = .slice a1 b.length n1 := by
    obtain ⟨a1, n1, hu, -⟩ := hx
    exact ⟨a1, n1, hu⟩
  have HU := Lib.hid hu
  obtain ⟨e2, e3, e4, e5, e6, e7, e8⟩ := hk
  have f2 : (k == 2) = false := by simpa using e2
  have f3 : (k == 3) = false := by simpa using e3
  have f4 : (k == 4) = false := by simpa using e4
  have f5 : (k == 5) = false := by simpa using e5
  have f6 : (k == 6) = false := by simpa using e6
  have f7 : (k == 7) = false := by simpa using e7
  have f8 : (k == 8) = false := by simpa using e8
  clear e2 e3 e4 e5 e6 e7 e8
  clear ht hal hx hbl hu
  unfold Act.agg
  go_enter Try.func11, Try.ntmps11
  go_wp2_with fail
  go_region_held3 (fun w' => w'.cell? ⟨w.heap.size, 0, none⟩ = some (.int .i64 k) ∧ w'.cell? ⟨w.heap.size, 1, none⟩ = some (.int .i64 a) ∧ w'.cell? ⟨w.heap.size, 2, none⟩ = some (.int .i64 t) ∧ w'.cell? ⟨w.heap.size, 3, none⟩ = some (.int .i64 n) ∧ w'.cell? ⟨w.heap.size, 4, none⟩ = some (.int .i64 x) ∧ w'.cell? ⟨w.heap.size, 5, none⟩ = some (.int .u64 v) ∧ w'.cell? ⟨w.heap.size, 6, none⟩ = some (u)) (first | exact ⟨c0, c1, c2, c3, c4, c5, c6⟩ | go_keep) ((first | (go_at_call 17; refine (C1.out _ (by first | exact hm | exact hm.drew HD.out) (by first | exact hb | exact hb.drew)).mono ?_; rintro e w1 ⟨rfl, hm1, hb1⟩; replace hm := hm1; replace hb := hb1; obtain ⟨c0, c1, c2, c3, c4, c5, c6⟩ := hm1.box.cells; clear hm1 hb1) | (go_at_call 31; refine (C2.out _ (by first | exact hm | exact hm.drew HD.out) (by first | exact hb | exact hb.drew)).mono ?_; rintro e w1 ⟨rfl, hm1, hb1⟩; replace hm := hm1; replace hb := hb1; obtain ⟨c0, c1, c2, c3, c4, c5, c6⟩ := hm1.box.cells; clear hm1 hb1)))
  go_wp2
  go_ret
  exact ⟨rfl, by rw [hr]; exact hm.two, hb⟩
end Go.Proofs.Ytncbfagmdldclaa.Arn
