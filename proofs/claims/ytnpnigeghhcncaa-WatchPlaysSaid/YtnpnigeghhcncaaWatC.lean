/- Contracts of the landed watch that go through its runs. -/
import Derived.Test.YtnpnigeghhcncaaWatB
import Derived.Test.YtnpnigeghhcncaaKit10
import Derived.Maps.AppendAt
namespace Go.Proofs.Ytnpnigeghhcncaa.Wat
open Go.RowKit Go.Shelf Num Arn
set_option linter.unusedVariables false
attribute [local go_sem] Oper.semAt_some

/-- A run in a block of its own. -/
def B3 (W : World) (B : Nat) (r : Rn) : Prop := W.heap[B]? = some (.cells #[.int .i64 (r.1 : Int), .int .i64 (r.2.1 : Int), .int .i64 r.2.2] 48 (0, 0))
theorem B3.new (W : World) (r : Rn) : B3 (W.alloc (.cells #[.int .i64 (r.1 : Int), .int .i64 (r.2.1 : Int), .int .i64 r.2.2] 48)) W.heap.size r := heap_alloc_new _ _
theorem B3.own (B : Nat) (r : Rn) : Own (fun (_ : Unit) W => B3 W B r) := fun s X Y row hs hg hrow =>
  (hg.block B (Array.getElem?_eq_some_iff.1 hs).1 (fun e => by obtain ⟨o, ho, hc⟩ := hrow B e.symm; rw [show X.heap[B]? = _ from hs] at ho; cases ho; cases hc)).trans hs
theorem B3.cells {W : World} {B p n : Nat} {k : Int} (h : B3 W B (p, n, k)) : W.cell? ⟨B, 0, none⟩ = some (.int .i64 (p : Int)) ∧ W.cell? ⟨B, 1, none⟩ = some (.int .i64 (n : Int)) ∧ W.cell? ⟨B, 2, none⟩ = some (.int .i64 k) :=
  ⟨(cell_block h 0).trans rfl, (cell_block h 1).trans rfl, (cell_block h 2).trans rfl⟩

set_option maxRecDepth 100000 in
set_option maxHeartbeats 4000000 in
theorem sum_any (h : Hw) (v : Value) (x : List Int) (lk ft : Nat) (k : Int) (w : World) (ha : WaC h w v x lk ft) :
    Calls Try.prog 15 #[v, .int .i64 k] w fun e w' => e = .returned (.int .i64 (cntA x k : Int)) ∧ Below w.heap.size w w' := by
  have hl := ha.len
  have hal := below_made w (.cells #[.int .i64 k] 3)
  have HM := Lib.hid (made_any h v x lk ft _ (ha.below hal))
  have HA := Lib.hid ha
  have hlt := ha.lt
  obtain ⟨c0, -, -⟩ := (ha.below hal).cells
  have hg := hlt h.g (.inl rfl)
  have hb := hlt h.b (.inr rfl)
  obtain ⟨rfl, -⟩ := ha
  have HR := Lib.hid (fun W => runs_any (some ⟨h.b, 0, none⟩) x.length x.length W)
  refine (callsIn_wide (n := 6)).1 ?_
  refine callsIn_of_wp_marks Try.func15 rfl trivial ?_ rfl
  simp only [Try.ntmps15, List.size_toArray, List.length_cons, List.length_nil, Nat.reduceAdd, Nat.reduceSub, Array.replicate_succ, Array.replicate_zero, List.push_toArray, List.append_toArray, List.nil_append, List.cons_append]
  gi_wp2_with (first | (refine ⟨trivial, ?_⟩; gi_at_call 25; refine (callsIn_wide.2 HM.out).mono ?_; rintro e w' ⟨rfl, rfl⟩) | (refine ⟨trivial, ?_⟩; gi_at_call 29; refine (callsIn_wide.2 (HR.out _)).mono ?_; rintro e w' ⟨rfl, rfl⟩))
  have bK := ((Boxed.new w 3 (.int .i64 k)).alloc (.cells #[.int .i64 0] 3)).alloc (.cells #[.slice (some ⟨h.b, 0, none⟩) x.length x.length] 37)
  have bS := (Boxed.new (w.alloc (.cells #[.int .i64 k] 3)) 3 (.int .i64 0)).alloc (.cells #[.slice (some ⟨h.b, 0, none⟩) x.length x.length] 37)
  have bN := Boxed.new ((w.alloc (.cells #[.int .i64 k] 3)).alloc (.cells #[.int .i64 0] 3)) 37 (.slice (some ⟨h.b, 0, none⟩) x.length x.length)
  simp only [World.size_alloc] at bS bN
  have hB0 : Below w.heap.size w (((w.alloc (.cells #[.int .i64 k] 3)).alloc (.cells #[.int .i64 0] 3)).alloc (.cells #[.slice (some ⟨h.b, 0, none⟩) x.length x.length] 37)) := (((Below.refl _ w).alloc (Nat.le_refl _) _).alloc (by simp) _).alloc (by simp; omega) _
  have hsz : (((w.alloc (.cells #[.int .i64 k] 3)).alloc (.cells #[.int .i64 0] 3)).alloc (.cells #[.slice (some ⟨h.b, 0, none⟩) x.length x.length] 37)).heap.size = w.heap.size + 3 := by simp
  obtain ⟨W0, hW0⟩ : ∃ W0, ((w.alloc (.cells #[.int .i64 k] 3)).alloc (.cells #[.int .i64 0] 3)).alloc (.cells #[.slice (some ⟨h.b, 0, none⟩) x.length x.length] 37) = W0 := ⟨_, rfl⟩
  rw [hW0] at bK bS bN hB0 hsz ⊢
  clear hW0
  have hrow := (HA.out.row).mono hB0 (Nat.le_refl _)
  refine wpIn_rangeFunc_ownH rfl (by omega) (gf := 31) (lb := #[.pointer (some ⟨w.heap.size + 1 + 1, 0, none⟩)]) rfl trivial (enters_of Try.func31 (by kernel_rfl) rfl)
    (runs_stops 5 (by omega) (w.heap.size + 1 + 1) w.heap.size _ x hl.2 W0 (by omega) bN.cell hrow (fun _ b e => by cases e; exact hb)) (fun h k => h.trans k) (KpB.put (by omega) (by omega)) (Below.refl _ _) (fun _ => rfl)
    (fun pre W => ((Boxed W (w.heap.size + 1) 3 (.int .i64 (smI pre k)) ∧ Boxed W w.heap.size 3 (.int .i64 k)) ∧ Boxed W (w.heap.size + 1 + 1) 37 (.slice (some ⟨h.b, 0, none⟩) x.length x.length)) ∧ Below w.heap.size w W)
    (fun _ _ _ => False)
    (OwnFrom.and (OwnFrom.and (OwnFrom.and (Own.from (boxed_own _ _ _) _) (Own.from (boxed_own _ _ _) _)) (Own.from (boxed_own _ _ _) _)) (ownFrom_below (Nat.le_refl _) (by omega)))
    (fun _ _ _ _ _ hs _ _ => hs)
    ⟨⟨⟨bS, bK⟩, bN⟩, hB0⟩
    (fun r a' W => ∃ Bx, B3 W Bx r ∧ a' = { tmps := #[.pointer (some ⟨h.g, 0, none⟩), .int .i64 k, undef, .pointer (some ⟨w.heap.size, 0, none⟩), .int .i64 0, .pointer (some ⟨w.heap.size + 1, 0, none⟩), .pointer (some ⟨Bx, 0, none⟩), .pointer (some ⟨h.g, 0, none⟩), .bool true, .bool false, .pointer (some ⟨h.g, 0, none⟩), .pointer (some ⟨h.g, 0, none⟩), .pointer (some ⟨h.g, 0, none⟩), .slice (some ⟨h.b, 0, none⟩) x.length x.length, .func (.func 31) #[] #[.pointer (some ⟨w.heap.size + 1 + 1, 0, none⟩)], aggW r, undef, undef, undef, undef, undef, undef, undef, undef, undef], defers := [] })
    (fun r a' _ X Y row hs hg hr => by obtain ⟨Bx, h2, h3⟩ := hs; exact ⟨Bx, B3.own Bx r () X Y row h2 hg (fun r e => (hr r e).2), h3⟩)
    ?assign ?body ?done ?stop
  case assign =>
    rintro l pre r W K ⟨⟨⟨bS1, bK1⟩, bN1⟩, hB1⟩ hK
    have hs1 := hB1.size
    have hs2 := bN1.lt
    obtain ⟨p, m, q⟩ := r
    dsimp only [aggW] at hK ⊢
    gi_wp2
    exact hK _ _ ((KeepsOthers.alloc _ _).from _) ((KpB.refl _ _ _).alloc hs1 hs2 _) ⟨⟨⟨bS1.alloc _, bK1.alloc _⟩, bN1.alloc _⟩, hB1.alloc hs1 _⟩ ⟨W.heap.size, B3.new W (p, m, q), rfl⟩
  case body =>
    rintro l pre r a' W hl ⟨rr, hr⟩ ⟨⟨⟨bS1, bK1⟩, bN1⟩, hB1⟩ ⟨Bx, bX, rfl⟩ hlt
    obtain ⟨p, m, q⟩ := r
    obtain ⟨d0, d1, d2⟩ := bX.cells
    have cS := bS1.cell
    have fS := bS1.frozen
    have cK := bK1.cell
    by_cases he : q = k
    · subst he
      gi_wp2
      exact ⟨(KeepsOthers.setCell _ _ _).from _, (KpB.refl _ _ _).setCell (by simp) (by simp) _, ⟨⟨by rw [smI_snoc, if_pos rfl]; exact bS1.set _, bK1.other (by omega) _⟩, bN1.other (by omega) _⟩, hB1.setCell (p := ⟨w.heap.size + 1, 0, none⟩) (by simp) _⟩
    · have he2 : (q == k) = false := by simpa using he
      gi_wp2
      exact ⟨KeepsFrom.refl _ _, KpB.refl _ _ _, ⟨⟨by rw [smI_snoc, if_neg he]; exact bS1, bK1⟩, bN1⟩, hB1⟩
  case done =>
    rintro D ys W hD rfl ⟨⟨⟨bS1, bK1⟩, bN1⟩, hB1⟩ hK
    have cS := bS1.cell
    gi_wp2
    refine ⟨by simp, .inl ⟨_, _, rfl, run_takeDeferred hK, ?_⟩⟩
    refine ⟨_, results_tmp rfl _ _ _, ?_, hB1.trans (belowK_b (w := w) (Nat.le_refl _) W D _ _ (by omega) hK rfl rfl)⟩
    exact ret_int (smI_all hl.2 k)
  case stop =>
    rintro D c pre W _ _ h _
    exact h.elim

set_option maxRecDepth 100000 in
set_option maxHeartbeats 4000000 in
theorem kind_yes_any (h : Hw) (v : Value) (x : List Int) (lk ft : Nat) (a n : Nat) (w : World) (ha : WaC h w v x lk ft) (hf : a + n ≤ x.length) :
    Calls Try.prog 13 #[v, .int .i64 (a : Int), .int .i64 (n : Int)] w fun e w' => e = .returned (.int .i64 (kndS ((x.drop a).take n))) ∧ Below w.heap.size w w' := by
  have hl := ha.len
  have hal := (below_made w (.cells #[.int .i64 (n : Int)] 3)).trans ((below_made (w.alloc (.cells #[.int .i64 (n : Int)] 3)) (.cells #[.int .i64 0] 3)).mono (by simp))
  have HM := Lib.hid (made_any h v x lk ft _ (ha.below hal))
  have HP := Lib.hid (part_yes h v x lk ft a n _ (ha.below hal) hf)
  have hrow0 := ha.part a n (ptA x.length a) (x.length - a) (fun hn => by unfold ptA; split <;> omega) (by omega) (by omega) hf
  have hlt := ha.lt
  have hb := hlt h.b (.inr rfl)
  obtain ⟨rfl, -⟩ := ha
  have hyl : ((x.drop a).take n).length = n := by rw [List.length_take, List.length_drop]; omega
  obtain ⟨y, hy⟩ : ∃ y, y = (x.drop a).take n := ⟨_, rfl⟩
  obtain ⟨c, hc⟩ : ∃ c, c = x.length - a := ⟨_, rfl⟩
  obtain ⟨o, ho⟩ : ∃ o, o = ptA x.length a := ⟨_, rfl⟩
  rw [← hy] at hrow0 hyl ⊢
  rw [← hc, ← ho] at hrow0 HP
  have HR := Lib.hid (fun W => runs_any (some ⟨h.b, o, none⟩) n c W)
  clear hy hc ho
  refine (callsIn_wide (n := 6)).1 ?_
  refine callsIn_of_wp_marks Try.func13 rfl trivial ?_ rfl
  simp only [Try.ntmps13, List.size_toArray, List.length_cons, List.length_nil, Nat.reduceAdd, Nat.reduceSub, Array.replicate_succ, Array.replicate_zero, List.push_toArray, List.append_toArray, List.nil_append, List.cons_append]
  gi_wp2_with (first | (refine ⟨trivial, ?_⟩; gi_at_call 25; refine (callsIn_wide.2 HM.out).mono ?_; rintro e w' ⟨rfl, rfl⟩) | (refine ⟨trivial, ?_⟩; gi_at_call 28; refine (callsIn_wide.2 HP.out).mono ?_; rintro e w' ⟨rfl, rfl⟩) | (refine ⟨trivial, ?_⟩; gi_at_call 29; refine (callsIn_wide.2 (HR.out _)).mono ?_; rintro e w' ⟨rfl, rfl⟩))
  have bK := ((Boxed.new w 3 (.int .i64 (n : Int))).alloc (.cells #[.int .i64 0] 3)).alloc (.cells #[.slice (some ⟨h.b, o, none⟩) n c] 37)
  have bS := (Boxed.new (w.alloc (.cells #[.int .i64 (n : Int)] 3)) 3 (.int .i64 0)).alloc (.cells #[.slice (some ⟨h.b, o, none⟩) n c] 37)
  have bN := Boxed.new ((w.alloc (.cells #[.int .i64 (n : Int)] 3)).alloc (.cells #[.int .i64 0] 3)) 37 (.slice (some ⟨h.b, o, none⟩) n c)
  simp only [World.size_alloc] at bS bN
  have hB0 : Below w.heap.size w (((w.alloc (.cells #[.int .i64 (n : Int)] 3)).alloc (.cells #[.int .i64 0] 3)).alloc (.cells #[.slice (some ⟨h.b, o, none⟩) n c] 37)) := (((Below.refl _ w).alloc (Nat.le_refl _) _).alloc (by simp) _).alloc (by simp; omega) _
  have hsz : (((w.alloc (.cells #[.int .i64 (n : Int)] 3)).alloc (.cells #[.int .i64 0] 3)).alloc (.cells #[.slice (some ⟨h.b, o, none⟩) n c] 37)).heap.size = w.heap.size + 3 := by simp
  obtain ⟨W0, hW0⟩ : ∃ W0, ((w.alloc (.cells #[.int .i64 (n : Int)] 3)).alloc (.cells #[.int .i64 0] 3)).alloc (.cells #[.slice (some ⟨h.b, o, none⟩) n c] 37) = W0 := ⟨_, rfl⟩
  rw [hW0] at bK bS bN hB0 hsz ⊢
  clear hW0
  have hrow := hrow0.mono hB0 (Nat.le_refl _)
  refine wpIn_rangeFunc_ownH rfl (by omega) (gf := 31) (lb := #[.pointer (some ⟨w.heap.size + 1 + 1, 0, none⟩)]) rfl trivial (enters_of Try.func31 (by kernel_rfl) rfl)
    (runs_stops 5 (by omega) (w.heap.size + 1 + 1) w.heap.size _ y (by omega) W0 (by omega) bN.cell hrow (fun _ b e => by cases e; exact hb)) (fun h k => h.trans k) (KpB.put (by omega) (by omega)) (Below.refl _ _) (fun _ => rfl)
    (fun pre W => ((((∀ r ∈ pre, r.2.1 ≠ n) ∧ Boxed W (w.heap.size + 1) 3 (.int .i64 0)) ∧ Boxed W w.heap.size 3 (.int .i64 (n : Int))) ∧ Boxed W (w.heap.size + 1 + 1) 37 (.slice (some ⟨h.b, o, none⟩) n c)) ∧ Below w.heap.size w W)
    (fun c pre W => (c = .ret ∧ ∃ r, pre.getLast? = some r ∧ r.2.1 = n ∧ Boxed W (w.heap.size + 1) 3 (.int .i64 r.2.2)) ∧ Below w.heap.size w W)
    (OwnFrom.and (OwnFrom.and (OwnFrom.and (OwnFrom.and (ownFrom_pure _ _) (Own.from (boxed_own _ _ _) _)) (Own.from (boxed_own _ _ _) _)) (Own.from (boxed_own _ _ _) _)) (ownFrom_below (Nat.le_refl _) (by omega)))
    (fun c => OwnFrom.and (Own.from (fun s X Y row hs hg hr => by obtain ⟨e, r, h1, h2, h3⟩ := hs; exact ⟨e, r, h1, h2, boxed_own _ _ (fun (_ : Unit) => Value.int .i64 r.2.2) () X Y row h3 hg hr⟩) _) (ownFrom_below (Nat.le_refl _) (by omega)))
    ⟨⟨⟨⟨by simp, bS⟩, bK⟩, bN⟩, hB0⟩
    (fun r a' W => ∃ Bx, B3 W Bx r ∧ a' = { tmps := #[.pointer (some ⟨h.g, 0, none⟩), .int .i64 (a : Int), .int .i64 (n : Int), undef, undef, .pointer (some ⟨w.heap.size, 0, none⟩), .pointer (some ⟨w.heap.size + 1, 0, none⟩), .slice (some ⟨h.b, o, none⟩) n c, .bool true, .pointer (some ⟨Bx, 0, none⟩), .pointer (some ⟨h.g, 0, none⟩), .bool true, .bool false, .tuple #[.slice (some ⟨h.b, o, none⟩) n c, .bool true], .pointer (some ⟨h.g, 0, none⟩), .int .i64 (a : Int), .int .i64 (n : Int), .tuple #[.slice (some ⟨h.b, o, none⟩) n c, .bool true], .slice (some ⟨h.b, o, none⟩) n c, .bool true, .bool true, .bool false, .slice (some ⟨h.b, o, none⟩) n c, .func (.func 31) #[] #[.pointer (some ⟨w.heap.size + 1 + 1, 0, none⟩)], aggW r, undef, undef, undef, undef, undef, undef], defers := [] })
    (fun r a' _ X Y row hs hg hr => by obtain ⟨Bx, h2, h3⟩ := hs; exact ⟨Bx, B3.own Bx r () X Y row h2 hg (fun r e => (hr r e).2), h3⟩)
    ?assign ?body ?done ?stop
  case assign =>
    rintro l pre r W K ⟨⟨⟨⟨hne, bS1⟩, bK1⟩, bN1⟩, hB1⟩ hK
    have hs1 := hB1.size
    have hs2 := bN1.lt
    obtain ⟨p, m, q⟩ := r
    dsimp only [aggW] at hK ⊢
    gi_wp2
    exact hK _ _ ((KeepsOthers.alloc _ _).from _) ((KpB.refl _ _ _).alloc hs1 hs2 _) ⟨⟨⟨⟨hne, bS1.alloc _⟩, bK1.alloc _⟩, bN1.alloc _⟩, hB1.alloc hs1 _⟩ ⟨W.heap.size, B3.new W (p, m, q), rfl⟩
  case body =>
    rintro l pre r a' W hl ⟨rr, hr⟩ ⟨⟨⟨⟨hne, bS1⟩, bK1⟩, bN1⟩, hB1⟩ ⟨Bx, bX, rfl⟩ hlt
    obtain ⟨p, m, q⟩ := r
    obtain ⟨d0, d1, d2⟩ := bX.cells
    have cS := bS1.cell
    have fS := bS1.frozen
    have cK := bK1.cell
    by_cases he : m = n
    · subst he
      gi_wp2
      exact ⟨(KeepsOthers.setCell _ _ _).from _, ⟨rfl, (p, m, q), by simp, rfl, bS1.set _⟩, hB1.setCell (p := ⟨w.heap.size + 1, 0, none⟩) (by simp) _⟩
    · have he2 : ((m : Int) == (n : Int)) = false := by rw [beq_eq_false_iff_ne]; omega
      have he3 : ¬ (m : Int) = (n : Int) := by omega
      gi_wp2
      exact ⟨KeepsFrom.refl _ _, KpB.refl _ _ _, ⟨⟨⟨fun r hr => by
        rw [List.mem_append, List.mem_singleton] at hr
        rcases hr with hr | rfl
        · exact hne r hr
        · exact he, bS1⟩, bK1⟩, bN1⟩, hB1⟩
  case done =>
    rintro D ys W hD rfl ⟨⟨⟨⟨hne, bS1⟩, bK1⟩, bN1⟩, hB1⟩ hK
    have cS := bS1.cell
    have fS := bS1.frozen
    gi_wp2
    have hK' := (KeepsOthers.setCell W ⟨w.heap.size + 1, 0, none⟩ (.int .i64 0)).same D _ hK rfl
    refine ⟨by simp, .inl ⟨_, _, rfl, run_takeDeferred hK', ?_⟩⟩
    have hc5 := cell_kept (World.cell?_setCell_same' W ⟨w.heap.size + 1, 0, none⟩ (.int .i64 0) (by rw [cS]; rfl)) (grownBy_putObj' _ D (.deferred none)) (fun r e => by cases e; exact ⟨_, hK', rfl⟩)
    refine ⟨.int .i64 0, ?_, ret_int (kind_no (fun r hr => by rw [hyl]; exact hne r hr)).symm, (hB1.setCell (p := ⟨w.heap.size + 1, 0, none⟩) (by simp) _).trans (belowK_b (w := w) (Nat.le_refl _) _ D _ _ (by omega) hK' rfl rfl)⟩
    simp [results, Try.f13, go_sem, hc5]
  case stop =>
    rintro D c pre W hD ⟨p, hp, rfl⟩ ⟨⟨rfl, r, hr1, hr2, bS1⟩, hB1⟩ hK
    gi_wp2
    refine ⟨by simp, .inl ⟨_, _, rfl, run_takeDeferred hK, ?_⟩⟩
    have hc5 := cell_kept bS1.cell (grownBy_putObj' _ D (.deferred none)) (fun r e => by cases e; exact ⟨_, hK, rfl⟩)
    refine ⟨.int .i64 r.2.2, ?_, ret_int (kind_yes hp hr1 (by rw [hyl]; exact hr2)).symm, hB1.trans (belowK_b (w := w) (Nat.le_refl _) W D _ _ (by omega) hK rfl rfl)⟩
    simp [results, Try.f13, go_sem, hc5]

theorem kind_not_any (h : Hw) (v : Value) (x : List Int) (lk ft : Nat) (a n : Int) (w : World) (ha : WaC h w v x lk ft) (h64 : is64 a) (hf : fitB x.length a n = false) :
    Calls Try.prog 13 #[v, .int .i64 a, .int .i64 n] w fun e w' => e = .returned (.int .i64 0) ∧ Below w.heap.size w w' := by
  have hal := (below_made w (.cells #[.int .i64 n] 3)).trans ((below_made (w.alloc (.cells #[.int .i64 n] 3)) (.cells #[.int .i64 0] 3)).mono (by simp))
  have HM := Lib.hid (made_any h v x lk ft _ (ha.below hal))
  have HP := Lib.hid (part_no h v x lk ft a n _ (ha.below hal) h64 hf)
  have bS := Boxed.new (w.alloc (.cells #[.int .i64 n] 3)) 3 (.int .i64 0)
  rw [World.size_alloc] at bS
  have cS := bS.cell
  have fS := bS.frozen
  have HS := Lib.hid bS.cell
  have HB := Lib.hid hal
  obtain ⟨rfl, -⟩ := ha
  clear hf h64 hal bS
  go_enter Try.func13, Try.ntmps13
  go_wp2_with fail
  refine HM.out.mono ?_
  rintro e w' ⟨rfl, rfl⟩
  go_wp2_with fail
  refine HP.out.mono ?_
  rintro e w' ⟨rfl, rfl⟩
  go_wp2
  refine bodyPost_ret (v := .int .i64 0) (by simp [results, Try.results13, go_sem, HS.out]) rfl ⟨rfl, HB.out⟩

theorem kind_any (h : Hw) (v : Value) (x : List Int) (lk ft : Nat) (a n : Int) (w : World) (ha : WaC h w v x lk ft) (h64 : is64 a) :
    Calls Try.prog 13 #[v, .int .i64 a, .int .i64 n] w fun e w' => e = .returned (.int .i64 (kndA x a n)) ∧ Below w.heap.size w w' := by
  unfold kndA
  by_cases hf : fitB x.length a n = true
  · rw [if_pos hf]
    obtain ⟨p, q, rfl, rfl, h1⟩ := fitB_nat hf
    exact kind_yes_any h v x lk ft p q w ha h1
  · rw [if_neg hf]
    exact kind_not_any h v x lk ft a n w ha h64 (by simpa using hf)

theorem infoRun : (Try.prog.info? 48).map (fun i => (i.zero, i.size, i.bytes)) = some (some (.agg #[.int .i64 0, .int .i64 0, .int .i64 0]), 3, 24) := by kernel_rfl
theorem news_three (w : World) (x y z : Int) (e : TypeId) : ∀ j u, [Value.int .i64 x, .int .i64 y, .int .i64 z][j]? = some u → (w.alloc (.cells #[.int .i64 x, .int .i64 y, .int .i64 z] e)).cell? ((⟨w.heap.size, 0, none⟩ : Addr).add j) = some u := by
  intro j u hj
  rw [Addr_add, Nat.zero_add, cell_block (heap_alloc_new w _)]
  simpa using hj
theorem oneCell_three (x y z : Int) : ∀ u ∈ [Value.int .i64 x, .int .i64 y, .int .i64 z], u.oneCell' = true := by
  intro u hu
  simp at hu
  rcases hu with rfl | rfl | rfl <;> rfl
def RowR (w : World) (u : Value) (L : List Rn) : Prop := ARow 3 encW (0, 0, 0) w u L

set_option maxRecDepth 100000 in
set_option maxHeartbeats 4000000 in
theorem runsC_any (h : Hw) (v : Value) (x : List Int) (lk ft : Nat) (w : World) (ha : WaC h w v x lk ft) :
    Calls Try.prog 22 #[v] w fun e w' => ∃ u, e = .returned u ∧ RowR w' u (rl x x.length) ∧ Below w.heap.size w w' := by
  obtain ⟨i0, hi, hz0, hz1, hz2⟩ := info_parts infoRun
  have hl := ha.len
  have hlen := rl_length x x.length
  have HM := Lib.hid (made_any h v x lk ft _ ha)
  have HA := Lib.hid ha
  have hlt := ha.lt
  obtain ⟨c0, -, -⟩ := ha.cells
  have hg := hlt h.g (.inl rfl)
  have hb := hlt h.b (.inr rfl)
  obtain ⟨rfl, -⟩ := ha
  have HR := Lib.hid (fun W => runs_any (some ⟨h.b, 0, none⟩) x.length x.length W)
  refine (callsIn_wide (n := 6)).1 ?_
  refine callsIn_of_wp_marks Try.func22 rfl trivial ?_ rfl
  simp only [Try.ntmps22, List.size_toArray, List.length_cons, List.length_nil, Nat.reduceAdd, Nat.reduceSub, Array.replicate_succ, Array.replicate_zero, List.push_toArray, List.append_toArray, List.nil_append, List.cons_append]
  gi_wp2_with (first | (refine ⟨trivial, ?_⟩; gi_at_call 25; refine (callsIn_wide.2 HM.out).mono ?_; rintro e w' ⟨rfl, rfl⟩) | (refine ⟨trivial, ?_⟩; gi_at_call 29; refine (callsIn_wide.2 (HR.out _)).mono ?_; rintro e w' ⟨rfl, rfl⟩))
  have bS := (Boxed.new w 41 (.slice none 0 0)).alloc (.cells #[.slice (some ⟨h.b, 0, none⟩) x.length x.length] 37)
  have bN := Boxed.new (w.alloc (.cells #[.slice none 0 0] 41)) 37 (.slice (some ⟨h.b, 0, none⟩) x.length x.length)
  simp only [World.size_alloc] at bN
  have hB0 : Below w.heap.size w ((w.alloc (.cells #[.slice none 0 0] 41)).alloc (.cells #[.slice (some ⟨h.b, 0, none⟩) x.length x.length] 37)) := ((Below.refl _ w).alloc (Nat.le_refl _) _).alloc (by simp) _
  have hsz : ((w.alloc (.cells #[.slice none 0 0] 41)).alloc (.cells #[.slice (some ⟨h.b, 0, none⟩) x.length x.length] 37)).heap.size = w.heap.size + 2 := by simp
  obtain ⟨W0, hW0⟩ : ∃ W0, (w.alloc (.cells #[.slice none 0 0] 41)).alloc (.cells #[.slice (some ⟨h.b, 0, none⟩) x.length x.length] 37) = W0 := ⟨_, rfl⟩
  rw [hW0] at bS bN hB0 hsz ⊢
  clear hW0
  have hrow := (HA.out.row).mono hB0 (Nat.le_refl _)
  refine wpIn_rangeFunc_ownH rfl (by omega) (gf := 31) (lb := #[.pointer (some ⟨w.heap.size + 1, 0, none⟩)]) rfl trivial (enters_of Try.func31 (by kernel_rfl) rfl)
    (runs_stops 5 (by omega) (w.heap.size + 1) w.heap.size _ x hl.2 W0 (by omega) bN.cell hrow (fun _ b e => by cases e; exact hb)) (fun h k => h.trans k) (KpB.put (by omega) (by omega)) (Below.refl _ _) (fun _ => rfl)
    (fun pre W => ((∃ u, Boxed W w.heap.size 41 u ∧ W.ownsRow w.heap.size 48 3 u pre.length (valsA encW pre) ∧ True) ∧ Boxed W (w.heap.size + 1) 37 (.slice (some ⟨h.b, 0, none⟩) x.length x.length)) ∧ Below w.heap.size w W)
    (fun _ _ _ => False)
    (OwnFrom.and (OwnFrom.and (Own.from (holdsRow_own w.heap.size w.heap.size 41 48 3 (fun pre => pre.length) (fun pre => valsA encW pre) (fun _ _ => True)) _) (Own.from (boxed_own _ _ _) _)) (ownFrom_below (Nat.le_refl _) (by omega)))
    (fun _ _ _ _ _ hs _ _ => hs)
    ⟨⟨⟨_, bS, World.ownsRow_nil _ _ _ _, trivial⟩, bN⟩, hB0⟩
    (fun r a' W => ∃ Bx, B3 W Bx r ∧ a' = { tmps := #[.pointer (some ⟨h.g, 0, none⟩), undef, .slice none 0 0, .pointer (some ⟨w.heap.size, 0, none⟩), .pointer (some ⟨Bx, 0, none⟩), .pointer (some ⟨h.g, 0, none⟩), .bool true, .bool false, .pointer (some ⟨h.g, 0, none⟩), .pointer (some ⟨h.g, 0, none⟩), .pointer (some ⟨h.g, 0, none⟩), .slice (some ⟨h.b, 0, none⟩) x.length x.length, .func (.func 31) #[] #[.pointer (some ⟨w.heap.size + 1, 0, none⟩)], aggW r, undef, undef, undef, undef, undef], defers := [] })
    (fun r a' _ X Y row hs hg hr => by obtain ⟨Bx, h2, h3⟩ := hs; exact ⟨Bx, B3.own Bx r () X Y row h2 hg (fun r e => (hr r e).2), h3⟩)
    ?assign ?body ?done ?stop
  case assign =>
    rintro l pre r W K ⟨⟨⟨u, bS1, hown, -⟩, bN1⟩, hB1⟩ hK
    have hs1 := hB1.size
    have hs2 := bN1.lt
    obtain ⟨p, m, q⟩ := r
    dsimp only [aggW] at hK ⊢
    gi_wp2
    exact hK _ _ ((KeepsOthers.alloc _ _).from _) ((KpB.refl _ _ _).alloc hs1 hs2 _) ⟨⟨⟨u, bS1.alloc _, hown.alloc _, trivial⟩, bN1.alloc _⟩, hB1.alloc hs1 _⟩ ⟨W.heap.size, B3.new W (p, m, q), rfl⟩
  case body =>
    rintro l pre r a' W hl ⟨rr, hr⟩ ⟨⟨⟨u, bS1, hown, -⟩, bN1⟩, hB1⟩ ⟨Bx, bX, rfl⟩ hlt
    obtain ⟨p, m, q⟩ := r
    obtain ⟨d0, d1, d2⟩ := bX.cells
    have cS := bS1.cell
    have hs1 := hB1.size
    have hs2 := bN1.lt
    gi_wp2_with (gi_at_builtin; refine wpListIn_append_own _ rfl (.tmp 14) (.tmp 16) 41 rfl w.heap.size 48 i0 (.agg #[.int .i64 0, .int .i64 0, .int .i64 0]) 3 24 Try.underlying41 hi hz0 hz1 hz2 rfl (by decide) _ _ _ rfl (hown.alloc _) ⟨W.heap.size, 0, none⟩ 1 1 [.int .i64 (p : Int), .int .i64 (m : Int), .int .i64 q] rfl rfl (news_three _ _ _ _ _) (oneCell_three _ _ _) (by unfold maxLen; omega) (by omega) (by simp; omega) ?_; intro v' w1 hown' hgrow _; obtain ⟨g', cap', rfl⟩ := ownsRow_succ hown'; obtain ⟨hv1, hv2, hr2, hk2, hb2⟩ := bS1.appended (by decide) hown hB1.size (Nat.le_refl _) hown' hgrow; have hc1 := hv1.cell; have hf1 := hv1.frozen)
    have hN1 := (Below.heap_setCell w1 ⟨w.heap.size, 0, none⟩ (.slice (some ⟨g', 0, none⟩) (pre.length + 1) cap') (w.heap.size + 1) (by simp)).trans ((hgrow.block (w.heap.size + 1) (by simp; omega) (bN1.not_row (by decide) hown)).trans (Below.heap_alloc W _ _ hs2))
    exact ⟨hk2.from _, ⟨hb2.size, fun k hk => by
      rcases hk with hk | rfl
      · exact hb2.block k hk
      · exact hN1⟩, ⟨⟨_, hv2, by rw [List.length_append, valsA_snoc]; exact hr2, trivial⟩, hN1.trans bN1⟩, hB1.trans hb2⟩
  case done =>
    rintro D ys W hD rfl ⟨⟨⟨u, bS1, hown, -⟩, bN1⟩, hB1⟩ hK
    have cS := bS1.cell
    gi_wp2
    refine ⟨by simp, .inl ⟨_, _, rfl, run_takeDeferred hK, ?_⟩⟩
    exact ⟨_, results_tmp rfl _ _ _, u, rfl, arow_of_owns (k := 3) (enc := encW) (fun _ => rfl) _ (ownsRow_putObj hown _ hK rfl) rfl, hB1.trans (belowK_b (w := w) (Nat.le_refl _) W D _ _ (by omega) hK rfl rfl)⟩
  case stop =>
    rintro D c pre W _ _ h _
    exact h.elim
end Go.Proofs.Ytnpnigeghhcncaa.Wat
