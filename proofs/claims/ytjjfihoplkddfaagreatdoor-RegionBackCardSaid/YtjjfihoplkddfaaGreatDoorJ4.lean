/- Plain mathematics of runs: proper ones, joined ones, tiles, kinds of places. Runs, one by one: proper, their ends; what goes on where another one ends. A map of numbers to true: which numbers are in it. What goes on where another run ends. The landed Joined. Tiles and At, the landed ones. The document's Tiles and At. The document's Joined. -/
import Derived.Test.YtjjfihoplkddfaaGreatDoorJ1
import Derived.Test.YtjjfihoplkddfaaGreatDoorJ3
import Derived.Laws.StructEq
import Derived.Maps.OwnSet
namespace Go.Proofs.YtjjfihoplkddfaaGreatDoor.Reg
open Go.RowKit
set_option linter.unusedVariables false

/-- A run: where, how long, of which kind. -/
abbrev RZ := Int × Int × Int
def encZ (r : RZ) : List Value := [.int .i64 r.1, .int .i64 r.2.1, .int .i64 r.2.2]
abbrev rz0 : RZ := (0, 0, 0)
def prZ (r : RZ) : Bool := decide (0 ≤ r.1) && (decide (r.1 ≤ 1099511627776) && (decide (0 ≤ r.2.1) && decide (r.2.1 ≤ 1099511627776)))
theorem prZ_iff {r : RZ} : prZ r = true ↔ 0 ≤ r.1 ∧ r.1 ≤ 1099511627776 ∧ 0 ≤ r.2.1 ∧ r.2.1 ≤ 1099511627776 := by simp [prZ]
/-- Does r go on where q ends? -/
def cnZ (q r : RZ) : Bool := prZ q && (prZ r && (decide (r.1 = q.1 + q.2.1) && decide (r.2.2 = q.2.2)))
theorem cnZ_iff {q r : RZ} : cnZ q r = true ↔ prZ q = true ∧ prZ r = true ∧ r.1 = q.1 + q.2.1 ∧ r.2.2 = q.2.2 := by simp [cnZ]
def jnZ (out : List RZ) (r : RZ) : List RZ := match out.getLast? with
  | none => out ++ [r]
  | some q => if cnZ q r then out.dropLast ++ [(q.1, q.2.1 + r.2.1, q.2.2)] else out ++ [r]
def joinZ (P : List RZ) : List RZ := P.foldl jnZ []
theorem jnZ_nil (r : RZ) : jnZ [] r = [r] := rfl
theorem jnZ_snoc (M : List RZ) (q r : RZ) : jnZ (M ++ [q]) r = if cnZ q r then M ++ [(q.1, q.2.1 + r.2.1, q.2.2)] else M ++ [q] ++ [r] := by
  unfold jnZ
  simp
theorem jnZ_len (L : List RZ) (r : RZ) : (jnZ L r).length ≤ L.length + 1 := by
  rcases List.eq_nil_or_concat L with rfl | ⟨M, q, rfl⟩
  · simp [jnZ_nil]
  · rw [List.concat_eq_append, jnZ_snoc]
    split <;> simp
theorem joinZ_take (P : List RZ) (k : Nat) (h : k < P.length) : joinZ (P.take (k + 1)) = jnZ (joinZ (P.take k)) (P.getD k rz0) := by
  unfold joinZ
  rw [List.take_succ_eq_append_getElem h, List.foldl_append, List.getD, List.getElem?_eq_getElem h, Option.getD_some]
  rfl
theorem joinZ_len (P : List RZ) : ∀ k, (joinZ (P.take k)).length ≤ k := by
  intro k
  induction k with
  | zero => simp [joinZ]
  | succ k ih =>
    by_cases h : k < P.length
    · rw [joinZ_take P k h]
      exact Nat.le_trans (jnZ_len _ _) (by omega)
    · rw [List.take_of_length_le (by omega)]
      rw [List.take_of_length_le (by omega)] at ih
      omega
/-- May a run lie there? -/
def okZ (a : Int) (r : RZ) : Bool := prZ r && (decide (r.1 = a) && (decide (1 ≤ r.2.1) && (decide (1 ≤ r.2.2) && decide (r.2.2 ≤ 8))))
theorem okZ_iff {a : Int} {r : RZ} : okZ a r = true ↔ prZ r = true ∧ r.1 = a ∧ 1 ≤ r.2.1 ∧ 1 ≤ r.2.2 ∧ r.2.2 ≤ 8 := by simp [okZ]
def tilZ (n : Int) : List RZ → Int → Bool
  | [], a => a == n
  | r :: P, a => if okZ a r then tilZ n P (r.1 + r.2.1) else false
theorem tilZ_drop {n a : Int} {P : List RZ} {k : Nat} (h : k < P.length) : tilZ n (P.drop k) a = if okZ a (P.getD k rz0) then tilZ n (P.drop (k + 1)) ((P.getD k rz0).1 + (P.getD k rz0).2.1) else false := by
  rw [List.drop_eq_getElem_cons h, List.getD, List.getElem?_eq_getElem h, Option.getD_some]
  rfl
def atZ (a : Int) : List RZ → Int
  | [] => 0
  | r :: P => if prZ r && (decide (r.1 ≤ a) && decide (a < r.1 + r.2.1)) then r.2.2 else atZ a P
theorem atZ_drop {a : Int} {P : List RZ} {k : Nat} (h : k < P.length) : atZ a (P.drop k) = if prZ (P.getD k rz0) && (decide ((P.getD k rz0).1 ≤ a) && decide (a < (P.getD k rz0).1 + (P.getD k rz0).2.1)) then (P.getD k rz0).2.2 else atZ a (P.drop (k + 1)) := by
  rw [List.drop_eq_getElem_cons h, List.getD, List.getElem?_eq_getElem h, Option.getD_some]
  rfl
abbrev ZRow := ARow 3 encZ rz0
theorem encZ_length (r : RZ) : (encZ r).length = 3 := rfl
theorem ZRow.cells {w : World} {b o n c : Nat} {P : List RZ} (h : ZRow w (.slice (some ⟨b, o, none⟩) n c) P) {k : Nat} (hk : k < P.length) :
    w.cell? ⟨b, o + k * 3, none⟩ = some (.int .i64 (P.getD k rz0).1) ∧ w.cell? ⟨b, o + k * 3 + 1, none⟩ = some (.int .i64 (P.getD k rz0).2.1) ∧ w.cell? ⟨b, o + k * 3 + 2, none⟩ = some (.int .i64 (P.getD k rz0).2.2) := by
  obtain ⟨a, cap, e, h2, h3, h5⟩ := h
  obtain ⟨b', o', rfl, hlt, hc⟩ := h5 (by rintro rfl; simp at hk)
  injection e with e
  injection e with e
  injection e with e1 e2
  subst e1 e2
  exact ⟨hc k hk 0 _ rfl, hc k hk 1 _ rfl, hc k hk 2 _ rfl⟩
/-- The last run of a row that a call owns, so long. -/
theorem own_set {w : World} {base cap g : Nat} {q : RZ} {t : TypeId} {M : List RZ} (h : w.ownsRow base t 3 (.slice (some ⟨g, 0, none⟩) (M.length + 1) cap) (M.length + 1) (valsA encZ (M ++ [q]))) (y : Int) :
    (w.setCell ⟨g, M.length * 3 + 1, none⟩ (.int .i64 y)).ownsRow base t 3 (.slice (some ⟨g, 0, none⟩) (M.length + 1) cap) (M.length + 1) (valsA encZ (M ++ [(q.1, y, q.2.2)])) := by
  obtain ⟨h1, h2⟩ := h
  rcases h2 with ⟨e, h0⟩ | ⟨g', cap', cur, e, hg, hh, hle, hm, hsz, htk⟩
  · omega
  · injection e with e1 e2 e3
    injection e1 with e1
    injection e1 with e1
    subst e1 e3
    have hvl : (valsA encZ M).length = M.length * 3 := valsA_length (k := 3) (enc := encZ) encZ_length M
    refine ⟨?_, .inr ⟨g, cap, cur.setIfInBounds (M.length * 3 + 1) (.int .i64 y), rfl, hg, Hea.heap_setCell_own hh _, hle, hm, by rw [Array.size_setIfInBounds]; exact hsz, ?_⟩⟩
    · rw [valsA_length (k := 3) encZ_length]
      simp
    · rw [Array.toList_setIfInBounds, List.take_set, htk, valsA_snoc, valsA_snoc, List.set_append_right _ _ (by omega), hvl]
      simp [encZ]
theorem own_three {w : World} {base cap g : Nat} {q : RZ} {t : TypeId} {M : List RZ} (h : w.ownsRow base t 3 (.slice (some ⟨g, 0, none⟩) (M.length + 1) cap) (M.length + 1) (valsA encZ (M ++ [q]))) :
    base ≤ g ∧ (w.cell? ⟨g, M.length * 3, none⟩ = some (.int .i64 q.1) ∧ w.cell? ⟨g, M.length * 3 + 1, none⟩ = some (.int .i64 q.2.1) ∧ w.cell? ⟨g, M.length * 3 + 2, none⟩ = some (.int .i64 q.2.2)) ∧ w.frozen? ⟨g, M.length * 3 + 1, none⟩ = false ∧ g < w.heap.size := by
  obtain ⟨h1, h2⟩ := h
  rcases h2 with ⟨e, h0⟩ | ⟨g', cap', cur, e, hg, hh, hle, hm, hsz, htk⟩
  · omega
  · injection e with e1 e2 e3
    injection e1 with e1
    injection e1 with e1
    subst e1 e3
    have hvl : (valsA encZ M).length = M.length * 3 := valsA_length (k := 3) (enc := encZ) encZ_length M
    have key : ∀ j v, j < 3 → (encZ q)[j]? = some v → w.cell? ⟨g, M.length * 3 + j, none⟩ = some v := fun j v hj hv => by
      have e : (valsA encZ (M ++ [q]))[M.length * 3 + j]? = some v := by
        rw [valsA_snoc, List.getElem?_append_right (by omega), hvl, show M.length * 3 + j - M.length * 3 = j by omega]
        exact hv
      rw [← htk, List.getElem?_take_of_lt (by omega)] at e
      rw [cell_block hh]
      simpa using e
    exact ⟨hg, ⟨key 0 _ (by omega) rfl, key 1 _ (by omega) rfl, key 2 _ (by omega) rfl⟩, by simp [World.frozen?, hh], (Array.getElem?_eq_some_iff.1 hh).1⟩
theorem own_some {w : World} {base n : Nat} {t : TypeId} {v : Value} {xs : List Value} (h : w.ownsRow base t 3 v (n + 1) xs) : ∃ g cap, v = .slice (some ⟨g, 0, none⟩) (n + 1) cap ∧ n + 1 ≤ cap := by
  obtain ⟨h1, h2⟩ := h
  rcases h2 with ⟨e, h0⟩ | ⟨g, cap, cur, rfl, hg, hh, hle, rest⟩
  · omega
  · exact ⟨g, cap, rfl, hle⟩
end Go.Proofs.YtjjfihoplkddfaaGreatDoor.Reg

namespace Go.Proofs.YtjjfihoplkddfaaGreatDoor.Reg
open Go.RowKit
set_option linter.unusedVariables false

theorem wrap_id {n : Int} (h0 : -9223372036854775808 ≤ n) (h1 : n ≤ 9223372036854775807) : IntKind.i64.wrap n = n := by
  rw [IntWalk.i64_left]; exact IntWalk.wrap64_in _ ⟨h0, h1⟩
theorem proper_any (a n k : Int) (w : World) : Calls Tryz.prog 201 #[.agg #[.int .i64 a, .int .i64 n, .int .i64 k]] w fun e w' => e = .returned (.bool (prZ (a, n, k))) ∧ Below w.heap.size w w' := by
  have hb := below_made w (.cells #[.int .i64 a, .int .i64 n, .int .i64 k] 60)
  by_cases h1 : 0 ≤ a
  · by_cases h2 : a ≤ 1099511627776
    · by_cases h3 : 0 ≤ n
      · by_cases h4 : n ≤ 1099511627776
        · have hp : prZ (a, n, k) = true := prZ_iff.2 ⟨h1, h2, h3, h4⟩
          rw [hp]
          clear hp
          go_enter Tryz.func201, Tryz.ntmps201
          go_wp2
          go_ret
          exact ⟨rfl, hb⟩
        · have hp : prZ (a, n, k) = false := by simp [prZ, h4]
          rw [hp]
          clear hp
          go_enter Tryz.func201, Tryz.ntmps201
          go_wp2
          go_ret
          exact ⟨rfl, hb⟩
      · have hp : prZ (a, n, k) = false := by simp [prZ, h3]
        rw [hp]
        clear hp
        go_enter Tryz.func201, Tryz.ntmps201
        go_wp2
        go_ret
        exact ⟨rfl, hb⟩
    · have hp : prZ (a, n, k) = false := by simp [prZ, h2]
      rw [hp]
      clear hp
      go_enter Tryz.func201, Tryz.ntmps201
      go_wp2
      go_ret
      exact ⟨rfl, hb⟩
  · have hp : prZ (a, n, k) = false := by simp [prZ, h1]
    rw [hp]
    clear hp
    go_enter Tryz.func201, Tryz.ntmps201
    go_wp2
    go_ret
    exact ⟨rfl, hb⟩
theorem end_any (a n k : Int) (w : World) (h : prZ (a, n, k) = true) : Calls Tryz.prog 202 #[.agg #[.int .i64 a, .int .i64 n, .int .i64 k]] w fun e w' => e = .returned (.int .i64 (a + n)) ∧ Below w.heap.size w w' := by
  have hb := below_made w (.cells #[.int .i64 a, .int .i64 n, .int .i64 k] 60)
  obtain ⟨h1, h2, h3, h4⟩ := prZ_iff.1 h
  simp only [] at h1 h2 h3 h4
  obtain ⟨s, hs⟩ : ∃ s, s = a + n := ⟨_, rfl⟩
  have hw : IntKind.i64.wrap (a + n) = s := (wrap_id (by omega) (by omega)).trans hs.symm
  have hw' : wrap64 (a + n) = s := (IntWalk.wrap64_in _ (by omega)).trans hs.symm
  rw [← hs]
  clear hs h
  go_enter Tryz.func202, Tryz.ntmps202
  go_wp2
  go_ret
  exact ⟨rfl, hb⟩
/-- Two runs compared. -/
theorem eq_run (a n k b m j : Int) (w : World) : (Op.equalIn 10000 60 (.agg #[.int .i64 a, .int .i64 n, .int .i64 k]) (.agg #[.int .i64 b, .int .i64 m, .int .i64 j])).run Tryz.prog w = .ok (a == b && (n == m && k == j)) w := by
  rw [show (10000 : Nat) = 9999 + 1 from rfl, run_equalIn_struct w 9999 60 _ _ (by kernel_rfl) (by kernel_rfl)]
  go_simp
  by_cases h0 : a = b
  case neg => simp [h0]
  subst h0
  by_cases h1 : n = m
  case neg => simp [h1]
  subst h1
  by_cases h2 : k = j
  case neg => simp [h2]
  subst h2
  simp
theorem two_boxes (w : World) (a n k b m j : Int) (w2 : World) (h2 : w2 = (w.alloc (.cells #[.int .i64 a, .int .i64 n, .int .i64 k] 60)).alloc (.cells #[.int .i64 b, .int .i64 m, .int .i64 j] 60)) :
    Below w.heap.size w w2 ∧ w.heap.size + 1 < w2.heap.size ∧ (∀ W, Below w2.heap.size w2 W →
      (W.cell? ⟨w.heap.size, 0, none⟩ = some (.int .i64 a) ∧ W.cell? ⟨w.heap.size, 1, none⟩ = some (.int .i64 n) ∧ W.cell? ⟨w.heap.size, 2, none⟩ = some (.int .i64 k)) ∧
      (W.cell? ⟨w.heap.size + 1, 0, none⟩ = some (.int .i64 b) ∧ W.cell? ⟨w.heap.size + 1, 1, none⟩ = some (.int .i64 m) ∧ W.cell? ⟨w.heap.size + 1, 2, none⟩ = some (.int .i64 j))) := by
  obtain ⟨o1, ho1⟩ : ∃ o, o = Obj.cells #[.int .i64 a, .int .i64 n, .int .i64 k] 60 := ⟨_, rfl⟩
  obtain ⟨o2, ho2⟩ : ∃ o, o = Obj.cells #[.int .i64 b, .int .i64 m, .int .i64 j] 60 := ⟨_, rfl⟩
  have e2 : w2 = (w.alloc o1).alloc o2 := by rw [h2, ho1, ho2]
  have z1 : (w.alloc o1).heap.size = w.heap.size + 1 := Array.size_push _
  have z2 : w2.heap.size = w.heap.size + 1 + 1 := by rw [e2]; exact (Array.size_push _).trans (by rw [z1])
  have n1 := heap_alloc_new w o1
  have n2 := heap_alloc_new (w.alloc o1) o2
  rw [z1] at n2
  have b1 := below_made w o1
  have b2 := below_made (w.alloc o1) o2
  have g1 : w2.heap[w.heap.size]? = some o1 := by rw [e2]; exact (b2.block _ (by omega)).trans n1
  have g2 : w2.heap[w.heap.size + 1]? = some o2 := by rw [e2]; exact n2
  refine ⟨by rw [e2]; exact b1.trans (b2.mono (by omega)), by omega, fun W hW => ?_⟩
  have k1 := (hW.block _ (by omega)).trans g1
  have k2 := (hW.block _ (by omega)).trans g2
  rw [ho1] at k1
  rw [ho2] at k2
  exact ⟨⟨(cell_block k1 0).trans rfl, (cell_block k1 1).trans rfl, (cell_block k1 2).trans rfl⟩, (cell_block k2 0).trans rfl, (cell_block k2 1).trans rfl, (cell_block k2 2).trans rfl⟩
end Go.Proofs.YtjjfihoplkddfaaGreatDoor.Reg

namespace Go.Proofs.YtjjfihoplkddfaaGreatDoor.Reg
open Go.RowKit
set_option linter.unusedVariables false

theorem keyInt : Maps.Keyed Tryz.prog 3 := Maps.int_keyed (q := .i64) (by kernel_rfl)
theorem undInt : Tryz.prog.underlying 3 = some (.int .i64) := by kernel_rfl
theorem undBool : Tryz.prog.underlying 4 = some .bool := by kernel_rfl
theorem undMap : Tryz.prog.underlying 230 = some (.map 3 4) := by kernel_rfl
theorem zeroBool (w : World) : (zeroValue 4).run Tryz.prog w = .ok (.bool false) w := by
  go_simp
def w64 (x : Int) : Prop := (Lit.int .i64 x).wf = true
theorem key_of {x : Int} (h : w64 x) : keyOf Tryz.prog 3 (.int .i64 x) = some (.int .i64 x) := Maps.keyOf_int_mk undInt h
/-- The block's map has just these numbers, each with true. -/
structure SetM (w : World) (b : Nat) (L : List Int) : Prop where
  nd : L.Nodup
  bd : ∀ x ∈ L, w64 x
  ex : ∃ (n : Nat) (D : DataW Unit), n ≤ 100000 + L.length ∧ w.ownsMap Tryz.prog 3 (plainElem Tryz.prog 4) b n D ∧ Maps.size D = L.length ∧
    ∀ x : Int, w64 x → Maps.has D (.int .i64 x) = decide (x ∈ L) ∧ D.atKey (.int .i64 x) (.lit (.bool false)) = .lit (.bool (decide (x ∈ L)))
theorem SetM.lt {w : World} {b : Nat} {L : List Int} (h : SetM w b L) : b < w.heap.size := by
  obtain ⟨n, D, h1, h2, -⟩ := h.ex
  exact h2.lt
theorem SetM.grown {w w' : World} {b : Nat} {L : List Int} {r : Option Nat} (h : SetM w b L) (hg : w.grownBy w' r) (hne : some b ≠ r) : SetM w' b L := by
  obtain ⟨n, D, h1, h2, h3⟩ := h.ex
  exact ⟨h.nd, h.bd, n, D, h1, h2.kept hg hne, h3⟩
theorem SetM.below {w w' : World} {b : Nat} {L : List Int} (h : SetM w b L) (hb : Below w.heap.size w w') : SetM w' b L :=
  h.grown (r := none) ⟨hb.os, hb.tape, hb.output, hb.size, fun k hk _ => hb.block k hk⟩ (by simp)
theorem SetM.made (w : World) : SetM (w.alloc (.map #[] 0)) w.heap.size [] :=
  ⟨List.nodup_nil, fun x hx => (by cases hx), 0, _, by omega, World.ownsMap_made w _ _ _, rfl, fun x _ => ⟨rfl, rfl⟩⟩
theorem SetM.look {w : World} {b : Nat} {L : List Int} (h : SetM w b L) {x : Int} (hx : w64 x) : (Instr.lookup 230 (.map (some b)) (.int .i64 x) false).run Tryz.prog w = .ok (.bool (decide (x ∈ L))) w := by
  obtain ⟨n, D, h1, h2, h3, h4⟩ := h.ex
  obtain ⟨v, ps, hr, hv⟩ := h2.lookup keyInt undMap (zeroBool w) (plainElem_bool undBool false) (key_of hx)
  rw [(h4 x hx).2] at hv
  rw [hr]
  have : v = .bool (decide (x ∈ L)) := by
    unfold plainElem at hv
    rw [undBool] at hv
    cases v <;> simp at hv
    simp [hv]
  rw [this]
theorem SetM.put {w : World} {b : Nat} {L : List Int} (h : SetM w b L) {x : Int} (hx : w64 x) (hn : x ∉ L) (hl : L.length ≤ 10000) : ∃ w', (Instr.mapUpdate 230 (.map (some b)) (.int .i64 x) (.bool true)).run Tryz.prog w = .ok () w' ∧ SetM w' b (L ++ [x]) ∧ w.grownBy w' (some b) := by
  obtain ⟨n, D, h1, h2, h3, h4⟩ := h.ex
  obtain ⟨w', hr, h5, h6⟩ := h2.update keyInt undMap (by unfold maxLen; omega) (key_of hx) (plainElem_bool undBool true)
  have ht := h2.tidy keyInt
  have hk : WideAt.IsKeyLit (.int .i64 x) := trivial
  refine ⟨w', hr, ⟨?_, ?_, n + 1, _, by rw [List.length_append, List.length_singleton]; omega, h5, ?_, fun y hy => ?_⟩, h6⟩
  · rw [List.nodup_append]
    exact ⟨h.nd, by simp, fun a ha c hc => by simp at hc; rintro rfl; exact hn (hc ▸ ha)⟩
  · intro y hy
    rcases List.mem_append.1 hy with q | q
    · exact h.bd y q
    · simp at q; rw [q]; exact hx
  · rw [Maps.size_put ht, (h4 x hx).1]
    simp [hn, h3]
  · by_cases e : y = x
    · subst e
      rw [Maps.has_put_same ht.isMap hk, Maps.atKey_put_same ht.isMap hk]
      simp
    · have hne : Lit.int .i64 y ≠ Lit.int .i64 x := by intro q; injection q with _ q; exact e q
      rw [Maps.has_put_other hne, Maps.atKey_put_other hne, (h4 y hy).1, (h4 y hy).2]
      simp [e]
theorem SetM.len {w : World} {b : Nat} {L : List Int} (h : SetM w b L) (ty : TypeId) : (Builtin.len_ #[230] ty #[.map (some b)]).run Tryz.prog w = .ok (.int .i64 (L.length : Int)) w := by
  obtain ⟨n, D, h1, h2, h3, h4⟩ := h.ex
  rw [h2.len undMap ty, h3]
theorem SetM.del {w : World} {b : Nat} {L : List Int} (h : SetM w b L) {x : Int} (hx : w64 x) (hm : x ∈ L) (ty : TypeId) : ∃ w', (Builtin.delete_ #[230, 3] ty #[.map (some b), .int .i64 x]).run Tryz.prog w = .ok (.tuple #[]) w' ∧ SetM w' b (L.erase x) ∧ w.grownBy w' (some b) := by
  obtain ⟨n, D, h1, h2, h3, h4⟩ := h.ex
  obtain ⟨w', hr, h5, h6⟩ := h2.drop keyInt undMap (key_of hx) ty
  have ht := h2.tidy keyInt
  have hlen := List.length_erase_of_mem hm
  have hpos := List.length_pos_of_mem hm
  refine ⟨w', hr, ⟨h.nd.erase x, fun y hy => h.bd y (List.mem_of_mem_erase hy), min n (100000 + (L.length - 1)), D.del (.int .i64 x), ?_, ?_, ?_, fun y hy => ?_⟩, h6.grown⟩
  · omega
  · obtain ⟨es, clock, q1, q2, q3, q4⟩ := h5
    refine ⟨es, clock, q1, q2, ?_, q4⟩
    have hsz : Maps.size (D.del (.int .i64 x)) = es.size := by
      rw [q4]; simp [Maps.size, length_sorted]
    have hs2 := Maps.size_del (k := .int .i64 x) ht
    rw [(h4 x hx).1] at hs2
    simp [hm] at hs2
    omega
  · have hs2 := Maps.size_del (k := .int .i64 x) ht
    rw [(h4 x hx).1] at hs2
    simp [hm] at hs2
    omega
  · by_cases e : y = x
    · subst e
      rw [Maps.has_del_same, Maps.atKey_del_same]
      have : y ∉ L.erase y := fun q => (h.nd.mem_erase_iff.1 q).1 rfl
      simp [this]
    · have hne : Lit.int .i64 y ≠ Lit.int .i64 x := by intro q; injection q with _ q; exact e q
      rw [Maps.has_del_other hne, Maps.atKey_del_other hne, (h4 y hy).1, (h4 y hy).2]
      simp [h.nd.mem_erase_iff, e]
end Go.Proofs.YtjjfihoplkddfaaGreatDoor.Reg

namespace Go.Proofs.YtjjfihoplkddfaaGreatDoor.Reg
open Go.RowKit
set_option linter.unusedVariables false

set_option maxRecDepth 100000 in
set_option maxHeartbeats 2000000 in
theorem continues_any (a n k b m j : Int) (w : World) : Calls Tryz.prog 256 #[.agg #[.int .i64 a, .int .i64 n, .int .i64 k], .agg #[.int .i64 b, .int .i64 m, .int .i64 j]] w fun e w' => e = .returned (.bool (cnZ (a, n, k) (b, m, j))) ∧ Below w.heap.size w w' := by
  have hP1 := fun W => proper_any a n k W
  have hP2 := fun W => proper_any b m j W
  have HX1 : Hid (∀ (W : World) (r : Bool) (x y z : Int), prZ (a, n, k) = r → x = a → y = n → z = k → Calls Tryz.prog 201 #[.agg #[.int .i64 x, .int .i64 y, .int .i64 z]] W fun e w' => e = .returned (.bool r) ∧ Below W.heap.size W w') := by rintro W r x y z rfl rfl rfl rfl; exact proper_any _ _ _ W
  have HX2 : Hid (∀ (W : World) (r : Bool) (x y z : Int), prZ (b, m, j) = r → x = b → y = m → z = j → Calls Tryz.prog 201 #[.agg #[.int .i64 x, .int .i64 y, .int .i64 z]] W fun e w' => e = .returned (.bool r) ∧ Below W.heap.size W w') := by rintro W r x y z rfl rfl rfl rfl; exact proper_any _ _ _ W
  have hE := fun W (h : prZ (a, n, k) = true) => end_any a n k W h
  obtain ⟨w2, hw2⟩ : ∃ w2, w2 = (w.alloc (.cells #[.int .i64 a, .int .i64 n, .int .i64 k] 60)).alloc (.cells #[.int .i64 b, .int .i64 m, .int .i64 j] 60) := ⟨_, rfl⟩
  obtain ⟨hB, hlt, hc⟩ := two_boxes w a n k b m j w2 hw2
  obtain ⟨⟨c0, c1, c2⟩, c3, c4, c5⟩ := hc w2 (Below.refl _ _)
  have k0 := Kept.cell c0 (show w.heap.size < w2.heap.size by omega)
  have k1 := Kept.cell c1 (show w.heap.size < w2.heap.size by omega)
  have k2 := Kept.cell c2 (show w.heap.size < w2.heap.size by omega)
  have k3 := Kept.cell c3 hlt
  have k4 := Kept.cell c4 hlt
  have k5 := Kept.cell c5 hlt
  have HB := Lib.hid hB
  clear hc c0 c1 c2 c3 c4 c5 hB
  have HW2 := Lib.hid hw2
  clear hw2
  cases hq : prZ (a, n, k) with
  | false =>
    have hr : cnZ (a, n, k) (b, m, j) = false := by simp [cnZ, hq]
    rw [hr]
    rw [hq] at hP1
    have HP1 := Lib.hid hP1
    clear hr hq hP1 hP2 hE
    go_enter Tryz.func256, Tryz.ntmps256
    go_wp2_with fail
    rw [← HW2.out]
    refine wp_region_kept (by kernel_rfl) (by kernel_rfl) ?_
    repeat (go_big_quiet_step ((go_at_call 201; exact Calls.kept_of (HP1.out _) (Nat.le_refl _))))
    refine wpQuiet_nil ?_
    intro _ hw'
    obtain ⟨kk, rfl⟩ := hw'
    go_wp2
    go_ret
    exact ⟨rfl, HB.out.trans (kk.below.mono HB.out.size)⟩
  | true =>
    cases hr : prZ (b, m, j) with
    | false =>
      have hr2 : cnZ (a, n, k) (b, m, j) = false := by simp [cnZ, hr]
      rw [hr2]
      rw [hq] at hP1
      rw [hr] at hP2
      have HQ := Lib.hid hq
      have HR := Lib.hid hr
      clear hr hr2 hq hP1 hP2 hE
      go_enter Tryz.func256, Tryz.ntmps256
      go_wp2_with fail
      rw [← HW2.out]
      refine wp_region_kept (by kernel_rfl) (by kernel_rfl) ?_
      repeat (go_big_quiet_step (first | (go_at_call 201; exact Calls.kept_of (HX1.out _ _ _ _ _ HQ.out rfl rfl rfl) (Nat.le_refl _)) | (go_at_call 201; exact Calls.kept_of (HX2.out _ _ _ _ _ HR.out rfl rfl rfl) (Nat.le_refl _))))
      refine wpQuiet_nil ?_
      intro _ hw'
      obtain ⟨kk, rfl⟩ := hw'
      go_wp2
      go_ret
      exact ⟨rfl, HB.out.trans (kk.below.mono HB.out.size)⟩
    | true =>
      obtain ⟨c, hc⟩ : ∃ c, c = cnZ (a, n, k) (b, m, j) := ⟨_, rfl⟩
      have hcc : (b == a + n && (m == m && j == k)) = c := by
        rw [hc, cnZ, hq, hr, Bool.true_and, Bool.true_and]
        rw [Bool.eq_iff_iff]
        simp
      rw [← hc]
      have hE1 := fun W => hE W hq
      rw [hq] at hP1
      rw [hr] at hP2
      obtain ⟨s, hs⟩ : ∃ s, s = a + n := ⟨_, rfl⟩
      rw [← hs] at hE1 hcc
      have HQ := Lib.hid hq
      have HR := Lib.hid hr
      have HE := Lib.hid hE1
      have heq : ∀ W, (Op.equalIn 10000 60 (.agg #[.int .i64 b, .int .i64 m, .int .i64 j]) (.agg #[.int .i64 s, .int .i64 m, .int .i64 k])).run Tryz.prog W = .ok c W := fun W => by rw [eq_run]; exact congrArg (Result.ok · W) hcc
      clear hr hq hP1 hP2 hE hE1 hc hs hcc
      go_enter Tryz.func256, Tryz.ntmps256
      go_wp2_with fail
      rw [← HW2.out]
      refine wp_region_kept (by kernel_rfl) (by kernel_rfl) ?_
      repeat (go_big_quiet_step (first | (go_at_call 201; exact Calls.kept_of (HX1.out _ _ _ _ _ HQ.out rfl rfl rfl) (Nat.le_refl _)) | (go_at_call 201; exact Calls.kept_of (HX2.out _ _ _ _ _ HR.out rfl rfl rfl) (Nat.le_refl _)) | (go_at_call 202; exact Calls.kept_of (HE.out _) (Nat.le_refl _))))
      refine wpQuiet_nil ?_
      intro _ hw'
      obtain ⟨kk, rfl⟩ := hw'
      go_wp2
      go_ret
      exact ⟨rfl, HB.out.trans (kk.below.mono HB.out.size)⟩
end Go.Proofs.YtjjfihoplkddfaaGreatDoor.Reg

namespace Go.Proofs.YtjjfihoplkddfaaGreatDoor.Reg
open Go.RowKit
set_option linter.unusedVariables false

theorem own_shape {w : World} {base n k : Nat} {t : TypeId} {v : Value} {xs : List Value} (h : w.ownsRow base t k v n xs) : ∃ p c, v = .slice p n c := by
  rcases h.2 with ⟨rfl, rfl⟩ | ⟨g, cap, cur, rfl, rest⟩
  · exact ⟨none, 0, rfl⟩
  · exact ⟨_, _, rfl⟩
/-- The cells of one run, and the box it was laid into. -/
theorem box_run (w : World) (a n k : Int) : (w.alloc (.cells #[.int .i64 a, .int .i64 n, .int .i64 k] 60)).cell? ⟨w.heap.size, 0, none⟩ = some (.int .i64 a) ∧ (w.alloc (.cells #[.int .i64 a, .int .i64 n, .int .i64 k] 60)).cell? ⟨w.heap.size, 1, none⟩ = some (.int .i64 n) ∧ (w.alloc (.cells #[.int .i64 a, .int .i64 n, .int .i64 k] 60)).cell? ⟨w.heap.size, 2, none⟩ = some (.int .i64 k) := by
  have hb := heap_alloc_new w (.cells #[.int .i64 a, .int .i64 n, .int .i64 k] 60)
  exact ⟨(cell_block hb 0).trans rfl, (cell_block hb 1).trans rfl, (cell_block hb 2).trans rfl⟩
theorem size_alloc1 (w : World) (o : Obj) : w.heap.size < (w.alloc o).heap.size := by
  have : (w.alloc o).heap.size = w.heap.size + 1 := Array.size_push _
  omega
/-- Runs that lie in new memory. -/
def ZOwn (w : World) (P : List RZ) (e : Ending) (w' : World) : Prop := ∃ u, e = .returned u ∧ Below w.heap.size w w' ∧ w'.ownsRow w.heap.size 60 3 u P.length (valsA encZ P)
set_option maxRecDepth 100000 in
set_option maxHeartbeats 4000000 in
theorem joined_any (v : Value) (P : List RZ) (w : World) (hr : ZRow w v P) (hP : P.length ≤ 1000000) : Calls Tryz.prog 200 #[v] w (ZOwn w (joinZ P)) := by
  obtain ⟨i0, hi, hz0, hz1, hz2⟩ := info_parts Lay.infoRun
  obtain ⟨a0, cap0, rfl, q2, q3, q5⟩ := id hr
  have HR := Lib.hid hr
  have HQ := Lib.hid q5
  have HC := Lib.hid (fun a n k b m j W => continues_any a n k b m j W)
  clear q5 hr
  go_enter Tryz.func200, Tryz.ntmps200
  go_wp2
  go_loopw [3, 9] (fun u i wr => ∃ (k : Nat) (L : List RZ), k ≤ P.length ∧ i = .int .i64 k ∧ Hid (L = joinZ (P.take k)) ∧ Hid (wr.ownsRow w.heap.size 60 3 u L.length (valsA encZ L)) ∧ Hid (Below w.heap.size w wr)) (fun _ i _ => P.length - (intOf i).toNat)
  case atStart => exact ⟨0, [], Nat.zero_le _, rfl, rfl, World.ownsRow_nil _ _ _ _, Below.refl _ _⟩
  case round =>
    obtain ⟨k, L, hk, rfl, HL, HO, HB⟩ := hrel
    by_cases hlt : k < P.length
    · have hlt1 : (k : Int) < (P.length : Int) := by omega
      have hlt0 : (0 : Int) ≤ (k : Int) := by omega
      have hkw : IntKind.i64.wrap ((k : Int) + 1) = ((k + 1 : Nat) : Int) := (wrap_id (by omega) (by omega)).trans (by omega)
      obtain ⟨b0, o0, rfl, hb0, -⟩ := HQ.out (by rintro rfl; simp at hlt)
      obtain ⟨d0, d1, d2⟩ := HR.out.cells hlt
      have hLl := joinZ_len P k
      have hjn := joinZ_take P k hlt
      rw [← HL.out] at hLl hjn
      obtain ⟨r, hr⟩ : ∃ r, r = P.getD k rz0 := ⟨_, rfl⟩
      rw [← hr] at d0 d1 d2 hjn
      obtain ⟨x1, x2, x3⟩ := r
      simp only [] at d0 d1 d2
      have e0 := (HB.out.cell (p := ⟨b0, o0 + k * 3, none⟩) hb0).trans d0
      have e1 := (HB.out.cell (p := ⟨b0, o0 + k * 3 + 1, none⟩) hb0).trans d1
      have e2 := (HB.out.cell (p := ⟨b0, o0 + k * 3 + 2, none⟩) hb0).trans d2
      have HJn := Lib.hid hjn.symm
      obtain ⟨g0, g1, g2⟩ := box_run wr x1 x2 x3
      have HB1 : Hid (Below w.heap.size w (wr.alloc (.cells #[.int .i64 x1, .int .i64 x2, .int .i64 x3] 60))) := HB.out.alloc HB.out.size _
      have hO1 := World.ownsRow.alloc HO.out (.cells #[.int .i64 x1, .int .i64 x2, .int .i64 x3] 60)
      clear d0 d1 d2 hr hjn HL HO HB
      rcases List.eq_nil_or_concat L with rfl | ⟨M, q, rfl⟩
      · obtain ⟨p, c, rfl⟩ := own_shape hO1
        have hd0 : decide ((0 : Int) ≤ -1) = false := by decide
        have HO1 : Hid (∀ j, ((wr.alloc (.cells #[.int .i64 x1, .int .i64 x2, .int .i64 x3] 60)).drewN j).ownsRow w.heap.size 60 3 (.slice p 0 c) 0 []) := fun j => hO1
        have HBj : Hid (∀ j, Below w.heap.size w ((wr.alloc (.cells #[.int .i64 x1, .int .i64 x2, .int .i64 x3] 60)).drewN j)) := fun j => below_drewN HB1.out j
        rw [jnZ_nil] at HJn
        clear hO1 HB1
        go_wp2_with fail
        generalize wr.alloc (.cells #[.int .i64 x1, .int .i64 x2, .int .i64 x3] 60) = W1 at *
        go_quiet (fail)
        have k0 : (W1.drewN nq).cell? ⟨wr.heap.size, 0, none⟩ = some (.int .i64 x1) := g0
        have k1 : (W1.drewN nq).cell? ⟨wr.heap.size, 1, none⟩ = some (.int .i64 x2) := g1
        have k2 : (W1.drewN nq).cell? ⟨wr.heap.size, 2, none⟩ = some (.int .i64 x3) := g2
        have hO2 := HO1.out nq
        have hB2 := HBj.out nq
        generalize W1.drewN nq = W2 at k0 k1 k2 hO2 hB2 ⊢
        clear g0 g1 g2 HO1 HBj e0 e1 e2
        go_wp2_with (at_builtin; refine wpList_append_own _ rfl (.tmp 36) (.tmp 38) 53 rfl w.heap.size 60 i0 (.agg #[.int .i64 0, .int .i64 0, .int .i64 0]) 3 24 Tryz.underlying53 hi hz0 hz1 hz2 rfl (by decide) _ _ _ rfl (World.ownsRow.alloc hO2 _) ⟨W2.heap.size, 0, none⟩ 1 1 [.int .i64 x1, .int .i64 x2, .int .i64 x3] rfl rfl (Lay.news_three _ _ _ _ _) (Lay.oneCell_three _ _ _) (by unfold maxLen; omega) (by omega) (le_alloc _ hB2.size) ?_)
        intro v3 w3 hown3 hgrow3 _
        have HN : Hid (w3.ownsRow w.heap.size 60 3 v3 (([] : List RZ) ++ [(x1, x2, x3)]).length (valsA encZ (([] : List RZ) ++ [(x1, x2, x3)]))) := by
          unfold Hid
          rw [valsA_snoc, List.length_append]
          exact hown3
        have HB3 : Hid (Below w.heap.size w w3) := (hB2.alloc hB2.size _).grown hgrow3 (le_alloc _ hB2.size) (fun r hr => (hO2.lt r hr).1)
        clear hown3 hgrow3 hO2 hB2
        go_wp2
        go_roundw
        case rel => exact ⟨k + 1, ([] : List RZ) ++ [(x1, x2, x3)], by omega, by go_num, HJn.out, HN.out, HB3.out⟩
        case measure => simp [intOf]; omega
      · rw [List.concat_eq_append] at *
        obtain ⟨q1, q2, q3⟩ := q
        obtain ⟨l, hl⟩ : ∃ l, l = M.length := ⟨_, rfl⟩
        rw [List.length_append, List.length_singleton] at hO1 hLl
        obtain ⟨g, c, rfl, hgc⟩ := own_some hO1
        obtain ⟨ho0, ⟨ho1, ho2, ho3⟩, ho4, ho5⟩ := own_three hO1
        simp only [] at ho1 ho2 ho3
        rw [← hl] at ho1 ho2 ho3 ho4 hLl
        have hnl : (l : Int) < ((M.length + 1 : Nat) : Int) := by omega
        have hl0 : (0 : Int) ≤ (l : Int) := by omega
        obtain ⟨n1, hn1⟩ : ∃ n1, n1 = M.length + 1 := ⟨_, rfl⟩
        rw [← hn1] at hnl hO1 hgc
        obtain ⟨hw1, hw2⟩ : IntKind.i64.wrap ((n1 : Int) - 1) = (l : Int) ∧ wrap64 ((n1 : Int) - 1) = (l : Int) := ⟨(wrap_id (by omega) (by omega)).trans (by omega), (IntWalk.wrap64_in _ (by omega)).trans (by omega)⟩
        have hd0 : decide ((0 : Int) ≤ (l : Int)) = true := by rw [decide_eq_true_iff]; exact hl0
        have hd0' : decide (0 ≤ l) = true := by rw [decide_eq_true_iff]; omega
        have hu : Value.slice (some ⟨g, 0, none⟩) (M.length + 1) c = .slice (some ⟨g, 0, none⟩) n1 c := by rw [hn1]
        rw [hu]
        have HHl : Hid (l = M.length ∧ n1 = M.length + 1) := ⟨hl, hn1⟩
        have hn1b : n1 ≤ 1000000 := by omega
        have hgl := size_alloc1 wr (.cells #[.int .i64 x1, .int .i64 x2, .int .i64 x3] 60)
        have hCq := fun W => HC.out q1 q2 q3 x1 x2 x3 W
        obtain ⟨b, hb⟩ : ∃ b, b = cnZ (q1, q2, q3) (x1, x2, x3) := ⟨_, rfl⟩
        rw [← hb] at hCq
        have HCq := Lib.hid hCq
        have HBb := Lib.hid hb
        have HO1 := Lib.hid hO1
        clear hl hn1 hu hCq hb hO1
        go_wp2_with fail
        generalize wr.alloc (.cells #[.int .i64 x1, .int .i64 x2, .int .i64 x3] 60) = W1 at *
        have t0 := Kept.cell g0 (show wr.heap.size < W1.heap.size by omega)
        have t1 := Kept.cell g1 (show wr.heap.size < W1.heap.size by omega)
        have t2 := Kept.cell g2 (show wr.heap.size < W1.heap.size by omega)
        have t3 := Kept.cell ho1 ho5
        have t4 := Kept.cell ho2 ho5
        have t5 := Kept.cell ho3 ho5
        clear e0 e1 e2
        refine wp_region_kept (by kernel_rfl) (by kernel_rfl) ?_
        repeat (go_big_quiet_step ((go_at_call 256; exact Calls.kept_of (HCq.out _) (Nat.le_refl _))))
        refine wpQuiet_nil ?_
        intro _ hw'
        obtain ⟨kk, rfl⟩ := hw'
        have hO2 := ownsRow_stays HO1.out kk.below
        have hB2 := HB1.out.trans (kk.below.mono HB1.out.size)
        have k0 := t0 kk
        have k1 := t1 kk
        have k2 := t2 kk
        have k3 := t3 kk
        have k4 := t4 kk
        have k5 := t5 kk
        have kf := Kept.frozen ho4 ho5 kk
        clear t0 t1 t2 t3 t4 t5 g0 g1 g2 ho1 ho2 ho3 ho4 ho5 HO1 HB1 hgl
        generalize kk.w = W2 at k0 k1 k2 k3 k4 k5 kf hO2 hB2 ⊢
        clear kk
        have hjs := HJn.out
        rw [jnZ_snoc, ← HBb.out] at hjs
        cases b with
        | false =>
          rw [if_neg (by decide)] at hjs
          have HJ2 := Lib.hid hjs
          clear hjs
          go_wp2_with (at_builtin; refine wpList_append_own _ rfl (.tmp 36) (.tmp 38) 53 rfl w.heap.size 60 i0 (.agg #[.int .i64 0, .int .i64 0, .int .i64 0]) 3 24 Tryz.underlying53 hi hz0 hz1 hz2 rfl (by decide) _ _ _ rfl (World.ownsRow.alloc hO2 _) ⟨W2.heap.size, 0, none⟩ 1 1 [.int .i64 x1, .int .i64 x2, .int .i64 x3] rfl rfl (Lay.news_three _ _ _ _ _) (Lay.oneCell_three _ _ _) (by unfold maxLen; omega) (by omega) (le_alloc _ hB2.size) ?_)
          intro v3 w3 hown3 hgrow3 _
          have HN : Hid (w3.ownsRow w.heap.size 60 3 v3 (M ++ [(q1, q2, q3)] ++ [(x1, x2, x3)]).length (valsA encZ (M ++ [(q1, q2, q3)] ++ [(x1, x2, x3)]))) := by
            unfold Hid
            rw [valsA_snoc, List.length_append, List.length_append, List.length_singleton, List.length_singleton, ← HHl.out.2]
            exact hown3
          have HB3 : Hid (Below w.heap.size w w3) := (hB2.alloc hB2.size _).grown hgrow3 (le_alloc _ hB2.size) (fun r hr => (hO2.lt r hr).1)
          clear hown3 hgrow3 hO2 hB2
          go_wp2
          go_roundw
          case rel => exact ⟨k + 1, M ++ [(q1, q2, q3)] ++ [(x1, x2, x3)], by omega, by go_num, HJ2.out, HN.out, HB3.out⟩
          case measure => simp [intOf]; omega
        | true =>
          rw [if_pos rfl] at hjs
          have HJ2 := Lib.hid hjs
          obtain ⟨hp1, hp2, -, -⟩ := cnZ_iff.1 HBb.out.symm
          have hp1 := prZ_iff.1 hp1
          have hp2 := prZ_iff.1 hp2
          simp only [] at hp1 hp2
          obtain ⟨s, hs⟩ : ∃ s, s = q2 + x2 := ⟨_, rfl⟩
          simp only [] at HJ2
          rw [← hs] at HJ2
          have hs1 : IntKind.i64.wrap (q2 + x2) = s := (wrap_id (by omega) (by omega)).trans hs.symm
          have hs2 : wrap64 (q2 + x2) = s := (IntWalk.wrap64_in _ (by omega)).trans hs.symm
          have HN : Hid ((W2.setCell ⟨g, l * 3 + 1, none⟩ (.int .i64 s)).ownsRow w.heap.size 60 3 (.slice (some ⟨g, 0, none⟩) n1 c) (M ++ [(q1, s, q3)]).length (valsA encZ (M ++ [(q1, s, q3)]))) := by
            have := hO2
            rw [HHl.out.2] at this
            have := own_set this s
            unfold Hid
            rw [HHl.out.1, HHl.out.2, List.length_append, List.length_singleton]
            exact this
          have HB3 : Hid (Below w.heap.size w (W2.setCell ⟨g, l * 3 + 1, none⟩ (.int .i64 s))) := hB2.setCell ho0 _
          clear hjs hs hO2 hB2 hp1 hp2
          go_wp2_with fail
          go_region
          go_wp2
          go_roundw
          case rel => exact ⟨k + 1, M ++ [(q1, s, q3)], by omega, by go_num, HJ2.out, HN.out, HB3.out.drew⟩
          case measure => simp [intOf]; omega
    · obtain rfl : k = P.length := by omega
      have HLL := HL.out
      rw [List.take_length] at HLL
      subst HLL
      go_wp2
      go_ret
      exact ⟨_, rfl, HB.out, HO.out⟩
end Go.Proofs.YtjjfihoplkddfaaGreatDoor.Reg

namespace Go.Proofs.YtjjfihoplkddfaaGreatDoor.Reg
open Go.RowKit
set_option linter.unusedVariables false

theorem prop_eq (W : World) (a n k : Int) (r : Bool) (h : prZ (a, n, k) = r) : Calls Tryz.prog 201 #[.agg #[.int .i64 a, .int .i64 n, .int .i64 k]] W fun e w' => e = .returned (.bool r) ∧ Below W.heap.size W w' := h ▸ proper_any a n k W
set_option maxRecDepth 100000 in
set_option maxHeartbeats 4000000 in
theorem tiles_any (v : Value) (P : List RZ) (n : Int) (w : World) (hr : ZRow w v P) : Calls Tryz.prog 111 #[v, .int .i64 n] w fun e w' => e = .returned (.bool (tilZ n P 0)) ∧ Below w.heap.size w w' := by
  obtain ⟨a0, cap0, rfl, q2, q3, q5⟩ := id hr
  have HR := Lib.hid hr
  have HQ := Lib.hid q5
  have hPl : (P.length : Int) ≤ 9223372036854775807 := by omega
  clear q5 hr
  go_enter Tryz.func111, Tryz.ntmps111
  go_wp2
  go_loopw [5, 10] (fun a i wr => ∃ (k : Nat) (at_ : Int), k ≤ P.length ∧ i = .int .i64 k ∧ a = .int .i64 at_ ∧ Hid (tilZ n (P.drop k) at_ = tilZ n P 0) ∧ Hid (Below w.heap.size w wr)) (fun _ i _ => P.length - (intOf i).toNat)
  case atStart => exact ⟨0, 0, Nat.zero_le _, rfl, rfl, rfl, Below.refl _ _⟩
  case round =>
    obtain ⟨k, at_, hk, rfl, rfl, HT, HB⟩ := hrel
    by_cases hlt : k < P.length
    · have hlt1 : (k : Int) < (P.length : Int) := by omega
      have hlt0 : (0 : Int) ≤ (k : Int) := by omega
      have hkw : IntKind.i64.wrap ((k : Int) + 1) = ((k + 1 : Nat) : Int) := (wrap_id (by omega) (by omega)).trans (by omega)
      obtain ⟨b0, o0, rfl, hb0, -⟩ := HQ.out (by rintro rfl; simp at hlt)
      obtain ⟨d0, d1, d2⟩ := HR.out.cells hlt
      have ht := HT.out
      rw [tilZ_drop hlt] at ht
      obtain ⟨r, hr⟩ : ∃ r, r = P.getD k rz0 := ⟨_, rfl⟩
      rw [← hr] at d0 d1 d2 ht
      obtain ⟨x1, x2, x3⟩ := r
      simp only [] at d0 d1 d2
      have e0 := (HB.out.cell (p := ⟨b0, o0 + k * 3, none⟩) hb0).trans d0
      have e1 := (HB.out.cell (p := ⟨b0, o0 + k * 3 + 1, none⟩) hb0).trans d1
      have e2 := (HB.out.cell (p := ⟨b0, o0 + k * 3 + 2, none⟩) hb0).trans d2
      obtain ⟨g0, g1, g2⟩ := box_run wr x1 x2 x3
      have hgl := size_alloc1 wr (.cells #[.int .i64 x1, .int .i64 x2, .int .i64 x3] 60)
      have HB1 : Hid (Below w.heap.size w (wr.alloc (.cells #[.int .i64 x1, .int .i64 x2, .int .i64 x3] 60))) := HB.out.alloc HB.out.size _
      clear d0 d1 d2 hr HT HB
      cases hp : prZ (x1, x2, x3) with
      | false =>
        rw [show okZ at_ (x1, x2, x3) = false by simp [okZ, hp], if_neg (by decide)] at ht
        have HTx := Lib.hid ht
        have HP := Lib.hid (fun W => prop_eq W x1 x2 x3 _ hp)
        clear hp ht
        go_wp2_with fail
        refine (HP.out _).mono ?_
        rintro e w1 ⟨rfl, hb1⟩
        have HB2 := Lib.hid (HB1.out.trans (hb1.mono HB1.out.size))
        clear hb1
        go_wp2
        go_ret
        exact ⟨by rw [← HTx.out]; rfl, HB2.out⟩
      | true =>
        have HP := Lib.hid (fun W => prop_eq W x1 x2 x3 _ hp)
        have HE := Lib.hid (fun W => end_any x1 x2 x3 W hp)
        have hpp := hp
        by_cases h1 : x1 = at_
        case neg =>
          have h1' : (x1 == at_) = false := by simp [h1]
          rw [show okZ at_ (x1, x2, x3) = false by simp [okZ, h1], if_neg (by decide)] at ht
          have HTx := Lib.hid ht
          clear hp ht hpp
          go_wp2_with fail
          refine (HP.out _).mono ?_
          rintro e w1 ⟨rfl, hb1⟩
          have HB2 := Lib.hid (HB1.out.trans (hb1.mono HB1.out.size))
          have k0 := (hb1.cell (p := ⟨wr.heap.size, 0, none⟩) hgl).trans g0
          have k1 := (hb1.cell (p := ⟨wr.heap.size, 1, none⟩) hgl).trans g1
          have k2 := (hb1.cell (p := ⟨wr.heap.size, 2, none⟩) hgl).trans g2
          clear hb1 g0 g1 g2 hgl e0 e1 e2
          go_wp2
          go_ret
          exact ⟨by rw [← HTx.out]; rfl, HB2.out⟩
        subst h1
        by_cases h2 : 1 ≤ x2
        case neg =>
          have h2' : x2 < 1 := by omega
          rw [show okZ x1 (x1, x2, x3) = false by simp [okZ, h2], if_neg (by decide)] at ht
          have HTx := Lib.hid ht
          clear hp ht hpp
          go_wp2_with fail
          refine (HP.out _).mono ?_
          rintro e w1 ⟨rfl, hb1⟩
          have HB2 := Lib.hid (HB1.out.trans (hb1.mono HB1.out.size))
          have k0 := (hb1.cell (p := ⟨wr.heap.size, 0, none⟩) hgl).trans g0
          have k1 := (hb1.cell (p := ⟨wr.heap.size, 1, none⟩) hgl).trans g1
          have k2 := (hb1.cell (p := ⟨wr.heap.size, 2, none⟩) hgl).trans g2
          clear hb1 g0 g1 g2 hgl e0 e1 e2
          go_wp2
          go_ret
          exact ⟨by rw [← HTx.out]; rfl, HB2.out⟩
        by_cases h3 : 1 ≤ x3
        case neg =>
          have h3' : x3 < 1 := by omega
          have h2' : ¬ x2 < 1 := by omega
          rw [show okZ x1 (x1, x2, x3) = false by simp [okZ, h3], if_neg (by decide)] at ht
          have HTx := Lib.hid ht
          clear hp ht hpp
          go_wp2_with fail
          refine (HP.out _).mono ?_
          rintro e w1 ⟨rfl, hb1⟩
          have HB2 := Lib.hid (HB1.out.trans (hb1.mono HB1.out.size))
          have k0 := (hb1.cell (p := ⟨wr.heap.size, 0, none⟩) hgl).trans g0
          have k1 := (hb1.cell (p := ⟨wr.heap.size, 1, none⟩) hgl).trans g1
          have k2 := (hb1.cell (p := ⟨wr.heap.size, 2, none⟩) hgl).trans g2
          clear hb1 g0 g1 g2 hgl e0 e1 e2
          go_wp2
          go_ret
          exact ⟨by rw [← HTx.out]; rfl, HB2.out⟩
        by_cases h4 : x3 ≤ 8
        case neg =>
          have h4' : 8 < x3 := by omega
          have h3' : ¬ x3 < 1 := by omega
          have h2' : ¬ x2 < 1 := by omega
          rw [show okZ x1 (x1, x2, x3) = false by simp [okZ, h4], if_neg (by decide)] at ht
          have HTx := Lib.hid ht
          clear hp ht hpp
          go_wp2_with fail
          refine (HP.out _).mono ?_
          rintro e w1 ⟨rfl, hb1⟩
          have HB2 := Lib.hid (HB1.out.trans (hb1.mono HB1.out.size))
          have k0 := (hb1.cell (p := ⟨wr.heap.size, 0, none⟩) hgl).trans g0
          have k1 := (hb1.cell (p := ⟨wr.heap.size, 1, none⟩) hgl).trans g1
          have k2 := (hb1.cell (p := ⟨wr.heap.size, 2, none⟩) hgl).trans g2
          clear hb1 g0 g1 g2 hgl e0 e1 e2
          go_wp2
          go_ret
          exact ⟨by rw [← HTx.out]; rfl, HB2.out⟩
        have h4' : ¬ 8 < x3 := by omega
        have h3' : ¬ x3 < 1 := by omega
        have h2' : ¬ x2 < 1 := by omega
        rw [show okZ x1 (x1, x2, x3) = true from okZ_iff.2 ⟨hp, rfl, h2, h3, h4⟩, if_pos rfl] at ht
        simp only [] at ht
        obtain ⟨s, hs⟩ : ∃ s, s = x1 + x2 := ⟨_, rfl⟩
        rw [← hs] at ht
        have HE2 := HE
        rw [← hs] at HE2
        have HT2 := Lib.hid ht
        clear hp ht hpp hs HE
        go_wp2_with fail
        refine (HP.out _).mono ?_
        rintro e w1 ⟨rfl, hb1⟩
        have HB2 := Lib.hid (HB1.out.trans (hb1.mono HB1.out.size))
        have k0 := (hb1.cell (p := ⟨wr.heap.size, 0, none⟩) hgl).trans g0
        have k1 := (hb1.cell (p := ⟨wr.heap.size, 1, none⟩) hgl).trans g1
        have k2 := (hb1.cell (p := ⟨wr.heap.size, 2, none⟩) hgl).trans g2
        clear hb1 g0 g1 g2 hgl e0 e1 e2
        go_wp2_with fail
        refine (HE2.out _).mono ?_
        rintro e w2 ⟨rfl, hb2⟩
        have HB3 := Lib.hid (HB2.out.trans (hb2.mono HB2.out.size))
        clear hb2 k0 k1 k2
        go_wp2
        go_roundw
        case rel => exact ⟨k + 1, s, by omega, by go_num, rfl, HT2.out, HB3.out⟩
        case measure => simp [intOf]; omega
    · obtain rfl : k = P.length := by omega
      have ht := HT.out
      rw [List.drop_of_length_le (Nat.le_refl _)] at ht
      have HTx := Lib.hid ht
      clear ht
      go_wp2
      go_ret
      exact ⟨by rw [← HTx.out]; rfl, HB.out⟩
set_option maxRecDepth 100000 in
set_option maxHeartbeats 4000000 in
theorem at_any (v : Value) (P : List RZ) (a : Int) (w : World) (hr : ZRow w v P) : Calls Tryz.prog 112 #[v, .int .i64 a] w fun e w' => e = .returned (.int .i64 (atZ a P)) ∧ Below w.heap.size w w' := by
  obtain ⟨a0, cap0, rfl, q2, q3, q5⟩ := id hr
  have HR := Lib.hid hr
  have HQ := Lib.hid q5
  have hPl : (P.length : Int) ≤ 9223372036854775807 := by omega
  clear q5 hr
  go_enter Tryz.func112, Tryz.ntmps112
  go_wp2
  go_loopw [9] (fun i wr => ∃ k : Nat, k ≤ P.length ∧ i = .int .i64 k ∧ Hid (atZ a (P.drop k) = atZ a P) ∧ Hid (Below w.heap.size w wr)) (fun i _ => P.length - (intOf i).toNat)
  case atStart => exact ⟨0, Nat.zero_le _, rfl, rfl, Below.refl _ _⟩
  case round =>
    obtain ⟨k, hk, rfl, HT, HB⟩ := hrel
    by_cases hlt : k < P.length
    · have hlt1 : (k : Int) < (P.length : Int) := by omega
      have hlt0 : (0 : Int) ≤ (k : Int) := by omega
      have hkw : IntKind.i64.wrap ((k : Int) + 1) = ((k + 1 : Nat) : Int) := (wrap_id (by omega) (by omega)).trans (by omega)
      obtain ⟨b0, o0, rfl, hb0, -⟩ := HQ.out (by rintro rfl; simp at hlt)
      obtain ⟨d0, d1, d2⟩ := HR.out.cells hlt
      have ht := HT.out
      rw [atZ_drop hlt] at ht
      obtain ⟨r, hr⟩ : ∃ r, r = P.getD k rz0 := ⟨_, rfl⟩
      rw [← hr] at d0 d1 d2 ht
      obtain ⟨x1, x2, x3⟩ := r
      simp only [] at d0 d1 d2
      have e0 := (HB.out.cell (p := ⟨b0, o0 + k * 3, none⟩) hb0).trans d0
      have e1 := (HB.out.cell (p := ⟨b0, o0 + k * 3 + 1, none⟩) hb0).trans d1
      have e2 := (HB.out.cell (p := ⟨b0, o0 + k * 3 + 2, none⟩) hb0).trans d2
      obtain ⟨g0, g1, g2⟩ := box_run wr x1 x2 x3
      have hgl := size_alloc1 wr (.cells #[.int .i64 x1, .int .i64 x2, .int .i64 x3] 60)
      have HB1 : Hid (Below w.heap.size w (wr.alloc (.cells #[.int .i64 x1, .int .i64 x2, .int .i64 x3] 60))) := HB.out.alloc HB.out.size _
      clear d0 d1 d2 hr HT HB
      cases hp : prZ (x1, x2, x3) with
      | false =>
        rw [show (prZ (x1, x2, x3) && (decide (x1 ≤ a) && decide (a < x1 + x2))) = false by simp [hp], if_neg (by decide)] at ht
        have HP := Lib.hid (fun W => prop_eq W x1 x2 x3 _ hp)
        have HT2 := Lib.hid ht
        clear hp ht
        go_wp2_with fail
        refine (HP.out _).mono ?_
        rintro e w1 ⟨rfl, hb1⟩
        have HB2 := Lib.hid (HB1.out.trans (hb1.mono HB1.out.size))
        clear hb1
        go_wp2
        go_roundw
        case rel => exact ⟨k + 1, by omega, by go_num, HT2.out, HB2.out⟩
        case measure => simp [intOf]; omega
      | true =>
        have HP := Lib.hid (fun W => prop_eq W x1 x2 x3 _ hp)
        have HE := Lib.hid (fun W => end_any x1 x2 x3 W hp)
        by_cases h1 : x1 ≤ a
        case neg =>
          rw [show (prZ (x1, x2, x3) && (decide (x1 ≤ a) && decide (a < x1 + x2))) = false by simp [h1], if_neg (by decide)] at ht
          have HT2 := Lib.hid ht
          clear hp ht
          go_wp2_with fail
          refine (HP.out _).mono ?_
          rintro e w1 ⟨rfl, hb1⟩
          have HB2 := Lib.hid (HB1.out.trans (hb1.mono HB1.out.size))
          have k0 := (hb1.cell (p := ⟨wr.heap.size, 0, none⟩) hgl).trans g0
          have k1 := (hb1.cell (p := ⟨wr.heap.size, 1, none⟩) hgl).trans g1
          have k2 := (hb1.cell (p := ⟨wr.heap.size, 2, none⟩) hgl).trans g2
          have hgl2 := Nat.lt_of_lt_of_le hgl hb1.size
          clear hb1 g0 g1 g2 hgl e0 e1 e2
          go_wp2
          go_roundw
          case rel => exact ⟨k + 1, by omega, by go_num, HT2.out, HB2.out⟩
          case measure => simp [intOf]; omega
        obtain ⟨s, hs⟩ : ∃ s, s = x1 + x2 := ⟨_, rfl⟩
        have HE2 := HE
        rw [← hs] at HE2
        by_cases h2 : a < s
        case neg =>
          rw [show (prZ (x1, x2, x3) && (decide (x1 ≤ a) && decide (a < x1 + x2))) = false by rw [← hs]; simp [h2], if_neg (by decide)] at ht
          have HT2 := Lib.hid ht
          clear hs HE
          clear hp ht
          go_wp2_with fail
          refine (HP.out _).mono ?_
          rintro e w1 ⟨rfl, hb1⟩
          have HB2 := Lib.hid (HB1.out.trans (hb1.mono HB1.out.size))
          have k0 := (hb1.cell (p := ⟨wr.heap.size, 0, none⟩) hgl).trans g0
          have k1 := (hb1.cell (p := ⟨wr.heap.size, 1, none⟩) hgl).trans g1
          have k2 := (hb1.cell (p := ⟨wr.heap.size, 2, none⟩) hgl).trans g2
          have hgl2 := Nat.lt_of_lt_of_le hgl hb1.size
          clear hb1 g0 g1 g2 hgl e0 e1 e2
          go_wp2_with fail
          refine (HE2.out _).mono ?_
          rintro e w2 ⟨rfl, hb2⟩
          have HB3 := Lib.hid (HB2.out.trans (hb2.mono HB2.out.size))
          have l2 := (hb2.cell (p := ⟨wr.heap.size, 2, none⟩) hgl2).trans k2
          clear hb2 k0 k1 k2
          go_wp2
          go_roundw
          case rel => exact ⟨k + 1, by omega, by go_num, HT2.out, HB3.out⟩
          case measure => simp [intOf]; omega
        rw [show (prZ (x1, x2, x3) && (decide (x1 ≤ a) && decide (a < x1 + x2))) = true by rw [← hs]; simp [hp, h1, h2], if_pos rfl] at ht
        have HTx := Lib.hid ht
        clear hs HE
        clear hp ht
        go_wp2_with fail
        refine (HP.out _).mono ?_
        rintro e w1 ⟨rfl, hb1⟩
        have HB2 := Lib.hid (HB1.out.trans (hb1.mono HB1.out.size))
        have k0 := (hb1.cell (p := ⟨wr.heap.size, 0, none⟩) hgl).trans g0
        have k1 := (hb1.cell (p := ⟨wr.heap.size, 1, none⟩) hgl).trans g1
        have k2 := (hb1.cell (p := ⟨wr.heap.size, 2, none⟩) hgl).trans g2
        have hgl2 := Nat.lt_of_lt_of_le hgl hb1.size
        clear hb1 g0 g1 g2 hgl e0 e1 e2
        go_wp2_with fail
        refine (HE2.out _).mono ?_
        rintro e w2 ⟨rfl, hb2⟩
        have HB3 := Lib.hid (HB2.out.trans (hb2.mono HB2.out.size))
        have l2 := (hb2.cell (p := ⟨wr.heap.size, 2, none⟩) hgl2).trans k2
        clear hb2 k0 k1 k2
        go_wp2
        go_ret
        exact ⟨by rw [← HTx.out]; rfl, HB3.out⟩
    · obtain rfl : k = P.length := by omega
      have ht := HT.out
      rw [List.drop_of_length_le (Nat.le_refl _)] at ht
      have HTx := Lib.hid ht
      clear ht
      go_wp2
      go_ret
      exact ⟨by rw [← HTx.out]; rfl, HB.out⟩
end Go.Proofs.YtjjfihoplkddfaaGreatDoor.Reg

namespace Go.Proofs.YtjjfihoplkddfaaGreatDoor.Reg
open Go.RowKit
set_option linter.unusedVariables false

end Go.Proofs.YtjjfihoplkddfaaGreatDoor.Reg

namespace Go.Proofs.YtjjfihoplkddfaaGreatDoor.Reg
open Go.RowKit
set_option linter.unusedVariables false

end Go.Proofs.YtjjfihoplkddfaaGreatDoor.Reg
