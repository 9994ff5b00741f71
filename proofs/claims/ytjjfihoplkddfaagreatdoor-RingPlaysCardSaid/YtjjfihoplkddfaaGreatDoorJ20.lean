/- Plain mathematics of runs: proper ones, joined ones, tiles, kinds of places. Runs, one by one: proper, their ends; what goes on where another one ends. A map of numbers to true: which numbers are in it. -/
import Derived.Test.YtjjfihoplkddfaaGreatDoorJ6
import Derived.Test.YtjjfihoplkddfaaGreatDoorJ3
import Derived.Laws.StructEq
import Derived.Maps.OwnSet
namespace Go.Proofs.YtjjfihoplkddfaaGreatDoor.Reg
open Go.RowKit
set_option linter.unusedVariables false

/-- A run: where, how long, of which kind. -/
abbrev RZ := Int × Int × Int
def encZ (r : RZ) : List Value := [.int .i64 r.1, .int .i64 r.2.1, .int .i64 r.2.2]
abbrev rz0 : RZ := (0, 0, 0)
abbrev ZRow := ARow 3 encZ rz0
theorem ZRow.cells {w : World} {b o n c : Nat} {P : List RZ} (h : ZRow w (.slice (some ⟨b, o, none⟩) n c) P) {k : Nat} (hk : k < P.length) :
    w.cell? ⟨b, o + k * 3, none⟩ = some (.int .i64 (P.getD k rz0).1) ∧ w.cell? ⟨b, o + k * 3 + 1, none⟩ = some (.int .i64 (P.getD k rz0).2.1) ∧ w.cell? ⟨b, o + k * 3 + 2, none⟩ = some (.int .i64 (P.getD k rz0).2.2) := by
  obtain ⟨a, cap, e, h2, h3, h5⟩ := h
  obtain ⟨b', o', rfl, hlt, hc⟩ := h5 (by rintro rfl; simp at hk)
  injection e with e
  injection e with e
  injection e with e1 e2
  subst e1 e2
  exact ⟨hc k hk 0 _ rfl, hc k hk 1 _ rfl, hc k hk 2 _ rfl⟩
end Go.Proofs.YtjjfihoplkddfaaGreatDoor.Reg

namespace Go.Proofs.YtjjfihoplkddfaaGreatDoor.Reg
open Go.RowKit
set_option linter.unusedVariables false

theorem wrap_id {n : Int} (h0 : -9223372036854775808 ≤ n) (h1 : n ≤ 9223372036854775807) : IntKind.i64.wrap n = n := by
  rw [IntWalk.i64_left]; exact IntWalk.wrap64_in _ ⟨h0, h1⟩
end Go.Proofs.YtjjfihoplkddfaaGreatDoor.Reg

namespace Go.Proofs.YtjjfihoplkddfaaGreatDoor.Reg
open Go.RowKit
set_option linter.unusedVariables false

theorem keyInt : Maps.Keyed Tryz.prog 3 := Maps.int_keyed (q := .i64) (by kernel_rfl)
theorem undInt : Tryz.prog.underlying 3 = some (.int .i64) := by kernel_rfl
theorem undBool : Tryz.prog.underlying 4 = some .bool := by kernel_rfl
theorem undMap : Tryz.prog.underlying 230 = some (.map 3 4) := by kernel_rfl
theorem zeroBool (w : World) : (zeroValue 4).run Tryz.prog w = .ok (.bool false) w := by
  go_simp
def w64 (x : Int) : Prop := (Lit.int .i64 x).wf = true
theorem key_of {x : Int} (h : w64 x) : keyOf Tryz.prog 3 (.int .i64 x) = some (.int .i64 x) := Maps.keyOf_int_mk undInt h
/-- The block's map has just these numbers, each with true. -/
structure SetM (w : World) (b : Nat) (L : List Int) : Prop where
  nd : L.Nodup
  bd : ∀ x ∈ L, w64 x
  ex : ∃ (n : Nat) (D : DataW Unit), n ≤ 100000 + L.length ∧ w.ownsMap Tryz.prog 3 (plainElem Tryz.prog 4) b n D ∧ Maps.size D = L.length ∧
    ∀ x : Int, w64 x → Maps.has D (.int .i64 x) = decide (x ∈ L) ∧ D.atKey (.int .i64 x) (.lit (.bool false)) = .lit (.bool (decide (x ∈ L)))
theorem SetM.lt {w : World} {b : Nat} {L : List Int} (h : SetM w b L) : b < w.heap.size := by
  obtain ⟨n, D, h1, h2, -⟩ := h.ex
  exact h2.lt
theorem SetM.grown {w w' : World} {b : Nat} {L : List Int} {r : Option Nat} (h : SetM w b L) (hg : w.grownBy w' r) (hne : some b ≠ r) : SetM w' b L := by
  obtain ⟨n, D, h1, h2, h3⟩ := h.ex
  exact ⟨h.nd, h.bd, n, D, h1, h2.kept hg hne, h3⟩
theorem SetM.below {w w' : World} {b : Nat} {L : List Int} (h : SetM w b L) (hb : Below w.heap.size w w') : SetM w' b L :=
  h.grown (r := none) ⟨hb.os, hb.tape, hb.output, hb.size, fun k hk _ => hb.block k hk⟩ (by simp)
theorem SetM.made (w : World) : SetM (w.alloc (.map #[] 0)) w.heap.size [] :=
  ⟨List.nodup_nil, fun x hx => (by cases hx), 0, _, by omega, World.ownsMap_made w _ _ _, rfl, fun x _ => ⟨rfl, rfl⟩⟩
theorem SetM.look {w : World} {b : Nat} {L : List Int} (h : SetM w b L) {x : Int} (hx : w64 x) : (Instr.lookup 230 (.map (some b)) (.int .i64 x) false).run Tryz.prog w = .ok (.bool (decide (x ∈ L))) w := by
  obtain ⟨n, D, h1, h2, h3, h4⟩ := h.ex
  obtain ⟨v, ps, hr, hv⟩ := h2.lookup keyInt undMap (zeroBool w) (plainElem_bool undBool false) (key_of hx)
  rw [(h4 x hx).2] at hv
  rw [hr]
  have : v = .bool (decide (x ∈ L)) := by
    unfold plainElem at hv
    rw [undBool] at hv
    cases v <;> simp at hv
    simp [hv]
  rw [this]
theorem SetM.put {w : World} {b : Nat} {L : List Int} (h : SetM w b L) {x : Int} (hx : w64 x) (hn : x ∉ L) (hl : L.length ≤ 10000) : ∃ w', (Instr.mapUpdate 230 (.map (some b)) (.int .i64 x) (.bool true)).run Tryz.prog w = .ok () w' ∧ SetM w' b (L ++ [x]) ∧ w.grownBy w' (some b) := by
  obtain ⟨n, D, h1, h2, h3, h4⟩ := h.ex
  obtain ⟨w', hr, h5, h6⟩ := h2.update keyInt undMap (by unfold maxLen; omega) (key_of hx) (plainElem_bool undBool true)
  have ht := h2.tidy keyInt
  have hk : WideAt.IsKeyLit (.int .i64 x) := trivial
  refine ⟨w', hr, ⟨?_, ?_, n + 1, _, by rw [List.length_append, List.length_singleton]; omega, h5, ?_, fun y hy => ?_⟩, h6⟩
  · rw [List.nodup_append]
    exact ⟨h.nd, by simp, fun a ha c hc => by simp at hc; rintro rfl; exact hn (hc ▸ ha)⟩
  · intro y hy
    rcases List.mem_append.1 hy with q | q
    · exact h.bd y q
    · simp at q; rw [q]; exact hx
  · rw [Maps.size_put ht, (h4 x hx).1]
    simp [hn, h3]
  · by_cases e : y = x
    · subst e
      rw [Maps.has_put_same ht.isMap hk, Maps.atKey_put_same ht.isMap hk]
      simp
    · have hne : Lit.int .i64 y ≠ Lit.int .i64 x := by intro q; injection q with _ q; exact e q
      rw [Maps.has_put_other hne, Maps.atKey_put_other hne, (h4 y hy).1, (h4 y hy).2]
      simp [e]
theorem SetM.len {w : World} {b : Nat} {L : List Int} (h : SetM w b L) (ty : TypeId) : (Builtin.len_ #[230] ty #[.map (some b)]).run Tryz.prog w = .ok (.int .i64 (L.length : Int)) w := by
  obtain ⟨n, D, h1, h2, h3, h4⟩ := h.ex
  rw [h2.len undMap ty, h3]
theorem SetM.del {w : World} {b : Nat} {L : List Int} (h : SetM w b L) {x : Int} (hx : w64 x) (hm : x ∈ L) (ty : TypeId) : ∃ w', (Builtin.delete_ #[230, 3] ty #[.map (some b), .int .i64 x]).run Tryz.prog w = .ok (.tuple #[]) w' ∧ SetM w' b (L.erase x) ∧ w.grownBy w' (some b) := by
  obtain ⟨n, D, h1, h2, h3, h4⟩ := h.ex
  obtain ⟨w', hr, h5, h6⟩ := h2.drop keyInt undMap (key_of hx) ty
  have ht := h2.tidy keyInt
  have hlen := List.length_erase_of_mem hm
  have hpos := List.length_pos_of_mem hm
  refine ⟨w', hr, ⟨h.nd.erase x, fun y hy => h.bd y (List.mem_of_mem_erase hy), min n (100000 + (L.length - 1)), D.del (.int .i64 x), ?_, ?_, ?_, fun y hy => ?_⟩, h6.grown⟩
  · omega
  · obtain ⟨es, clock, q1, q2, q3, q4⟩ := h5
    refine ⟨es, clock, q1, q2, ?_, q4⟩
    have hsz : Maps.size (D.del (.int .i64 x)) = es.size := by
      rw [q4]; simp [Maps.size, length_sorted]
    have hs2 := Maps.size_del (k := .int .i64 x) ht
    rw [(h4 x hx).1] at hs2
    simp [hm] at hs2
    omega
  · have hs2 := Maps.size_del (k := .int .i64 x) ht
    rw [(h4 x hx).1] at hs2
    simp [hm] at hs2
    omega
  · by_cases e : y = x
    · subst e
      rw [Maps.has_del_same, Maps.atKey_del_same]
      have : y ∉ L.erase y := fun q => (h.nd.mem_erase_iff.1 q).1 rfl
      simp [this]
    · have hne : Lit.int .i64 y ≠ Lit.int .i64 x := by intro q; injection q with _ q; exact e q
      rw [Maps.has_del_other hne, Maps.atKey_del_other hne, (h4 y hy).1, (h4 y hy).2]
      simp [h.nd.mem_erase_iff, e]
end Go.Proofs.YtjjfihoplkddfaaGreatDoor.Reg
