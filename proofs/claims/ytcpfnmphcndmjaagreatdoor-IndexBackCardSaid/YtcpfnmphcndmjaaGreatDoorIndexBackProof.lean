/-
  The statement IndexBack holds: whatever the acts and the block, the call answers true, and its arguments read afterwards as before. The package variables class.sizes, memory.places, head.places and head.order are listed, and tied to the program's text. No conditions.
-/
import Derived.Test.YtcpfnmphcndmjaaGreatDoorRows
import Derived.Test.YtcpfnmphcndmjaaGreatDoorJ21
import Derived.WalkKit
import Derived.ProofKit
import Derived.OpenShut
import Derived.ShutString
import Derived.SliceStrings
import Derived.ChangeOld
import Derived.Below
import Derived.LaidMore
import Derived.Lay
import Derived.SevenTiedAt
import Derived.Stop.Joined
import Derived.Test.YtcpfnmphcndmjaaGreatDoorJ1
import Derived.Test.YtcpfnmphcndmjaaGreatDoorTie
import Derived.Test.YtcpfnmphcndmjaaGreatDoorCards
namespace Go.Proofs.YtcpfnmphcndmjaaGreatDoor.indexBack
open Go.ChangeShapes Go.WideShapes Go.ChangeAt Go.RowKit
open Go.ChangeMaps (open_string shut_string)
set_option linter.unusedVariables false

theorem own : ownKnob Tryz.prog.godebug = none := by kernel_rfl
theorem laidOut : laidOutB Tryz.prog = true := by kernel_rfl

/-- A slice of integers that came in. -/
def IsRow (k : IntKind) (w : World) (a : Option Addr) (len cap : Nat) (zs : List Int) : Prop :=
  (a = none ∧ len = 0 ∧ cap = 0 ∧ zs = []) ∨
  ∃ x, a = some x ∧ len ≤ cap ∧ cap ≤ maxLen ∧ zs.length = cap ∧ (∀ i, i < zs.length → w.cell? (x.add i) = some (.int k (zs.getD i 0))) ∧ ∀ n ∈ zs, (Lit.int k n).wf = true
/-- A slice of texts that came in. -/
def IsTexts (w : World) (a : Option Addr) (len cap : Nat) (zs : List ByteArray) : Prop :=
  (a = none ∧ len = 0 ∧ cap = 0 ∧ zs = []) ∨
  ∃ x, a = some x ∧ len ≤ cap ∧ cap ≤ maxLen ∧ zs.length = cap ∧ (∀ i, i < zs.length → w.cell? (x.add i) = some (.string (zs.getD i ByteArray.empty))) ∧ ∀ s ∈ zs, s.size ≤ maxLen

theorem walk (x0 : Value × List Ind.Act) (x1 : Ind.Rb) (w : World) (w0 : Ind.ActRow w x0.1 x0.2) (w1 : x1.Ty) (hsh : w.ShapedOpen Tryz.prog) (hl : laidMetH Tryz.prog Rows.indexBackRow.laid w) :
    Calls Tryz.prog 5 #[x0.1, x1.agg] w fun e w' => e = .returned (.bool true) ∧ Below w.heap.size w w' := by
  exact Ind.indexBack_walk x0.1 x0.2 x1 w ⟨⟨Mem.tabP_of (by kernel_rfl) (.tail _ (.head _)) hl, Cls.tab_of (by kernel_rfl) (.head _) hl⟩, Hea.tab_of (by kernel_rfl) (.tail _ (.tail _ (.head _))) (.tail _ (.tail _ (.tail _ (.head _)))) hl⟩ w0 w1

set_option maxRecDepth 100000 in
theorem lifted (os : Os) (started : os.Started) (H : Type) (enc : TypeId × Value → H) :
    ReturnsInHanded {} Tryz.checked os 5 .any (fun w args => (Rows.indexBackSpec.pre enc Tryz.prog Tryz.f5 Rows.indexBackRow.domain false w args ∧ laidMetH Tryz.prog Rows.indexBackRow.laid w) ∧ sizedMet enc Tryz.prog Tryz.f5 (OpenSpec.ofChange Rows.indexBackSpec) false w args) (Rows.indexBackSpec.post enc Tryz.prog Tryz.f5 false true false false) := by
  refine wrap_listed_shaped (C := Tryz.checked) (X := fun w _ => laidMetH Tryz.prog Rows.indexBackRow.laid w) (fun _ _ _ hh h => h.of_heap hh) own started (by kernel_rfl) Tryz.func5
    (ChangeSpec.witness_shaped (enc := enc) (C := Tryz.checked) (os := os) (X := fun w _ => laidMetH Tryz.prog Rows.indexBackRow.laid w) false (World.laidAll Tryz.prog os Rows.indexBackRow.laid) #[.slice none 0 0, .agg #[.int .i64 0, .bool false, .int .u32 0, .int .u16 0, .string ByteArray.empty, .int .u32 0]] 8 (World.laidAll_os _ _ _)
      (World.shaped_of_ZipB (by kernel_rfl) (by kernel_rfl)) (by kernel_rfl) (by kernel_rfl) (by kernel_rfl)
      (by rw [MakeChecks.laidMetH_plain _ _ _ (by kernel_rfl)]; exact laidMet_laidAll _ (by kernel_rfl) (by kernel_rfl))) ?_
  intro W base args ds gs before hval0 hW _ _ hsh hX _
  have hval : ∀ (j : Nat) t v, Tryz.f5.params[j]? = some t → args[j]? = some v → Value.okWide Tryz.prog W .any base t v := hval0
  have hW' := hW
  obtain ⟨p, q, hA0, hV, rfl, hfz, hnd⟩ := hW
  have hA : DataW.TrodAll enc Tryz.prog W 0 (fun _ => true) true Tryz.f5.params.toList args.toList ds p := hA0
  rw [Tryz.params5] at hA hval
  obtain ⟨v0, vs0, d0, ds0, p0, q0, hargs, rfl, rfl, h0, r0⟩ := trodAll_cons hA
  obtain ⟨v1, vs1, d1, ds1, p1, q1, rfl, rfl, rfl, h1, r1⟩ := trodAll_cons r0
  obtain ⟨rfl, rfl, rfl⟩ := trodAll_nil r1
  obtain rfl : args = #[v0, v1] := by cases args; simp_all
  obtain ⟨rfl, rfl⟩ := trodVars_none hV
  have k0 := h0
  have lt0 : ∀ x ∈ p0, x.block < W.heap.size := by obtain ⟨m, hm⟩ := k0; exact DataW.trod_lt m _ _ _ hm
  obtain ⟨x0, rfl, w0⟩ := Ind.open_acts (hval 0 22 v0 rfl rfl) h0
  have k1 := h1
  have lt1 : ∀ x ∈ p1, x.block < W.heap.size := by obtain ⟨m, hm⟩ := k1; exact DataW.trod_lt m _ _ _ hm
  obtain ⟨x1, rfl, w1⟩ := Ind.rb_shape (hval 1 33 v1 rfl rfl) h1
  clear hA0 hval0
  refine (walk x0 x1 W w0 w1 hsh hX).mono fun e W' ⟨he, bel⟩ => ?_
  subst he
  exact ⟨_, rfl, _, _, _, [], _, [], hW', trodAll_mk1 (shut_bool Tryz.underlying4 _), (trodAll_cons_mk (Below.trod laidOut (by kernel_rfl) (of_decide_eq_true (by kernel_rfl)) k0 bel lt0) (trodAll_cons_mk (Below.trod laidOut (by kernel_rfl) (of_decide_eq_true (by kernel_rfl)) k1 bel lt1) trodAll_mk0)), rfl, bel.frame _, fun h => by cases h⟩

theorem ovA : Tryz.pinned.checked.prog.funcNamed Rows.indexBackRow.func = some 5 := by kernel_rfl
theorem ovB : joinedFacts Tryz.pinned.checked.prog 5 Tryz.f5 Rows.indexBackSpec Rows.indexBackRow = true := by kernel_rfl
theorem ovC : Tryz.f5.isInstance Tryz.pinned.checked.prog Rows.indexBackRow.origin Rows.indexBackRow.targs := of_decide_eq_true (by kernel_rfl)
theorem ovD : Tryz.f5.isWrapper Tryz.pinned.checked.prog Rows.indexBackRow.wrapper Rows.indexBackRow.mainSum := by unfold Func.isWrapper; first | (rw [if_pos (by decide +kernel)]; kernel_rfl) | (rw [if_neg (by decide +kernel)]; exact ⟨rfl, rfl⟩)
theorem over : Rows.indexBackRow.holds Tryz.pinned (OpenSpec.ofChange Rows.indexBackSpec) :=
  OpenClaim.holds_of_wide 5 Tryz.f5 rfl rfl rfl rfl rfl rfl rfl ⟨rfl, rfl, rfl, rfl, rfl⟩ rfl rfl rfl rfl rfl ovA Tryz.func5 ovB ovC ovD (fun os started H enc _ => lifted os started H enc)

/-- The statement. -/
theorem proved : Rows.IndexBackCardSaid :=
  Claim7.holds_tied_plain_at .later [] [.data, .data, .data, .data] true (true, "f92c510e9d63b18eaf9c62b52dae1708d67972b7fe1170eb1c96897f078802ea") false over (fun _ h => by cases h) (by kernel_rfl) (fun _ h => by cases h) indexBack_row_tie rfl ⟨rfl, rfl⟩ (by kernel_rfl) rfl
    (fun f fn hf hfn => by
      obtain rfl : f = 5 := Option.some.inj ((show Tryz.prog.funcNamed Tryz.f5.name = some 5 by kernel_rfl).symm.trans hf) |>.symm
      obtain rfl : fn = Tryz.f5 := (Option.some.inj (Tryz.func5.symm.trans hfn)).symm
      exact ⟨by kernel_rfl, fun j t ht => by
        rw [Tryz.params5] at ht
        have hm : t ∈ [22, 33] := by simpa using Array.mem_of_getElem? ht
        have hall : ([22, 33].all fun u => !Tryz.prog.wantsStandIn u) = true := by kernel_rfl
        exact (show Tryz.prog.wantsStandIn t = false by simpa using List.all_eq_true.1 hall t hm)⟩)
    (by kernel_rfl)
#print axioms proved
end Go.Proofs.YtcpfnmphcndmjaaGreatDoor.indexBack
