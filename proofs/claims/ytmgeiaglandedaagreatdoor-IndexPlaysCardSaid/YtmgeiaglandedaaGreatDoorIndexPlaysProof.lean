/-
  The statement IndexPlays holds: whatever the acts, the call answers true, and its argument reads afterwards as before. The package variables class.sizes, memory.places, head.places and head.order are listed, and tied to the program's text. No conditions.
-/
import Derived.Test.YtmgeiaglandedaaGreatDoorRows
import Derived.Test.YtmgeiaglandedaaGreatDoorJ33
import Derived.WalkKit
import Derived.ProofKit
import Derived.OpenShut
import Derived.ShutString
import Derived.SliceStrings
import Derived.ChangeOld
import Derived.Below
import Derived.LaidMore
import Derived.Lay
import Derived.SevenTiedAt
import Derived.Stop.Joined
import Derived.Test.YtmgeiaglandedaaGreatDoorJ0
import Derived.Test.YtmgeiaglandedaaGreatDoorTie
import Derived.Test.YtmgeiaglandedaaGreatDoorCards
namespace Go.Proofs.YtmgeiaglandedaaGreatDoor.indexPlays
open Go.ChangeShapes Go.WideShapes Go.ChangeAt Go.RowKit
open Go.ChangeMaps (open_string shut_string)
set_option linter.unusedVariables false

theorem own : ownKnob Tryz.prog.godebug = none := by kernel_rfl
theorem laidOut : laidOutB Tryz.prog = true := by kernel_rfl

/-- A slice of integers that came in. -/
def IsRow (k : IntKind) (w : World) (a : Option Addr) (len cap : Nat) (zs : List Int) : Prop :=
  (a = none ∧ len = 0 ∧ cap = 0 ∧ zs = []) ∨
  ∃ x, a = some x ∧ len ≤ cap ∧ cap ≤ maxLen ∧ zs.length = cap ∧ (∀ i, i < zs.length → w.cell? (x.add i) = some (.int k (zs.getD i 0))) ∧ ∀ n ∈ zs, (Lit.int k n).wf = true
/-- A slice of texts that came in. -/
def IsTexts (w : World) (a : Option Addr) (len cap : Nat) (zs : List ByteArray) : Prop :=
  (a = none ∧ len = 0 ∧ cap = 0 ∧ zs = []) ∨
  ∃ x, a = some x ∧ len ≤ cap ∧ cap ≤ maxLen ∧ zs.length = cap ∧ (∀ i, i < zs.length → w.cell? (x.add i) = some (.string (zs.getD i ByteArray.empty))) ∧ ∀ s ∈ zs, s.size ≤ maxLen

theorem walk (x0 : Value × List Ind.Act) (w : World) (w0 : Ind.ActRow w x0.1 x0.2) (hsh : w.ShapedOpen Tryz.prog) (hl : laidMetH Tryz.prog Rows.indexPlaysRow.laid w) :
    Calls Tryz.prog 6 #[x0.1] w fun e w' => e = .returned (.bool true) ∧ Below w.heap.size w w' := by
  exact Ind.indexPlays_walk x0.1 x0.2 w ⟨⟨Mem.tabP_of (by kernel_rfl) (.tail _ (.head _)) hl, Cls.tab_of (by kernel_rfl) (.head _) hl⟩, Hea.tab_of (by kernel_rfl) (.tail _ (.tail _ (.head _))) (.tail _ (.tail _ (.tail _ (.head _)))) hl⟩ w0

set_option maxRecDepth 100000 in
theorem lifted (os : Os) (started : os.Started) (H : Type) (enc : TypeId × Value → H) :
    ReturnsInHanded {} Tryz.checked os 6 .any (fun w args => (Rows.indexPlaysSpec.pre enc Tryz.prog Tryz.f6 Rows.indexPlaysRow.domain false w args ∧ laidMetH Tryz.prog Rows.indexPlaysRow.laid w) ∧ sizedMet enc Tryz.prog Tryz.f6 (OpenSpec.ofChange Rows.indexPlaysSpec) false w args) (Rows.indexPlaysSpec.post enc Tryz.prog Tryz.f6 false true false false) := by
  refine wrap_listed_shaped (C := Tryz.checked) (X := fun w _ => laidMetH Tryz.prog Rows.indexPlaysRow.laid w) (fun _ _ _ hh h => h.of_heap hh) own started (by kernel_rfl) Tryz.func6
    (ChangeSpec.witness_shaped (enc := enc) (C := Tryz.checked) (os := os) (X := fun w _ => laidMetH Tryz.prog Rows.indexPlaysRow.laid w) false (World.laidAll Tryz.prog os Rows.indexPlaysRow.laid) #[.slice none 0 0] 8 (World.laidAll_os _ _ _)
      (World.shaped_of_ZipB (by kernel_rfl) (by kernel_rfl)) (by kernel_rfl) (by kernel_rfl) (by kernel_rfl)
      (by rw [MakeChecks.laidMetH_plain _ _ _ (by kernel_rfl)]; exact laidMet_laidAll _ (by kernel_rfl) (by kernel_rfl))) ?_
  intro W base args ds gs before hval0 hW _ _ hsh hX _
  have hval : ∀ (j : Nat) t v, Tryz.f6.params[j]? = some t → args[j]? = some v → Value.okWide Tryz.prog W .any base t v := hval0
  have hW' := hW
  obtain ⟨p, q, hA0, hV, rfl, hfz, hnd⟩ := hW
  have hA : DataW.TrodAll enc Tryz.prog W 0 (fun _ => true) true Tryz.f6.params.toList args.toList ds p := hA0
  rw [Tryz.params6] at hA hval
  obtain ⟨v0, vs0, d0, ds0, p0, q0, hargs, rfl, rfl, h0, r0⟩ := trodAll_cons hA
  obtain ⟨rfl, rfl, rfl⟩ := trodAll_nil r0
  obtain rfl : args = #[v0] := by cases args; simp_all
  obtain ⟨rfl, rfl⟩ := trodVars_none hV
  have k0 := h0
  have lt0 : ∀ x ∈ p0, x.block < W.heap.size := by obtain ⟨m, hm⟩ := k0; exact DataW.trod_lt m _ _ _ hm
  obtain ⟨x0, rfl, w0⟩ := Ind.open_acts (hval 0 54 v0 rfl rfl) h0
  clear hA0 hval0
  refine (walk x0 W w0 hsh hX).mono fun e W' ⟨he, bel⟩ => ?_
  subst he
  exact ⟨_, rfl, _, _, _, [], _, [], hW', trodAll_mk1 (shut_bool Tryz.underlying4 _), (trodAll_cons_mk (Below.trod laidOut (by kernel_rfl) (of_decide_eq_true (by kernel_rfl)) k0 bel lt0) trodAll_mk0), rfl, bel.frame _, fun h => by cases h⟩

theorem ovA : Tryz.pinned.checked.prog.funcNamed Rows.indexPlaysRow.func = some 6 := by kernel_rfl
theorem ovB : joinedFacts Tryz.pinned.checked.prog 6 Tryz.f6 Rows.indexPlaysSpec Rows.indexPlaysRow = true := by kernel_rfl
theorem ovC : Tryz.f6.isInstance Tryz.pinned.checked.prog Rows.indexPlaysRow.origin Rows.indexPlaysRow.targs := of_decide_eq_true (by kernel_rfl)
theorem ovD : Tryz.f6.isWrapper Tryz.pinned.checked.prog Rows.indexPlaysRow.wrapper Rows.indexPlaysRow.mainSum := by unfold Func.isWrapper; first | (rw [if_pos (by decide +kernel)]; kernel_rfl) | (rw [if_neg (by decide +kernel)]; exact ⟨rfl, rfl⟩)
theorem over : Rows.indexPlaysRow.holds Tryz.pinned (OpenSpec.ofChange Rows.indexPlaysSpec) :=
  OpenClaim.holds_of_wide 6 Tryz.f6 rfl rfl rfl rfl rfl rfl rfl ⟨rfl, rfl, rfl, rfl, rfl⟩ rfl rfl rfl rfl rfl ovA Tryz.func6 ovB ovC ovD (fun os started H enc _ => lifted os started H enc)

/-- The statement. -/
theorem proved : Rows.IndexPlaysCardSaid :=
  Claim7.holds_tied_plain_at .later [] [.data, .data, .data, .data] true (true, "f36d965bc06cb1129c081082297b688459dc19449b0f73c50e0cf3730bf76fab") false over (fun _ h => by cases h) (by kernel_rfl) (fun _ h => by cases h) indexPlays_row_tie rfl ⟨rfl, rfl⟩ (by kernel_rfl) rfl
    (fun f fn hf hfn => by
      obtain rfl : f = 6 := Option.some.inj ((show Tryz.prog.funcNamed Tryz.f6.name = some 6 by kernel_rfl).symm.trans hf) |>.symm
      obtain rfl : fn = Tryz.f6 := (Option.some.inj (Tryz.func6.symm.trans hfn)).symm
      exact ⟨by kernel_rfl, fun j t ht => by
        rw [Tryz.params6] at ht
        have hm : t ∈ [54] := by simpa using Array.mem_of_getElem? ht
        have hall : ([54].all fun u => !Tryz.prog.wantsStandIn u) = true := by kernel_rfl
        exact (show Tryz.prog.wantsStandIn t = false by simpa using List.all_eq_true.1 hall t hm)⟩)
    (by kernel_rfl)
#print axioms proved
end Go.Proofs.YtmgeiaglandedaaGreatDoor.indexPlays
