/-
  The statement RegionAgrees holds: whatever the acts, the call answers true, and its argument reads afterwards as before. The package variables class.sizes, errors.errorType, memory.places, head.places and head.order are listed, and tied to the program's text. No conditions.
-/
import Derived.Test.YtlcnhnhpaddkfaaGreatDoorRows
import Derived.Test.YtlcnhnhpaddkfaaGreatDoorJ21
import Derived.WalkKit
import Derived.ProofKit
import Derived.OpenShut
import Derived.ShutString
import Derived.SliceStrings
import Derived.ChangeOld
import Derived.Below
import Derived.Test.YtlcnhnhpaddkfaaGreatDoorJ0
import Derived.LaidMore
import Derived.Lay
import Derived.SevenTiedAt
import Derived.Stop.Joined
import Derived.Test.YtlcnhnhpaddkfaaGreatDoorTie
import Derived.Test.YtlcnhnhpaddkfaaGreatDoorCards
namespace Go.Proofs.YtlcnhnhpaddkfaaGreatDoor.regionAgrees
open Go.ChangeShapes Go.WideShapes Go.ChangeAt Go.RowKit
open Go.ChangeMaps (open_string shut_string)
set_option linter.unusedVariables false

theorem own : ownKnob Tryz.prog.godebug = none := by kernel_rfl
theorem laidOut : laidOutB Tryz.prog = true := by kernel_rfl

/-- A slice of integers that came in. -/
def IsRow (k : IntKind) (w : World) (a : Option Addr) (len cap : Nat) (zs : List Int) : Prop :=
  (a = none ∧ len = 0 ∧ cap = 0 ∧ zs = []) ∨
  ∃ x, a = some x ∧ len ≤ cap ∧ cap ≤ maxLen ∧ zs.length = cap ∧ (∀ i, i < zs.length → w.cell? (x.add i) = some (.int k (zs.getD i 0))) ∧ ∀ n ∈ zs, (Lit.int k n).wf = true
/-- A slice of texts that came in. -/
def IsTexts (w : World) (a : Option Addr) (len cap : Nat) (zs : List ByteArray) : Prop :=
  (a = none ∧ len = 0 ∧ cap = 0 ∧ zs = []) ∨
  ∃ x, a = some x ∧ len ≤ cap ∧ cap ≤ maxLen ∧ zs.length = cap ∧ (∀ i, i < zs.length → w.cell? (x.add i) = some (.string (zs.getD i ByteArray.empty))) ∧ ∀ s ∈ zs, s.size ≤ maxLen

theorem walk (x0 : Value × List Reg.Act) (w : World) (w0 : Reg.ActRow w x0.1 x0.2) (hsh : w.ShapedOpen Tryz.prog) (hl : laidMetH Tryz.prog Rows.regionAgreesRow.laid w) :
    Calls Tryz.prog 9 #[x0.1] w fun e w' => e = .returned (.bool true) ∧ Below w.heap.size w w' := by
  have hp : laidMetH Tryz.prog [("columbarium/class.sizes", Rows.laid_columbarium_class_sizes), ("columbarium/memory.places", Rows.laid_columbarium_memory_places), ("columbarium/head.places", Rows.laid_columbarium_head_places), ("columbarium/head.order", Rows.laid_columbarium_head_order)] w := laidMetH.filter (fun x => x.2.handleName?.isNone) hl
  exact Reg.regionAgrees_walk x0.1 x0.2 w ⟨⟨Mem.tabP_of (by kernel_rfl) (.tail _ (.head _)) hp, Cls.tab_of (by kernel_rfl) (.head _) hp⟩, Hea.tab_of (by kernel_rfl) (.tail _ (.tail _ (.head _))) (.tail _ (.tail _ (.tail _ (.head _)))) hp⟩ w0

set_option maxRecDepth 100000 in
theorem lifted (os : Os) (started : os.Started) (H : Type) (enc : TypeId × Value → H) :
    ReturnsInHanded {} Tryz.checked os 9 .any (fun w args => (Rows.regionAgreesSpec.pre enc Tryz.prog Tryz.f9 Rows.regionAgreesRow.domain false w args ∧ laidMetH Tryz.prog Rows.regionAgreesRow.laid w) ∧ sizedMet enc Tryz.prog Tryz.f9 (OpenSpec.ofChange Rows.regionAgreesSpec) false w args) (Rows.regionAgreesSpec.post enc Tryz.prog Tryz.f9 false true false false) := by
  refine wrap_listed_shaped (C := Tryz.checked) (X := fun w _ => laidMetH Tryz.prog Rows.regionAgreesRow.laid w) (fun _ _ _ hh h => h.of_heap hh) own started (by kernel_rfl) Tryz.func9
    (ChangeSpec.witness_shaped (enc := enc) (C := Tryz.checked) (os := os) (X := fun w _ => laidMetH Tryz.prog Rows.regionAgreesRow.laid w) false (hWorld os Rows.regionAgreesRow.laid) #[.slice none 0 0] 8 (hWorld_os _ _)
      (World.shaped_of_ZipB (by kernel_rfl) (by kernel_rfl)) (by kernel_rfl) (by kernel_rfl) (by kernel_rfl)
      (hWorld_met _ (by kernel_rfl) (by kernel_rfl) (by kernel_rfl))) ?_
  intro W base args ds gs before hval0 hW _ _ hsh hX _
  have hval : ∀ (j : Nat) t v, Tryz.f9.params[j]? = some t → args[j]? = some v → Value.okWide Tryz.prog W .any base t v := hval0
  have hW' := hW
  obtain ⟨p, q, hA0, hV, rfl, hfz, hnd⟩ := hW
  have hA : DataW.TrodAll enc Tryz.prog W 0 (fun _ => true) true Tryz.f9.params.toList args.toList ds p := hA0
  rw [Tryz.params9] at hA hval
  obtain ⟨v0, vs0, d0, ds0, p0, q0, hargs, rfl, rfl, h0, r0⟩ := trodAll_cons hA
  obtain ⟨rfl, rfl, rfl⟩ := trodAll_nil r0
  obtain rfl : args = #[v0] := by cases args; simp_all
  obtain ⟨rfl, rfl⟩ := trodVars_none hV
  have k0 := h0
  have lt0 : ∀ x ∈ p0, x.block < W.heap.size := by obtain ⟨m, hm⟩ := k0; exact DataW.trod_lt m _ _ _ hm
  obtain ⟨x0, rfl, w0⟩ := Reg.open_acts (hval 0 80 v0 rfl rfl) h0
  clear hA0 hval0
  refine (walk x0 W w0 hsh hX).mono fun e W' ⟨he, bel⟩ => ?_
  subst he
  exact ⟨_, rfl, _, _, _, [], _, [], hW', trodAll_mk1 (shut_bool Tryz.underlying4 _), (trodAll_cons_mk (Below.trod laidOut (by kernel_rfl) (of_decide_eq_true (by kernel_rfl)) k0 bel lt0) trodAll_mk0), rfl, bel.frame _, fun h => by cases h⟩

theorem over : Rows.regionAgreesRow.holds Tryz.pinned (OpenSpec.ofChange Rows.regionAgreesSpec) :=
  OpenClaim.holds_of_wide 9 Tryz.f9 rfl rfl rfl rfl rfl rfl rfl ⟨rfl, rfl, rfl, rfl, rfl⟩ rfl rfl rfl rfl rfl (by kernel_rfl) Tryz.func9 (by kernel_rfl)
    (of_decide_eq_true (by kernel_rfl)) (by unfold Func.isWrapper; first | (rw [if_pos (by decide +kernel)]; kernel_rfl) | (rw [if_neg (by decide +kernel)]; exact ⟨rfl, rfl⟩))
    (fun os started H enc _ => lifted os started H enc)

/-- The statement. -/
theorem proved : Rows.RegionAgreesCardSaid :=
  Claim7.holds_tied_plain_at .later [] [.data, .handle, .data, .data, .data] true (true, "41d4091d3189a2666ad1d2689c411789a7cadd7eb993b21bc8a87653431ab131") true over (fun _ h => by cases h) (by kernel_rfl) (fun _ h => by cases h) regionAgrees_row_tie rfl ⟨rfl, rfl⟩ (by kernel_rfl) rfl
    (fun f fn hf hfn => by
      obtain rfl : f = 9 := Option.some.inj ((show Tryz.prog.funcNamed Tryz.f9.name = some 9 by kernel_rfl).symm.trans hf) |>.symm
      obtain rfl : fn = Tryz.f9 := (Option.some.inj (Tryz.func9.symm.trans hfn)).symm
      exact ⟨by kernel_rfl, fun j t ht => by
        rw [Tryz.params9] at ht
        have hm : t ∈ [80] := by simpa using Array.mem_of_getElem? ht
        have hall : ([80].all fun u => !Tryz.prog.wantsStandIn u) = true := by kernel_rfl
        exact (show Tryz.prog.wantsStandIn t = false by simpa using List.all_eq_true.1 hall t hm)⟩)
    (by kernel_rfl)
#print axioms proved
end Go.Proofs.YtlcnhnhpaddkfaaGreatDoor.regionAgrees
