/- Small laws that the walks of this seat use: slices that are read, copies into a row that the call itself made. -/
import Derived.WalkKit
import Derived.ProofKit
import Derived.Below
import Derived.Lib.Hide
import Derived.Deep.QuietTactic
import Derived.BigQuiet
import Derived.Outline
import Derived.RegionTactic
import Derived.Deep.RegionLaw
import Derived.Laws.CopyOwn
import Derived.OpenShut
import Derived.Laws.BytesArg
namespace Go.Proofs.Ytjikikiconhlaaa
open Go.RowKit

theorem ret_bool {a b : Bool} (h : a = b) : Ending.returned (.bool a) = .returned (.bool b) := by rw [h]
theorem ret_int {k : IntKind} {a b : Int} (h : a = b) : Ending.returned (.int k a) = .returned (.int k b) := by rw [h]

/-- A slice value of integers reads as a list: nothing is asked of where it lies if it is empty. -/
def Row (k : IntKind) (w : World) (v : Value) (l : List Int) : Prop :=
  ∃ a cap, v = .slice a l.length cap ∧ l.length ≤ cap ∧ cap ≤ 9223372036854775807 ∧ (∀ i, i < l.length → (Lit.int k (l.getD i 0)).wf = true) ∧
    (l ≠ [] → ∃ b off, a = some ⟨b, off, none⟩ ∧ b < w.heap.size ∧ ∀ i, i < l.length → w.cell? ⟨b, off + i, none⟩ = some (.int k (l.getD i 0)))

theorem Row.mono {k : IntKind} {w w' : World} {v : Value} {l : List Int} {B : Nat} (h : Row k w v l) (hb : Below B w w') (hB : w.heap.size ≤ B) : Row k w' v l := by
  obtain ⟨a, cap, h1, h2, h3, h4, h5⟩ := h
  refine ⟨a, cap, h1, h2, h3, h4, fun hne => ?_⟩
  obtain ⟨b, off, e, hlt, hc⟩ := h5 hne
  exact ⟨b, off, e, Nat.lt_of_lt_of_le hlt hb.size, fun i hi => (hb.cell (p := ⟨b, off + i, none⟩) (show b < B by omega)).trans (hc i hi)⟩

theorem Row.nil (k : IntKind) (w : World) : Row k w (.slice none 0 0) [] := ⟨none, 0, rfl, by simp, by omega, fun i hi => by simp at hi, fun h => absurd rfl h⟩

/-- Two readings of one value are one. -/
theorem Row.bytes {w : World} {v : Value} {l : List Int} (h : Row .u8 w v l) (i : Nat) : 0 ≤ l.getD i 0 ∧ l.getD i 0 < 256 := by
  obtain ⟨a, cap, h1, h2, h3, h4, h5⟩ := h
  by_cases hi : i < l.length
  · have := bounds_u8 (h4 i hi); omega
  · simp [List.getD, List.getElem?_eq_none (show l.length ≤ i by omega)]

theorem oneCell_int (k : IntKind) (n : Int) : (Value.int k n).oneCell' = true := rfl

/-- copy into a row of the call's own, as one step of a region that draws: the world is told. -/
theorem step_copy_row {P : Program} {ops : Array Oper} {o : Oper} {a : Act} {w : World} {K : Act → World → Prop} {Q : Exit → Act → World → Prop} {E : Prop} (hgd : o.guard = none) (d s : Operand) (dT sT : TypeId)
    (ho : o.op = .call { callee := .builtin .copy, args := #[d, s], argTypes := #[dT, sT] }) (elem : TypeId) (hu : P.underlying dT = some (.slice elem)) (hsz : (P.info? elem).map (·.size) = some 1)
    (g off dLen dCap : Nat) (ad : Addr) (sLen sCap : Nat) (hd : a.eval d = .slice (some ⟨g, off, none⟩) dLen dCap) (hs : a.eval s = .slice (some ad) sLen sCap)
    (cur : Array Value) (t : TypeId) (hg : w.heap[g]? = some (.cells cur t (0, 0))) (cs : List Value) (hn : cs.length = Nat.min sLen dLen)
    (hsrc : ∀ j v, cs[j]? = some v → w.cell? (ad.add j) = some v) (hfit : off + cs.length ≤ cur.size) (h1 : ∀ v ∈ cs, v.oneCell' = true)
    (row : Array Value) (hrow : (cur.toList.take off ++ (cs ++ cur.toList.drop (off + cs.length))).toArray = row) (w' : World) (hw' : w.setRow g row = w')
    (h : K (a.put o.dst (goInt cs.length)) w') :
    if Region.wanted o (yielded ops a.tmps) = true then Oper.wp P o a w K Q else E := by
  have hw : Region.wanted o (yielded ops a.tmps) = true := by simp [Region.wanted, hgd]
  rw [if_pos hw]
  subst hrow hw'
  have hrun := run_copy_row (P := P) w dT sT o.type elem g off dLen dCap ad sLen sCap cur t cs hu hsz hg hn hsrc hfit h1
  unfold Oper.wp
  simp [execOp, ho, resolve, invoke, builtin, hd, hs, hrun, Result.andThen]
  exact h

theorem setRow_alloc_drew (w : World) (c d : Array Value) (e : TypeId) : ((w.alloc (.cells c e)).drew).setRow w.heap.size d = (w.alloc (.cells d e)).drew := by
  have h : (w.heap.push (.cells c e)).modify w.heap.size (fun | .cells _ elem frozen => .cells d elem frozen | o => o) = w.heap.push (.cells d e) := by
    apply Array.ext_getElem?
    intro i
    rw [Array.getElem?_modify, Array.getElem?_push, Array.getElem?_push]
    by_cases hi : i = w.heap.size
    · subst hi; simp
    · rw [if_neg hi, if_neg (by omega), if_neg hi]
  exact congrArg (fun (hp : Array Obj) => ({ heap := hp, tape := w.tape, drawn := w.drawn + 1, os := w.os, output := w.output } : World)) h

theorem setRow_alloc (w : World) (c d : Array Value) (e : TypeId) : (w.alloc (.cells c e)).setRow w.heap.size d = w.alloc (.cells d e) := by
  have h : (w.heap.push (.cells c e)).modify w.heap.size (fun | .cells _ elem frozen => .cells d elem frozen | o => o) = w.heap.push (.cells d e) := by
    apply Array.ext_getElem?
    intro i
    rw [Array.getElem?_modify, Array.getElem?_push, Array.getElem?_push]
    by_cases hi : i = w.heap.size
    · subst hi; simp
    · rw [if_neg hi, if_neg (by omega), if_neg hi]
  exact congrArg (fun (hp : Array Obj) => ({ heap := hp, tape := w.tape, drawn := w.drawn, os := w.os, output := w.output } : World)) h

/-- copy into a row of the call's own, outside of a region that draws: the world is told. -/
theorem wpList_copy_row {P : Program} {w : World} {ops : Array Oper} {rest : List Oper} {o : Oper} {a : Act} {Q : Exit → Act → World → Prop} (hgd : o.guard = none) (d s : Operand) (dT sT : TypeId)
    (ho : o.op = .call { callee := .builtin .copy, args := #[d, s], argTypes := #[dT, sT] }) (elem : TypeId) (hu : P.underlying dT = some (.slice elem)) (hsz : (P.info? elem).map (·.size) = some 1)
    (g off dLen dCap : Nat) (ad : Addr) (sLen sCap : Nat) (hd : a.eval d = .slice (some ⟨g, off, none⟩) dLen dCap) (hs : a.eval s = .slice (some ad) sLen sCap)
    (cur : Array Value) (t : TypeId) (hg : w.heap[g]? = some (.cells cur t (0, 0))) (cs : List Value) (hn : cs.length = Nat.min sLen dLen)
    (hsrc : ∀ j v, cs[j]? = some v → w.cell? (ad.add j) = some v) (hfit : off + cs.length ≤ cur.size) (h1 : ∀ v ∈ cs, v.oneCell' = true)
    (row : Array Value) (hrow : (cur.toList.take off ++ (cs ++ cur.toList.drop (off + cs.length))).toArray = row) (w' : World) (hw' : w.setRow g row = w')
    (h : wpList P ops Q rest (a.put o.dst (goInt cs.length)) w') : wpList P ops Q (o :: rest) a w := by
  subst hrow hw'
  exact wpList_copy_own hgd d s dT sT ho elem hu hsz g off dLen dCap ad sLen sCap hd hs cur t hg cs hn hsrc hfit h1 h

/-- A row's own block, read from its head. -/
theorem cell_block {w : World} {g : Nat} {c : Array Value} {e : TypeId} {f : Nat × Nat} (h : w.heap[g]? = some (.cells c e f)) (i : Nat) : w.cell? ⟨g, i, none⟩ = c[i]? := by
  simp [World.cell?, h]
theorem size_madeCells1 (z : Value) (n : Nat) : (madeCells #[z] n).size = n := by simp [madeCells]
theorem Addr_add (b off j : Nat) : (⟨b, off, none⟩ : Addr).add j = ⟨b, off + j, none⟩ := by
  unfold Addr.add
  split
  · simp_all
  · rfl

/-- make of n elements of one cell each: the world is told. -/
theorem wpList_make_row {P : Program} {w : World} {ops : Array Oper} {rest : List Oper} {o : Oper} {a : Act} {Q : Exit → Act → World → Prop}
    (hg : o.guard = none) (l c : Operand) (t : TypeId) (hop : o.op = Op.makeSlice t l c)
    (e : TypeId) (i : TypeInfo) (z : Value) (bytes : Nat) (h1 : P.underlying t = some (.slice e)) (h2 : P.info? e = some i) (h3 : i.zero = some z) (h4 : i.size = 1) (h5 : i.bytes = bytes)
    (kl kc : IntKind) (n : Nat) (hl : a.eval l = .int kl (n : Int)) (hc : a.eval c = .int kc (n : Int)) (b2 : bytes * n ≤ 281474976710656) (b3 : n ≤ 9223372036854775807)
    (hK : wpList P ops Q rest (a.put o.dst (.slice (some ⟨w.heap.size, 0, none⟩) n n)) (w.alloc (.cells (madeCells z.cells n) e))) :
    wpList P ops Q (o :: rest) a w := by
  refine wpList_plain hg fun K hK' => ?_
  have hb : (i.bytes : Int) * (n : Int) ≤ 281474976710656 := by rw [h5, ← Int.natCast_mul]; omega
  have hrun := run_make (P := P) w t e i z h1 h2 h3 kl kc (n : Int) (n : Int) (by omega) (by omega) hb (by omega)
  rw [h4, Nat.mul_one, Int.toNat_natCast] at hrun
  unfold Oper.wp
  simp [execOp, hop, hl, hc, hrun, Result.andThen]
  exact hK' _ _ hK

/-- string(b). -/
theorem Row.string {P : Program} {w : World} {v : Value} {l : List Int} (h : Row .u8 w v l) (src dst e : TypeId) (hs : P.underlying src = some (.slice e)) (he : P.underlying e = some (.int .u8)) (hd : P.underlying dst = some .string) :
    (convert src dst v).run P w = .ok (.string (strOfNums l)) w := by
  obtain ⟨a, cap, rfl, h2, h3, h4, h5⟩ := h
  by_cases hn : l = []
  · subst hn
    cases a with
    | none => exact run_convert_bytes_nil w src e hs he _ _ dst hd
    | some a =>
      rw [run_convert_bytes_string w src dst e _ _ cap hs he hd, run_bytesToString w _ _ cap [] (by simp [loadCells]; rfl)]
      rfl
  · obtain ⟨b, off, rfl, hlt, hc⟩ := h5 hn
    exact run_convert_bytes_arg w src e hs he b off l.length cap l rfl hc dst hd

theorem strOfNums_inj {l m : List Int} (hl : ∀ i, 0 ≤ l.getD i 0 ∧ l.getD i 0 < 256) (hm : ∀ i, 0 ≤ m.getD i 0 ∧ m.getD i 0 < 256) (h : strOfNums l = strOfNums m) : l = m := by
  have h1 := congrArg (fun s => s.data.toList) h
  simp only [strOfNums_data] at h1
  have hlen : l.length = m.length := by simpa using congrArg List.length h1
  apply List.ext_getElem hlen
  intro i hi hi'
  have h2 := congrArg (fun L => L[i]?) h1
  simp [hi, hi'] at h2
  have a := hl i
  have b := hm i
  simp [List.getD, hi] at a
  simp [List.getD, hi'] at b
  have h3 := congrArg UInt8.toNat h2
  simp at h3
  omega

theorem strOfNums_beq {l m : List Int} (hl : ∀ i, 0 ≤ l.getD i 0 ∧ l.getD i 0 < 256) (hm : ∀ i, 0 ≤ m.getD i 0 ∧ m.getD i 0 < 256) : strOfNums l = strOfNums m ↔ l = m :=
  ⟨strOfNums_inj hl hm, fun h => by rw [h]⟩
theorem strOfNums_toList_beq {l m : List Int} (hl : ∀ i, 0 ≤ l.getD i 0 ∧ l.getD i 0 < 256) (hm : ∀ i, 0 ≤ m.getD i 0 ∧ m.getD i 0 < 256) : ((strOfNums l).toList == (strOfNums m).toList) = (l == m) := by
  rw [ByteArray.toList_eq, ByteArray.toList_eq, Bool.eq_iff_iff, beq_iff_eq, beq_iff_eq, ← strOfNums_beq hl hm]
  exact ⟨fun h => WideShapes.bytes_inj h, fun h => by rw [h]⟩
end Go.Proofs.Ytjikikiconhlaaa
