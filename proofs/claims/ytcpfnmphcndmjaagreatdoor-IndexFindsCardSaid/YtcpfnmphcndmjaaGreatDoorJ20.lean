/- Plain mathematics of the index: slots in a ring that hold places; where a place is at home is told by a function. Slots and blocks in a memory of slabs: what is loaded, stored, written and read. The landed index: a memory whose slots hold places of blocks; loads and stores of slots and of fields. Contracts of the index: tables in their boxes; where a slot lies, what it holds; homes and steps. Contracts of the index: the tag, hash and key of a block; what slots tell. Contracts of the index: tests of slots; seek; which slot, which block. Contracts of the index: what is put in and taken out; the slot and the block of a search. Contracts of the index: tables and searches that are made. Contracts of the index: a search for a block. Contracts of the index: Place, Insert, Delete, Move. Contracts of the index: Insert, Delete, Move. Contracts of the index: keys and labels; the tests of Entry and Node. Contracts of the index: Entry and Node. Contracts of the index: Entry, Node, Begin, Longest. The index within a statement: a memory with blocks and slots; blocks that are taken and filled. -/
import Derived.Test.YtcpfnmphcndmjaaGreatDoorJ19
import Derived.Test.YtcpfnmphcndmjaaGreatDoorJ18
import Derived.Deep.RegionHeld3
import Derived.BigQuiet
import Derived.Laws.EntriesVeiled
import Derived.Test.YtcpfnmphcndmjaaGreatDoorJ1
import Derived.WalkMore
import Derived.ScopeJumps
import Derived.Deep.LoopGhost
import Derived.Laws.StructEq
import Derived.Test.YtcpfnmphcndmjaaGreatDoorJ16
namespace Go.Proofs.YtcpfnmphcndmjaaGreatDoor.Ind
open Pro
set_option linter.unusedVariables false

/-- The cell of a place. -/
def ce (hm : Nat → Nat) (x : Nat) : Cel := if x = 0 then (0, 0) else ((x : Int), (hm x : Int))
def tb (hm : Nat → Nat) (K : Nat → Nat) (i : Nat) : Cel := ce hm (K i)
theorem ce_one (hm : Nat → Nat) (x : Nat) : (ce hm x).1 = (x : Int) := by unfold ce; split <;> simp_all
theorem ce_two {hm : Nat → Nat} {x : Nat} (h : x ≠ 0) : (ce hm x).2 = (hm x : Int) := by unfold ce; rw [if_neg h]
theorem ce_eq {hm : Nat → Nat} {x y : Nat} (h : ce hm x = ce hm y) : x = y := by
  have := congrArg Prod.fst h
  rw [ce_one, ce_one] at this
  omega
theorem tb_one (hm K : Nat → Nat) (i : Nat) : (tb hm K i).1 = (K i : Int) := ce_one _ _
theorem tb_nz {hm K : Nat → Nat} {i : Nat} : (tb hm K i).1 ≠ 0 ↔ K i ≠ 0 := by rw [tb_one]; omega
theorem tb_z {hm K : Nat → Nat} {i : Nat} : (tb hm K i).1 = 0 ↔ K i = 0 := by rw [tb_one]; omega

structure Ok (n : Nat) (hm K : Nat → Nat) : Prop where
  rt : RTf n (tb hm K)
  free : ∃ z, z < n ∧ ((tb hm K z).1 = 0 ∨ frf n (tb hm K) z = 0)
/-- Whether a place is in. -/
def In (n : Nat) (K : Nat → Nat) (x : Nat) : Prop := ∃ q, q < n ∧ K q = x
theorem Ok.home {n : Nat} {hm K : Nat → Nat} (O : Ok n hm K) {i : Nat} (hi : i < n) (h : K i ≠ 0) : hm (K i) < n := by
  have := O.rt.hm i hi (tb_nz.2 h)
  unfold tb at this
  rw [ce_two h] at this
  omega
theorem Ok.one {n : Nat} {hm K : Nat → Nat} (O : Ok n hm K) {i j : Nat} (hi : i < n) (hj : j < n) (h : K i ≠ 0) (e : K i = K j) : i = j := by
  refine Decidable.byContradiction fun hne => ?_
  have := O.rt.ne i j hi hj hne (tb_nz.2 h)
  rw [tb_one, tb_one, e] at this
  exact this rfl
theorem Ok.far {n : Nat} {hm K : Nat → Nat} (O : Ok n hm K) {i : Nat} (hi : i < n) (h : K i ≠ 0) : frf n (tb hm K) i = (off n (hm (K i)) i : Int) := by
  unfold frf
  rw [show (tb hm K i).2 = (hm (K i) : Int) from ce_two h]
  exact dI_off (O.home hi h) hi
theorem ok_zero {n : Nat} (hn : 0 < n) (hm : Nat → Nat) {K : Nat → Nat} (h : ∀ i, i < n → K i = 0) : Ok n hm K := by
  have e : ∀ i, i < n → tb hm K i = (0, 0) := fun i hi => by unfold tb ce; rw [h i hi, if_pos rfl]
  refine ⟨⟨hn, fun i hi _ => by rw [e i hi], fun i hi q => absurd (by rw [e i hi]) q, fun i k hi hk _ q => absurd (by rw [e i hi]) q, fun i hi q => absurd (by rw [e i hi]) q⟩, 0, hn, .inl (by rw [e 0 hn])⟩
theorem ok_congr {n : Nat} {hm hm' K K' : Nat → Nat} (O : Ok n hm K) (h : ∀ i, i < n → K' i = K i) (h2 : ∀ i, i < n → K i ≠ 0 → hm' (K i) = hm (K i)) : Ok n hm' K' := by
  have e : ∀ i, i < n → tb hm' K' i = tb hm K i := fun i hi => by
    unfold tb ce
    rw [h i hi]
    by_cases q : K i = 0
    · rw [if_pos q, if_pos q]
    · rw [if_neg q, if_neg q, h2 i hi q]
  have f : ∀ i, i < n → frf n (tb hm' K') i = frf n (tb hm K) i := fun i hi => by unfold frf; rw [e i hi]
  obtain ⟨⟨r1, r2, r3, r4, r5⟩, z, hz, hz2⟩ := O
  refine ⟨⟨r1, fun i hi => ?_, fun i hi => ?_, fun i k hi hk => ?_, fun i hi => ?_⟩, z, hz, ?_⟩
  · rw [e i hi]; exact r2 i hi
  · rw [e i hi]; exact r3 i hi
  · rw [e i hi, e k hk]; exact r4 i k hi hk
  · rw [f i hi, e i hi, e _ (pv_lt hi), f _ (pv_lt hi)]; exact r5 i hi
  · rw [e z hz, f z hz]; exact hz2

/-! ### Which slots are open -/
def opb (n : Nat) (hm K : Nat → Nat) (h p : Nat) : Bool := decide (K p = 0) || decide (off n (hm (K p)) p < off n h p)
theorem opb_iff {n : Nat} {hm K : Nat → Nat} (O : Ok n hm K) {h p : Nat} (hh : h < n) (hp : p < n) : opb n hm K h p = true ↔ Opn n (tb hm K) h p := by
  unfold opb Opn
  rw [Bool.or_eq_true, decide_eq_true_eq, decide_eq_true_eq, tb_z, dI_off hh hp]
  by_cases q : K p = 0
  · simp [q]
  · rw [O.far hp q]
    simp only [q, false_or]
    omega
/-- The steps to the first open slot, and from one on to the first empty one. -/
def opn (n : Nat) (hm K : Nat → Nat) (h : Nat) : Nat := sk (fun s => opb n hm K h (ps n h s)) n
def emp (n : Nat) (K : Nat → Nat) (p : Nat) : Nat := sk (fun s => decide (K (ps n p s) = 0)) n
/-- A place put in at a slot, from where on others move, up to m further on; one taken out. -/
def insk (n : Nat) (K : Nat → Nat) (x p m q : Nat) : Nat := if off n p q = 0 then x else if off n p q ≤ m then K (pv n q) else K q
def delk (n : Nat) (K : Nat → Nat) (p m q : Nat) : Nat := if off n p q < m then K (nx n q) else if off n p q = m then 0 else K q
theorem tb_ins (n : Nat) (hm K : Nat → Nat) (x p m q : Nat) : tb hm (insk n K x p m) q = insf n (tb hm K) (ce hm x) p m q := by
  unfold tb insk insf
  split
  · rfl
  · split <;> rfl
theorem tb_del (n : Nat) (hm K : Nat → Nat) (p m q : Nat) : tb hm (delk n K p m) q = delf n (tb hm K) p m q := by
  unfold tb delk delf
  split
  · rfl
  · split
    · rfl
    · rfl
theorem sk_lt {P : Nat → Bool} {n j : Nat} (hj : j < n) (h : P j = true) : sk P n ≤ j := by
  rcases Nat.lt_or_ge j (sk P n) with q | q
  · rw [sk_no q] at h; cases h
  · exact q
theorem emp_lt {n : Nat} {K : Nat → Nat} {p z : Nat} (hp : p < n) (hz : z < n) (h : K z = 0) : emp n K p < n := by
  have := off_lt hp hz
  have h2 := sk_lt (P := fun s => decide (K (ps n p s) = 0)) (n := n) this (by rw [decide_eq_true_eq, ps_off hp hz]; exact h)
  unfold emp
  omega
theorem opn_lt {n : Nat} {hm K : Nat → Nat} {h z : Nat} (hh : h < n) (hz : z < n) (hk : K z = 0) : opn n hm K h < n := by
  have := off_lt hh hz
  have h2 := sk_lt (P := fun s => opb n hm K h (ps n h s)) (n := n) this (by rw [ps_off hh hz]; unfold opb; simp [hk])
  unfold opn
  omega
def insF (n : Nat) (hm K : Nat → Nat) (x : Nat) : Nat → Nat := insk n K x (ps n (hm x) (opn n hm K (hm x))) (emp n K (ps n (hm x) (opn n hm K (hm x))))
theorem ins_h {n : Nat} {hm K : Nat → Nat} (O : Ok n hm K) {x z : Nat} (hx : x ≠ 0) (hh : hm x < n) (hf : ∀ i, i < n → K i ≠ x) (hz : z < n) (hk : K z = 0) :
    InsH n (tb hm K) (ce hm x) (hm x) (opn n hm K (hm x)) (emp n K (ps n (hm x) (opn n hm K (hm x)))) := by
  have h1 := opn_lt (hm := hm) (h := hm x) hh hz hk
  have hp := ps_lt (i := opn n hm K (hm x)) hh (by omega)
  have h2 := emp_lt hp hz hk
  refine ⟨O.rt, by rw [ce_one]; omega, ce_two hx, hh, fun i hi => ?_, h1, fun j hj => ?_, ?_, h2, fun j hj => ?_, ?_⟩
  · rw [tb_one, ce_one]
    have := hf i hi
    omega
  · rw [← opb_iff O hh (ps_lt hh (by omega))]
    have := sk_no (P := fun s => opb n hm K (hm x) (ps n (hm x) s)) (n := n) hj
    rw [this]
    simp
  · rw [← opb_iff O hh hp]
    exact sk_yes (P := fun s => opb n hm K (hm x) (ps n (hm x) s)) (n := n) h1
  · rw [tb_nz]
    have := sk_no (P := fun s => decide (K (ps n (ps n (hm x) (opn n hm K (hm x))) s) = 0)) (n := n) hj
    simpa using this
  · rw [tb_z]
    have := sk_yes (P := fun s => decide (K (ps n (ps n (hm x) (opn n hm K (hm x))) s) = 0)) (n := n) h2
    exact of_decide_eq_true this
theorem frf_congr {n : Nat} {t t' : Nat → Cel} {i : Nat} (h : t i = t' i) : frf n t i = frf n t' i := by unfold frf; rw [h]
theorem rtf_eq {n : Nat} {t t' : Nat → Cel} (H : RTf n t) (h : ∀ j, j < n → t' j = t j) : RTf n t' := by
  obtain ⟨h1, h2, h3, h4, h5⟩ := H
  refine ⟨h1, fun i hi => ?_, fun i hi => ?_, fun i k hi hk => ?_, fun i hi => ?_⟩
  · rw [h i hi]; exact h2 i hi
  · rw [h i hi]; exact h3 i hi
  · rw [h i hi, h k hk]; exact h4 i k hi hk
  · rw [frf_congr (h i hi), frf_congr (h _ (pv_lt hi)), h i hi, h _ (pv_lt hi)]; exact h5 i hi
theorem in_tb {n : Nat} {hm K : Nat → Nat} {x : Nat} : In n K x ↔ ∃ q, q < n ∧ tb hm K q = ce hm x :=
  ⟨fun ⟨q, hq, h⟩ => ⟨q, hq, by unfold tb; rw [h]⟩, fun ⟨q, hq, h⟩ => ⟨q, hq, ce_eq h⟩⟩
theorem ok_ins {n : Nat} {hm K : Nat → Nat} (O : Ok n hm K) {x z : Nat} (hx : x ≠ 0) (hh : hm x < n) (hf : ∀ i, i < n → K i ≠ x) (hz : z < n) (hk : K z = 0) :
    Ok n hm (insF n hm K x) ∧ ∀ y, y ≠ 0 → (In n (insF n hm K x) y ↔ y = x ∨ In n K y) := by
  have I := ins_h O hx hh hf hz hk
  have e := tb_ins n hm K x (ps n (hm x) (opn n hm K (hm x))) (emp n K (ps n (hm x) (opn n hm K (hm x))))
  refine ⟨⟨rtf_eq I.rtf fun j _ => e j, ?_⟩, fun y hy => ?_⟩
  · obtain ⟨z, hz, h⟩ := I.free
    refine ⟨z, hz, ?_⟩
    unfold insF
    rw [e z, frf_congr (e z)]
    exact h
  · have := I.mem (ce hm y) (by rw [ce_one]; omega)
    unfold insF
    rw [in_tb (hm := hm), in_tb (hm := hm) (K := K)]
    constructor
    · rintro ⟨q, hq, h⟩
      rcases this.1 ⟨q, hq, by rw [← e]; exact h⟩ with h | h
      · exact .inl (ce_eq h)
      · exact .inr h
    · intro h
      obtain ⟨q, hq, h⟩ := this.2 (h.imp (fun h => by rw [h]) id)
      exact ⟨q, hq, by rw [e]; exact h⟩

/-! ### Taken out -/
def up (K : Nat → Nat) (p x q : Nat) : Nat := if q = p then x else K q
theorem up_at (K : Nat → Nat) (p x : Nat) : up K p x p = x := if_pos rfl
theorem up_ne (K : Nat → Nat) {p q : Nat} (x : Nat) (h : q ≠ p) : up K p x q = K q := if_neg h
def stb (n : Nat) (hm K : Nat → Nat) (p : Nat) : Bool := decide (K p = 0) || decide (off n (hm (K p)) p = 0)
def sta (n : Nat) (hm K : Nat → Nat) (p : Nat) : Nat := sk (fun s => stb n hm (up K p 0) (ps n (nx n p) s)) n
def delF (n : Nat) (hm K : Nat → Nat) (p : Nat) : Nat → Nat := delk n K p (sta n hm K p)
theorem sta_lt {n : Nat} {hm K : Nat → Nat} {p : Nat} (hp : p < n) : sta n hm K p < n := by
  have e : ps n (nx n p) (n - 1) = p := by unfold ps nx; (repeat' split) <;> omega
  have := sk_lt (P := fun s => stb n hm (up K p 0) (ps n (nx n p) s)) (n := n) (j := n - 1) (by omega) (by
    rw [e]
    unfold stb
    rw [up_at]
    simp)
  unfold sta
  omega
theorem stb_iff {n : Nat} {hm K : Nat → Nat} (O : Ok n hm K) {p j : Nat} (hp : p < n) (hj : j + 1 < n) :
    stb n hm (up K p 0) (ps n (nx n p) j) = true ↔ (tb hm K (ps n p (j + 1))).1 = 0 ∨ frf n (tb hm K) (ps n p (j + 1)) = 0 := by
  rw [ps_nx hp (by omega)]
  have hq := ps_lt (i := j + 1) hp (by omega)
  have hne : ps n p (j + 1) ≠ p := fun e => by
    have := off_ps (i := j + 1) hp hj
    rw [e, off_self] at this
    omega
  unfold stb
  rw [up_ne _ _ hne, tb_z, Bool.or_eq_true, decide_eq_true_eq, decide_eq_true_eq]
  by_cases q : K (ps n p (j + 1)) = 0
  · simp [q]
  · rw [O.far hq q]
    simp only [q, false_or]
    omega
theorem del_h {n : Nat} {hm K : Nat → Nat} (O : Ok n hm K) {p : Nat} (hp : p < n) : DelH n (tb hm K) p (sta n hm K p) := by
  have hlt := sta_lt (hm := hm) (K := K) hp
  refine ⟨O.rt, hp, hlt, fun j hj => ?_, fun h => ?_⟩
  · have := sk_no (P := fun s => stb n hm (up K p 0) (ps n (nx n p) s)) (n := n) hj
    have h2 := stb_iff O hp (j := j) (by omega)
    rw [this] at h2
    refine ⟨fun e => ?_, fun e => ?_⟩
    · cases h2.2 (.inl e)
    · cases h2.2 (.inr e)
  · have := sk_yes (P := fun s => stb n hm (up K p 0) (ps n (nx n p) s)) (n := n) hlt
    exact (stb_iff O hp h).1 this
theorem sta_eq {n : Nat} {hm K : Nat → Nat} (O : Ok n hm K) {p m : Nat} (D : DelH n (tb hm K) p m) : sta n hm K p = m := by
  have hm' := D.mn
  refine sk_eq (by omega) (fun j hj => ?_) (fun h => ?_)
  · have h2 := stb_iff O D.pn (j := j) (by omega)
    have h3 := D.run j hj
    cases e : stb n hm (up K p 0) (ps n (nx n p) j) with
    | false => rfl
    | true =>
      rcases h2.1 e with q | q
      · exact absurd q h3.1
      · exact absurd q h3.2
  · by_cases q : m + 1 < n
    · exact (stb_iff O D.pn q).2 (D.stop q)
    · have e : ps n (nx n p) m = p := by
        have := D.pn
        unfold ps nx; (repeat' split) <;> omega
      rw [e]
      unfold stb
      rw [up_at]
      simp
theorem ok_del {n : Nat} {hm K : Nat → Nat} (O : Ok n hm K) {p : Nat} (hp : p < n) (hk : K p ≠ 0) :
    Ok n hm (delF n hm K p) ∧ ∀ y, y ≠ 0 → (In n (delF n hm K p) y ↔ y ≠ K p ∧ In n K y) := by
  have D := del_h O hp
  have e := tb_del n hm K p (sta n hm K p)
  refine ⟨⟨rtf_eq (D.rtf O.free (tb_nz.2 hk)) fun j _ => e j, ?_⟩, fun y hy => ?_⟩
  · obtain ⟨z, hz, h⟩ := D.free
    refine ⟨z, hz, .inl ?_⟩
    unfold delF
    rw [e z]
    exact h
  · have := D.mem (ce hm y) (by rw [ce_one]; omega) (tb_nz.2 hk)
    unfold delF
    rw [in_tb (hm := hm), in_tb (hm := hm) (K := K)]
    constructor
    · rintro ⟨q, hq, h⟩
      obtain ⟨h1, h2⟩ := this.1 ⟨q, hq, by rw [← e]; exact h⟩
      exact ⟨fun h => h1 (by rw [h]; rfl), h2⟩
    · rintro ⟨h1, h2⟩
      obtain ⟨q, hq, h⟩ := this.2 ⟨fun h => h1 (ce_eq h), h2⟩
      exact ⟨q, hq, by rw [e]; exact h⟩
/-- Put in and taken out again. -/
theorem ins_at {n : Nat} {hm K : Nat → Nat} {x : Nat} : insF n hm K x (ps n (hm x) (opn n hm K (hm x))) = x := by
  unfold insF insk
  rw [if_pos off_self]
theorem del_ins {n : Nat} {hm K : Nat → Nat} (O : Ok n hm K) {x z : Nat} (hx : x ≠ 0) (hh : hm x < n) (hf : ∀ i, i < n → K i ≠ x) (hz : z < n) (hk : K z = 0) :
    ∀ q, q < n → delF n hm (insF n hm K x) (ps n (hm x) (opn n hm K (hm x))) q = K q := by
  have I := ins_h O hx hh hf hz hk
  obtain ⟨O2, -⟩ := ok_ins O hx hh hf hz hk
  obtain ⟨D, hD⟩ := I.del
  have e := tb_ins n hm K x (ps n (hm x) (opn n hm K (hm x))) (emp n K (ps n (hm x) (opn n hm K (hm x))))
  have e2 : tb hm (insF n hm K x) = insf n (tb hm K) (ce hm x) (ps n (hm x) (opn n hm K (hm x))) (emp n K (ps n (hm x) (opn n hm K (hm x)))) := funext e
  have D2 : DelH n (tb hm (insF n hm K x)) (ps n (hm x) (opn n hm K (hm x))) (emp n K (ps n (hm x) (opn n hm K (hm x)))) := by rw [e2]; exact D
  intro q hq
  have h1 := hD q hq
  rw [← e2, ← tb_del] at h1
  unfold delF
  rw [sta_eq O2 D2]
  exact ce_eq h1
/-- A slot holds another place with the same home. -/
theorem ok_move {n : Nat} {hm K : Nat → Nat} (O : Ok n hm K) {p y : Nat} (hp : p < n) (hk : K p ≠ 0) (hy : y ≠ 0) (hh : hm y = hm (K p)) (hf : ∀ i, i < n → K i ≠ y) :
    Ok n hm (up K p y) ∧ ∀ z, z ≠ 0 → (In n (up K p y) z ↔ z = y ∨ z ≠ K p ∧ In n K z) := by
  have far : ∀ i, frf n (tb hm (up K p y)) i = frf n (tb hm K) i := fun i => by
    unfold frf
    by_cases e : i = p
    · subst e
      rw [show tb hm (up K i y) i = ce hm y by unfold tb; rw [up_at], ce_two hy, hh, show (tb hm K i).2 = (hm (K i) : Int) from ce_two hk]
    · rw [show tb hm (up K p y) i = tb hm K i by unfold tb; rw [up_ne _ _ e]]
  have nz : ∀ i, (tb hm (up K p y) i).1 ≠ 0 ↔ (tb hm K i).1 ≠ 0 := fun i => by
    rw [tb_nz, tb_nz]
    by_cases e : i = p
    · subst e; rw [up_at]; exact ⟨fun _ => hk, fun _ => hy⟩
    · rw [up_ne _ _ e]
  have sec : ∀ i, (tb hm (up K p y) i).2 = (tb hm K i).2 := fun i => by
    by_cases e : i = p
    · subst e
      rw [show tb hm (up K i y) i = ce hm y by unfold tb; rw [up_at], ce_two hy, hh, show (tb hm K i).2 = (hm (K i) : Int) from ce_two hk]
    · rw [show tb hm (up K p y) i = tb hm K i by unfold tb; rw [up_ne _ _ e]]
  refine ⟨⟨⟨O.rt.pos, fun i hi he => ?_, fun i hi he => ?_, fun i j hi hj hne he => ?_, fun i hi he => ?_⟩, ?_⟩, fun z hz => ?_⟩
  · rw [sec]
    refine O.rt.emp i hi (Decidable.byContradiction fun h => ?_)
    exact (nz i).2 h he
  · rw [sec]
    exact O.rt.hm i hi ((nz i).1 he)
  · rw [tb_one, tb_one]
    by_cases e : i = p
    · subst e
      rw [up_at, up_ne _ _ (Ne.symm hne)]
      have := hf j hj
      omega
    · rw [up_ne _ _ e]
      by_cases e2 : j = p
      · subst e2
        rw [up_at]
        have := hf i hi
        omega
      · rw [up_ne _ _ e2]
        have := O.rt.ne i j hi hj hne ((nz i).1 he)
        rw [tb_one, tb_one] at this
        exact this
  · rw [far, far, nz]
    exact O.rt.led i hi ((nz i).1 he)
  · obtain ⟨z, hz, h⟩ := O.free
    refine ⟨z, hz, ?_⟩
    rw [far]
    refine h.imp (fun h => Decidable.byContradiction fun q => (nz z).1 q h) id
  · constructor
    · rintro ⟨q, hq, h⟩
      by_cases e : q = p
      · subst e; rw [up_at] at h; exact .inl h.symm
      · rw [up_ne _ _ e] at h
        exact .inr ⟨fun e2 => e (O.one hq hp (by omega) (by omega)), q, hq, h⟩
    · rintro (h | ⟨h, q, hq, h2⟩)
      · exact ⟨p, hp, by rw [up_at, h]⟩
      · exact ⟨q, hq, by rw [up_ne _ _ (by rintro rfl; exact h h2.symm)]; exact h2⟩

/-! ### Found -/
def hit (K : Nat → Nat) (P : Nat → Bool) (q : Nat) : Bool := decide (K q ≠ 0) && P (K q)
def enK (n : Nat) (hm K : Nat → Nat) (h : Nat) (P : Nat → Bool) : Nat := sk (fun s => hit K P (ps n h s) || opb n hm K h (ps n h s)) n
/-- The slot at which a search is done. -/
def slF (n : Nat) (hm K : Nat → Nat) (h : Nat) (P : Nat → Bool) : Option Nat :=
  if enK n hm K h P < n ∧ hit K P (ps n h (enK n hm K h P)) = true then some (ps n h (enK n hm K h P)) else none
theorem slF_some {n : Nat} {hm K : Nat → Nat} {h q : Nat} {P : Nat → Bool} (hh : h < n) (e : slF n hm K h P = some q) : q < n ∧ K q ≠ 0 ∧ P (K q) = true := by
  unfold slF at e
  split at e
  · rename_i c
    cases e
    refine ⟨ps_lt hh (by omega), ?_⟩
    have := c.2
    unfold hit at this
    rw [Bool.and_eq_true, decide_eq_true_eq] at this
    exact this
  · cases e
theorem slF_found {n : Nat} {hm K : Nat → Nat} (O : Ok n hm K) {P : Nat → Bool} {i : Nat} (hi : i < n) (hk : K i ≠ 0) (hP : P (K i) = true) : ∃ q, slF n hm K (hm (K i)) P = some q := by
  have hh := O.home hi hk
  have hd := off_lt hh hi
  have hit' : hit K P i = true := by unfold hit; simp [hk, hP]
  have h1 : enK n hm K (hm (K i)) P ≤ off n (hm (K i)) i := sk_lt hd (by rw [ps_off hh hi, hit']; rfl)
  refine ⟨_, if_pos ⟨by omega, ?_⟩⟩
  rcases Nat.lt_or_ge (enK n hm K (hm (K i)) P) (off n (hm (K i)) i) with q | q
  · have h2 := sk_yes (P := fun s => hit K P (ps n (hm (K i)) s) || opb n hm K (hm (K i)) (ps n (hm (K i)) s)) (n := n) (show enK n hm K (hm (K i)) P < n by omega)
    simp only [Bool.or_eq_true] at h2
    rcases h2 with h2 | h2
    · exact h2
    · exfalso
      refine not_open O.rt hi (tb_nz.2 hk) (ce_two hk) (O.far hi hk) _ q ?_
      exact (opb_iff O hh (ps_lt hh (by omega))).1 h2
  · rw [show enK n hm K (hm (K i)) P = off n (hm (K i)) i by omega, ps_off hh hi]
    exact hit'
theorem slF_one {n : Nat} {hm K : Nat → Nat} (O : Ok n hm K) {i : Nat} (hi : i < n) (hk : K i ≠ 0) : slF n hm K (hm (K i)) (fun x => decide (x = K i)) = some i := by
  obtain ⟨q, hq⟩ := slF_found O (P := fun x => decide (x = K i)) hi hk (by simp)
  obtain ⟨h1, h2, h3⟩ := slF_some (O.home hi hk) hq
  rw [hq, O.one h1 hi h2 (by simpa using h3)]
theorem slF_none {n : Nat} {hm K : Nat → Nat} {h x : Nat} (hh : h < n) (hx : ∀ i, i < n → K i ≠ x) : slF n hm K h (fun y => decide (y = x)) = none := by
  cases e : slF n hm K h (fun y => decide (y = x)) with
  | none => rfl
  | some q =>
    obtain ⟨h1, h2, h3⟩ := slF_some hh e
    exact absurd (by simpa using h3) (hx q h1)
/-- The slot that holds a place, wherever it is. -/
def fnS (n : Nat) (K : Nat → Nat) (h : Nat) (P : Nat → Bool) : Nat := sk (fun s => hit K P (ps n h s)) n
theorem fnS_none {n : Nat} {K : Nat → Nat} {h x : Nat} (hh : h < n) (hx : ∀ i, i < n → K i ≠ x) : fnS n K h (fun y => decide (y = x)) = n := by
  refine sk_eq (Nat.le_refl _) (fun j hj => ?_) (fun h => by omega)
  unfold hit
  simp [hx _ (ps_lt hh (Nat.le_of_lt hj))]
theorem fnS_at {n : Nat} {hm K : Nat → Nat} (O : Ok n hm K) {h i : Nat} (hh : h < n) (hi : i < n) (hk : K i ≠ 0) : fnS n K h (fun y => decide (y = K i)) < n ∧ ps n h (fnS n K h (fun y => decide (y = K i))) = i := by
  have h1 : fnS n K h (fun y => decide (y = K i)) ≤ off n h i := sk_lt (off_lt hh hi) (by rw [ps_off hh hi]; unfold hit; simp [hk])
  have h2 := off_lt hh hi
  refine ⟨by omega, ?_⟩
  have h3 := sk_yes (P := fun s => hit K (fun y => decide (y = K i)) (ps n h s)) (n := n) (show fnS n K h (fun y => decide (y = K i)) < n by omega)
  have h4 : hit K (fun y => decide (y = K i)) (ps n h (fnS n K h (fun y => decide (y = K i)))) = true := h3
  unfold hit at h4
  rw [Bool.and_eq_true, decide_eq_true_eq, decide_eq_true_eq] at h4
  exact O.one (ps_lt hh (by omega)) hi h4.1 h4.2
end Go.Proofs.YtcpfnmphcndmjaaGreatDoor.Ind

namespace Go.Proofs.YtcpfnmphcndmjaaGreatDoor.Ind
open Go.RowKit Num
open Mem (Mm MemC MRet Hm rd blkM)
open Lis (Cf LM LR Tb at_ Nx Pv Rep Hx valsN)
open Sla (Sl St Sx SM SR SlabOk Out Lv pl aT pV ok_base bl_in bl_apart mem_lt Tk)
open Cls (szC blC pdC)
open Arn (wrL is64)
open Rin (st_self st_len st_bytes lv_at lv_apart st_kind kX Sx.inside room_live)
set_option linter.unusedVariables false

/-- An entry or a node. -/
structure Bk where
  node : Bool
  name : Nat
  typ : Nat
  lab : List Int
  hash : Nat
def Bk.tag (b : Bk) : Int := if b.node then 2 else 1
def Bk.blk (b : Bk) : Hea.Blk := if b.node then { Hea.Blk.zero with tag := 2, cls := 1, name := b.name, lab := b.lab.length, hash := b.hash } else { Hea.Blk.zero with tag := 1, cls := 1, name := b.name, typ := b.typ, hash := b.hash }
structure Bk.Ok (b : Bk) : Prop where
  name : b.name < 4294967296
  typ : b.typ < 65536
  hash : b.hash < 4294967296
  lab : b.lab.length ≤ 16
  node : b.node = true → b.typ = 0 ∧ 1 ≤ b.lab.length
  entry : b.node = false → b.lab = []
def hom (b : Bk) : Nat := b.hash % 224
theorem hom_lt (b : Bk) : hom b < 224 := Nat.mod_lt _ (by omega)
theorem Bk.Ok.blk_ok {b : Bk} (h : b.Ok) : b.blk.Ok ∧ Hea.RightP b.blk ∧ b.blk.tag = b.tag := by
  obtain ⟨h1, h2, h3, h4, h5, h6⟩ := h
  cases hn : b.node with
  | true =>
    obtain ⟨h7, h8⟩ := h5 hn
    have e1 : b.blk = { Hea.Blk.zero with tag := 2, cls := 1, name := b.name, lab := b.lab.length, hash := b.hash } := by unfold Bk.blk; rw [hn]; rfl
    have e2 : b.tag = 2 := by unfold Bk.tag; rw [hn]; rfl
    rw [e1, e2]
    refine ⟨?_, ?_, rfl⟩
    · constructor <;> simp [Hea.Blk.zero, Hea.i64, Hea.u32, Hea.u64, Hea.u16] <;> omega
    · refine .inr (.inr ?_)
      simp [Hea.Blk.zero]
      omega
  | false =>
    have e1 : b.blk = { Hea.Blk.zero with tag := 1, cls := 1, name := b.name, typ := b.typ, hash := b.hash } := by unfold Bk.blk; rw [hn]; rfl
    have e2 : b.tag = 1 := by unfold Bk.tag; rw [hn]; rfl
    rw [e1, e2]
    refine ⟨?_, ?_, rfl⟩
    · constructor <;> simp [Hea.Blk.zero, Hea.i64, Hea.u32, Hea.u64, Hea.u16] <;> omega
    · refine .inr (.inl ?_)
      simp [Hea.Blk.zero]
/-- The bytes at x say a block. -/
structure BAt (l : List Int) (x : Nat) (b : Bk) : Prop where
  ok : b.Ok
  hd : (l.drop x).take (Hea.encL b.blk).length = Hea.encL b.blk
  lab : (l.drop (x + 16)).take b.lab.length = b.lab ∨ b.node = false
theorem enc_len {b : Bk} (h : b.Ok) : (Hea.encL b.blk).length = if b.node then 16 else 32 := by
  have ht := h.blk_ok.2.2
  unfold Bk.tag at ht
  cases hn : b.node <;> rw [hn] at ht <;> simp [Hea.encL, ht, Hea.p1, Hea.p4, Hea.p8, Hea.p2]
theorem part_agree {l l' : List Int} {a n : Nat} (hl : l'.length = l.length) (h : ∀ t, a ≤ t → t < a + n → l'.getD t 0 = l.getD t 0) : (l'.drop a).take n = (l.drop a).take n := by
  refine Mem.list_of_getD (by simp [hl]) (fun i hi => ?_)
  have h1 : i < n := by simp at hi; omega
  have := h (a + i) (by omega) (by omega)
  simp [List.getD, h1] at this ⊢
  exact this
theorem BAt.same {l l' : List Int} {x : Nat} {b : Bk} (h : BAt l x b) (hl : l'.length = l.length) (hs : ∀ t, x ≤ t → t < x + 32 → l'.getD t 0 = l.getD t 0) : BAt l' x b := by
  have he := enc_len h.ok
  refine ⟨h.ok, ?_, ?_⟩
  · rw [part_agree hl (fun t q1 q2 => hs t q1 (by rw [he] at q2; split at q2 <;> omega))]
    exact h.hd
  · have := h.ok.lab
    rw [part_agree hl (fun t q1 q2 => hs t (by omega) (by omega))]
    exact h.lab
theorem BAt.tag {l : List Int} {x : Nat} {b : Bk} (h : BAt l x b) : l.getD x 0 = b.tag := by
  have he := enc_len h.ok
  have hp : 0 < (Hea.encL b.blk).length := by rw [he]; split <;> omega
  have h1 : (Hea.encL b.blk).getD 0 0 = b.tag := by
    rw [← h.ok.blk_ok.2.2]
    simp [Hea.encL, Hea.p1]
  rw [← h.hd, take_getD _ _ _ hp, drop_getD] at h1
  exact h1
/-- What the fields say. -/
def fldV (b : Bk) (f : Nat) : Int := if f = 0 then b.tag else if f = 3 then b.lab.length else if f = 4 then b.name else if f = 8 then b.typ else b.hash
theorem BAt.ld {l : List Int} {x : Nat} {b : Bk} (h : BAt l x b) {f : Nat} (hf : f = 0 ∨ f = 3 ∨ f = 4 ∨ f = 8 ∨ f = 10) : Hea.ldF l x b.tag (f : Int) = fldV b f := by
  obtain ⟨k1, k2, k3⟩ := h.ok.blk_ok
  by_cases h8 : f = 8 ∧ b.node = true
  · obtain ⟨rfl, hn⟩ := h8
    have e : b.tag = 2 := by unfold Bk.tag; rw [hn]; rfl
    rw [e]
    unfold Hea.ldF
    rw [if_pos (by decide)]
    unfold fldV
    simp [(h.ok.node hn).1]
  · have hh : Hea.hasF b.blk.tag f = true := by
      rw [k3]
      unfold Bk.tag
      cases hn : b.node
      · rcases hf with rfl | rfl | rfl | rfl | rfl <;> decide
      · rcases hf with rfl | rfl | rfl | rfl | rfl
        · decide
        · decide
        · decide
        · exact absurd ⟨rfl, hn⟩ h8
        · decide
    have := Hea.ld_num k1 k2 h.hd hh (by omega)
    rw [k3] at this
    rw [this]
    have ho := h.ok
    obtain ⟨m1, m2, m3, m4, m5, m6⟩ := ho
    cases hn : b.node
    · have e0 := m6 hn
      rcases hf with rfl | rfl | rfl | rfl | rfl <;> simp [fldV, Hea.numF, Bk.blk, Bk.tag, hn, Hea.Blk.zero, e0] <;> first | decide | rfl
    · rcases hf with rfl | rfl | rfl | rfl | rfl
      · simp [fldV, Hea.numF, Bk.blk, Bk.tag, hn]; decide
      · simp [fldV, Hea.numF, Bk.blk, hn]; exact Hea.u64_id (by omega) (by omega)
      · simp [fldV, Hea.numF, Bk.blk, hn]
      · exact absurd ⟨rfl, hn⟩ h8
      · simp [fldV, Hea.numF, Bk.blk, hn]

/-! ### The memory -/
section
variable {h : Hm} {S N : Nat} {l0 l l' : List Int} {T T' : List Sl} {w w' W W' : World}
theorem Sx.slots {C : Cf} {H : List Hx} {L : List Int} (h5 : Sx l0 C l H L T) (hl : l'.length = l.length) (hs : ∀ t, t < 128 + 16 * C.s ∨ Lay.baseT C.s C.n ≤ t → l'.getD t 0 = l.getD t 0) : Sx l' C l' H L T := by
  refine ⟨h5.ok, Sla.rep_low h5.rep hl (fun t ht => hs t (.inl ht)), h5.xl, hl.trans h5.ll, h5.tl, fun _ _ _ => rfl, h5.xlow, fun j hj => ?_⟩
  exact (h5.sl j hj).same (fun t h1 h2 => ⟨hs t (.inr (by unfold aT at h1; omega)), rfl⟩)
theorem base7 : Lay.baseT 7 224 = 1136 := by decide
theorem slot_look {C : Cf} {H : List Hx} {L : List Int} (h5 : Sx l0 C l H L T) (e1 : C.s = 7) (e2 : C.n = 224) {i : Nat} (hi : i < 224) : Wat.lookA C.x ((240 + i * 4 : Nat) : Int) ((4 : Nat) : Int) 4 = true := by
  have hb := ok_base h5.ok
  rw [e1, e2, base7] at hb
  refine Mem.look_iff.2 ⟨by decide, by rw [h5.xl, e1, e2]; omega, by omega, by decide, fun j hj => ?_⟩
  rw [h5.xlow _ (by rw [e1, e2, base7]; omega), e1, e2]
  unfold Mem.kindT
  rw [if_neg (by omega), if_neg (by omega), if_neg (by unfold Lay.slT; omega), if_pos (by unfold Lay.endT; omega)]
theorem st_slot (d : St h 7 224 l0 l T W) {i : Nat} (hi : i < 224) :
    Calls Tryz.prog 141 #[pV h, .int .i64 ((240 + i * 4 : Nat) : Int), .int .i64 4, .int .i64 4] W fun e W' => e = .returned (.int .u64 (rd l (240 + i * 4) 4)) ∧ St h 7 224 l0 l T W' ∧ Fr W.heap.size (blkM h) W W' := by
  obtain ⟨H, L, ⟨C, q1, q2, h3, h4, h5⟩, d2⟩ := d
  obtain ⟨ht, lk, hm⟩ := id h4.m
  have hl := Mem.load_any h _ (C.mm l lk) ((240 + i * 4 : Nat) : Int) ((4 : Nat) : Int) 4 W hm (by unfold is64; omega)
  rw [Mem.load_ok (M := C.mm l lk) (slot_look h5 q1 q2 hi) hm.lenx] at hl
  refine Calls.mono hl ?_
  intro e w' hq
  have hr : SR h C l (.int .u64 (rd l (240 + i * 4) 4)) W e w' := h4.mret (lk := wrap64 (lk + 1)) hq
  exact ⟨hr.1, ⟨H, L, ⟨C, q1, q2, h3, hr.2.1, h5⟩, d2⟩, hr.2.2⟩
theorem st_setSlot (d : St h 7 224 l l T W) {i v : Nat} (hi : i < 224) (hv : v < 4294967296) :
    Calls Tryz.prog 105 #[pV h, .int .i64 ((240 + i * 4 : Nat) : Int), .int .i64 4, .int .i64 4, .int .u64 (v : Int)] W fun e W' => e = .returned (.bool true) ∧ St h 7 224 (stl l (240 + i * 4) 4 (v : Int)) (stl l (240 + i * 4) 4 (v : Int)) T W' ∧ Fr W.heap.size (blkM h) W W' := by
  obtain ⟨k1, k2, k3⟩ := st_len d
  rw [show Lay.sizeT 7 224 = 8304 by decide] at k1
  obtain ⟨H, L, ⟨C, q1, q2, h3, h4, h5⟩, d2⟩ := d
  obtain ⟨ht, lk, hm⟩ := id h4.m
  have hfit : fits (v : Int) ((4 : Nat) : Int) = true := by simp [fits, isW]; omega
  have hl := Mem.store_any h _ (C.mm l lk) ((240 + i * 4 : Nat) : Int) ((4 : Nat) : Int) 4 (v : Int) W hm (by unfold is64; omega) (by omega) (by omega)
  rw [Mem.store_ok (M := C.mm l lk) (slot_look h5 q1 q2 hi) hm.lenx hfit] at hl
  refine Calls.mono hl ?_
  intro e w' hq
  have hr : SR h C (stl l (240 + i * 4) 4 (v : Int)) (.bool true) W e w' := h4.mret (lk := wrap64 (lk + 1)) hq
  have hx := Sx.slots (l' := stl l (240 + i * 4) 4 (v : Int)) h5 (stl_length _ _ _ _ (by omega) (by omega)) (fun t q => Lis.st_get (by omega) (by omega) (by rw [q1, q2, base7] at q; omega))
  exact ⟨hr.1, ⟨H, L, ⟨C, q1, q2, h3, hr.2.1, hx⟩, d2⟩, hr.2.2⟩
theorem room_tag {C : Cf} {H : List Hx} {L : List Int} (h5 : Sx l0 C l H L T) {j k : Nat} (hj : j < C.s) (hk : k ∈ (T.getD j Sl.zero).v) (l' : List Int) (lk : Int) (b : Bk) : Hea.Room (C.mm l' lk) (pl (aT C.s C.n j) (T.getD j Sl.zero).c k) b.tag := by
  obtain ⟨r1, r2, r3, r4⟩ := room_live h5 hj hk l' lk
  have e1 : (Hea.szF 1).toNat = 32 := rfl
  have e2 : Hea.kdF 1 = 5 := rfl
  unfold Bk.tag
  cases b.node
  · exact ⟨r1, r2, r3, r4⟩
  · rw [e1] at r3 r4
    rw [e2] at r4
    have e3 : (Hea.szF 2).toNat = 16 := rfl
    exact ⟨by decide, r2, by show _ + (Hea.szF 2).toNat ≤ _; rw [e3]; omega, fun i hi => by
      have hi2 : i < 16 := hi
      exact r4 i (by omega)⟩
theorem st_fld (d : St h S N l0 l T W) {x : Nat} (hx : Lv S N T x) {b : Bk} (hb : BAt l x b) {f : Nat} (hf : f = 0 ∨ f = 3 ∨ f = 4 ∨ f = 8 ∨ f = 10) :
    Calls Tryz.prog 104 #[pV h, .int .i64 (x : Int), .int .i64 (f : Int)] W fun e W' => e = .returned (.int .u64 (fldV b f)) ∧ St h S N l0 l T W' ∧ Fr W.heap.size (blkM h) W W' := by
  obtain ⟨H, L, ⟨C, rfl, rfl, h3, h4, h5⟩, d2⟩ := d
  obtain ⟨j, k, hj, hk, rfl⟩ := hx
  obtain ⟨-, lk0, hm⟩ := id h4.m
  refine (Hea.hload_any h _ (C.mm l lk0) _ b.tag (f : Int) W h4.t hm (room_tag h5 hj hk l lk0 b) (fun _ => hb.tag)).mono ?_
  rintro e w' ⟨lk, hq⟩
  rw [show (C.mm l lk0).l = l from rfl, hb.ld hf] at hq
  have hr : SR h C l (.int .u64 (fldV b f)) W e w' := h4.mret (lk := lk) hq
  exact ⟨hr.1, ⟨H, L, ⟨C, rfl, rfl, h3, hr.2.1, h5⟩, d2⟩, hr.2.2⟩
/-- A live block's bytes are live, all of them. -/
theorem live_at (d : St h S N l0 l T W) {x n : Nat} (hx : Lv S N T x) (h0 : 0 < n) (hn : n ≤ 32) : Wat.kndA (kX S N T) (x : Int) (n : Int) = 5 := by
  obtain ⟨H, L, ⟨C, rfl, rfl, h3, h4, h5⟩, d2⟩ := d
  obtain ⟨j, k, hj, hk, rfl⟩ := hx
  have hb := ok_base h5.ok
  obtain ⟨h1, h2⟩ := mem_lt hk
  have hin := bl_in h1
  rw [← Rin.sx_x h5]
  have hg : ∀ i, i < 32 → C.x.getD (pl (aT C.s C.n j) (T.getD j Sl.zero).c k + i) 0 = 5 := fun i hi => by
    have := (h5.sl j hj).k k h1 i (by omega)
    rw [if_neg h2] at this
    exact this
  generalize hp : pl (aT C.s C.n j) (T.getD j Sl.zero).c k = p at hg
  have hlen : p + 32 ≤ C.x.length := by rw [h5.xl, ← hp]; unfold pl aT; omega
  unfold Wat.kndA
  rw [if_pos (Arn.fitB_of (by omega)), Int.toNat_natCast, Int.toNat_natCast]
  have hl : ((C.x.drop p).take n).length = n := by rw [List.length_take, List.length_drop]; omega
  have hgg : ∀ i, i < n → ((C.x.drop p).take n).getD i 0 = 5 := fun i hi => by rw [take_getD _ _ _ hi, drop_getD, hg i (by omega)]
  unfold Wat.kndS
  rw [if_pos, hgg 0 h0]
  exact ⟨fun e => by rw [e] at hl; simp at hl; omega, fun i hi => by rw [hgg i (by omega), hgg 0 h0]⟩
/-- A part of a live block is written. -/
theorem st_writeAt (d : St h S N l l T W) {x o : Nat} (hx : Lv S N T x) {u : Value} {X : List Int} (hX : o + X.length ≤ 32) (hu : Row .u8 W u X) (hub : ∀ b, u.ownBlock = some b → ¬ blkM h b) :
    Calls Tryz.prog 56 #[pV h, .int .i64 ((x + o : Nat) : Int), u, .int .i64 5] W fun e w' => e = .returned (.bool true) ∧ St h S N (wrL l (x + o) X) (wrL l (x + o) X) T w' ∧ Fr W.heap.size (blkM h) W w' := by
  have hat := lv_at d hx
  have hlen := st_len d
  obtain ⟨H, L, ⟨C, rfl, rfl, h3, h4, h5⟩, d2⟩ := d
  obtain ⟨j, k, hj, hk, rfl⟩ := hx
  obtain ⟨k1, k2⟩ := mem_lt hk
  have hin := bl_in k1
  obtain ⟨ht, lk0, hm⟩ := id h4.m
  refine (Mem.write_any h _ (C.mm l lk0) ((pl (aT C.s C.n j) (T.getD j Sl.zero).c k + o : Nat) : Int) 5 u X W hm (by unfold Arn.is64; omega) hu (fun b hb q => hub b hb (.inr (.inl q)))).mono ?_
  intro e w' hq
  obtain ⟨lk, hlk⟩ := Sla.look_ok (M := C.mm l lk0) (a := pl (aT C.s C.n j) (T.getD j Sl.zero).c k + o) (n := X.length) (k := 5) (by omega) (fun i hi => by
    have := (h5.sl j hj).k k k1 (o + i) (by omega)
    rw [if_neg k2] at this
    rw [← this, Nat.add_assoc]
    rfl) (by show _ ≤ C.x.length; rw [h5.xl]; omega) hm.lenx
  rw [Mm.write, hlk, if_pos rfl, Int.toNat_natCast] at hq
  have hr : SR h C (wrL l (pl (aT C.s C.n j) (T.getD j Sl.zero).c k + o) X) (.bool true) W e w' := h4.mret (lk := lk) hq
  have hx := Sx.inside (l' := wrL l (pl (aT C.s C.n j) (T.getD j Sl.zero).c k + o) X) h5 hj hk (Arn.wrL_length _ _ _ (by omega)) (fun t q => by
    rw [Mem.wr_get _ _ _ _ (by omega), if_neg (by omega)])
  exact ⟨hr.1, st_self ⟨H, L, ⟨C, rfl, rfl, h3, hr.2.1, hx⟩, d2⟩, hr.2.2⟩
/-- A part of a live block is read. -/
theorem st_readAt (d : St h S N l0 l T W) {x o n : Nat} (hx : Lv S N T x) (hn : o + n ≤ 32) :
    Calls Tryz.prog 121 #[pV h, .int .i64 ((x + o : Nat) : Int), .int .i64 (n : Int), .int .i64 5] W fun e w' => ∃ u, e = .returned u ∧ St h S N l0 l T w' ∧ Fr W.heap.size (blkM h) W w' ∧ Arn.NewRow W.heap.size w' u ((l.drop (x + o)).take n) := by
  have hat := lv_at d hx
  have hlen := st_len d
  obtain ⟨H, L, ⟨C, rfl, rfl, h3, h4, h5⟩, d2⟩ := d
  obtain ⟨j, k, hj, hk, rfl⟩ := hx
  obtain ⟨k1, k2⟩ := mem_lt hk
  have hin := bl_in k1
  obtain ⟨ht, lk0, hm⟩ := id h4.m
  refine (Mem.read_any h _ (C.mm l lk0) ((pl (aT C.s C.n j) (T.getD j Sl.zero).c k + o : Nat) : Int) n 5 W hm (by unfold Arn.is64; omega) (by unfold Arn.is64; omega)).mono ?_
  rintro e w' ⟨u, hq, hrow⟩
  obtain ⟨lk, hlk⟩ := Sla.look_ok (M := C.mm l lk0) (a := pl (aT C.s C.n j) (T.getD j Sl.zero).c k + o) (n := n) (k := 5) (by omega) (fun i hi => by
    have := (h5.sl j hj).k k k1 (o + i) (by omega)
    rw [if_neg k2] at this
    rw [← this, Nat.add_assoc]
    rfl) (by show _ ≤ C.x.length; rw [h5.xl]; omega) hm.lenx
  rw [Mm.read, hlk, if_pos rfl, Int.toNat_natCast, Int.toNat_natCast] at hq hrow
  have hr : SR h C l u W e w' := h4.mret (lk := lk) hq
  exact ⟨u, hr.1, ⟨H, L, ⟨C, rfl, rfl, h3, hr.2.1, h5⟩, d2⟩, hr.2.2, hrow⟩
/-- A head is put. -/
theorem st_putBk (d : St h S N l l T W) {x : Nat} (hx : Lv S N T x) {b : Bk} (hb : b.Ok) :
    Calls Tryz.prog 55 #[pV h, .int .i64 (x : Int), b.blk.agg] W fun e W' => e = .returned (.int .i64 0) ∧ St h S N (wrL l x (Hea.encL b.blk)) (wrL l x (Hea.encL b.blk)) T W' ∧ Fr W.heap.size (blkM h) W W' := by
  have hat := lv_at d hx
  have hlen := st_len d
  have he := enc_len hb
  have he2 : (Hea.encL b.blk).length ≤ 32 := by rw [he]; split <;> omega
  obtain ⟨g1, g2, g3⟩ := hb.blk_ok
  obtain ⟨H, L, ⟨C, rfl, rfl, h3, h4, h5⟩, d2⟩ := d
  obtain ⟨j, k, hj, hk, rfl⟩ := hx
  have hin := bl_in (mem_lt hk).1
  refine (h4.put b.blk g1 g2 (fun lk => by rw [g3]; exact room_tag h5 hj hk l lk b)).mono ?_
  intro e w' hr
  have hx := Sx.inside (l' := wrL l (pl (aT C.s C.n j) (T.getD j Sl.zero).c k) (Hea.encL b.blk)) h5 hj hk (Arn.wrL_length _ _ _ (by omega)) (fun t q => by
    rw [Mem.wr_get _ _ _ _ (by omega), if_neg (by omega)])
  exact ⟨hr.1, st_self ⟨H, L, ⟨C, rfl, rfl, h3, hr.2.1, hx⟩, d2⟩, hr.2.2⟩
end
end Go.Proofs.YtcpfnmphcndmjaaGreatDoor.Ind

namespace Go.Proofs.YtcpfnmphcndmjaaGreatDoor.Ind
open Go.RowKit Num
open Mem (Mm MemC MRet Hm rd blkM)
open Lis (Cf LM LR Tb at_ Nx Pv Rep Hx valsN)
open Sla (Sl St Lv pl aT pV Lo)
open Arn (wrL is64)
open Rin (st_self st_len st_bytes lv_at lv_apart st_kind kX st_config)
set_option linter.unusedVariables false

/-- What stays the same while slots change: where the memory lies, its slabs, the blocks, the bytes at some time. -/
structure Fx where
  h : Hm
  T : List Sl
  E : List Nat
  B : Nat → Bk
  lb : List Int
/-- Nothing but slots is changed. -/
structure Nc (l l' : List Int) : Prop where
  len : l'.length = l.length
  out : ∀ t, ¬ (240 ≤ t ∧ t < 1136) → l'.getD t 0 = l.getD t 0
theorem Nc.refl (l : List Int) : Nc l l := ⟨rfl, fun _ _ => rfl⟩
theorem Nc.trans {a b c : List Int} (h : Nc a b) (k : Nc b c) : Nc a c := ⟨k.len.trans h.len, fun t q => (k.out t q).trans (h.out t q)⟩
/-- The slots hold K. -/
def Sls (l : List Int) (K : Nat → Nat) : Prop := ∀ i, i < 224 → rd l (240 + i * 4) 4 = (K i : Int)
structure En (X : Fx) (l : List Int) (K : Nat → Nat) (W : World) : Prop where
  st : St X.h 7 224 l l X.T W
  lv : ∀ x ∈ X.E, Lv 7 224 X.T x
  bk : ∀ x ∈ X.E, BAt l x (X.B x)
  sl : Sls l K
  kin : ∀ i, i < 224 → K i ≠ 0 → K i ∈ X.E
structure Ix (X : Fx) (K : Nat → Nat) (W : World) : Prop where
  ex : ∃ l, En X l K W ∧ Nc X.lb l
/-- What a call comes to. -/
def IxR (X : Fx) (K : Nat → Nat) (r : Value) (w : World) (e : Ending) (w' : World) : Prop := e = .returned r ∧ Ix X K w' ∧ Fr w.heap.size (blkM X.h) w w'
/-- The home of a place. -/
def hmX (X : Fx) (x : Nat) : Nat := hom (X.B x)
theorem sls_set {l : List Int} {K : Nat → Nat} (h : Sls l K) (hl : 1136 ≤ l.length) {p v : Nat} (hp : p < 224) (hv : v < 4294967296) : Sls (stl l (240 + p * 4) 4 (v : Int)) (up K p v) ∧ Nc l (stl l (240 + p * 4) 4 (v : Int)) := by
  have hfit : fits (v : Int) ((4 : Nat) : Int) = true := by simp [fits, isW]; omega
  refine ⟨fun i hi => ?_, stl_length _ _ _ _ (by omega) (by omega), fun t q => Lis.st_get (by omega) (by omega) (by omega)⟩
  by_cases e : i = p
  · subst e
    rw [up_at]
    exact Mem.rd_same (by omega) (by decide) (by omega) hfit
  · rw [up_ne _ _ e, Mem.rd_other (by omega) (by omega) (by omega)]
    exact h i hi
section
variable {X : Fx} {l : List Int} {K K' : Nat → Nat} {r r' : Value} {w w1 w2 w' W W' : World} {e e' : Ending}
theorem En.below (d : En X l K w) (hb : Below w.heap.size w w') : En X l K w' := ⟨d.st.below hb, d.lv, d.bk, d.sl, d.kin⟩
theorem Ix.below (d : Ix X K w) (hb : Below w.heap.size w w') : Ix X K w' := by
  obtain ⟨l, h1, h2⟩ := d
  exact ⟨l, h1.below hb, h2⟩
theorem Ix.drew (d : Ix X K w) : Ix X K w.drew := d.below (Below.refl _ _).drew
theorem Ix.lt (d : Ix X K w) : ∀ k, blkM X.h k → k < w.heap.size := by
  obtain ⟨l, h1, h2⟩ := d
  exact fun k hk => h1.st.lo.m k hk
theorem Ix.lo (d : Ix X K w) : Lo X.h w.heap.size := by
  obtain ⟨l, h1, h2⟩ := d
  exact h1.st.lo
theorem Ix.low (d : Ix X K w) {n : Nat} (hb : Below n w w') (hl : Lo X.h n) : Ix X K w' := by
  obtain ⟨l, h1, h2⟩ := d
  exact ⟨l, ⟨h1.st.stay hb hl, h1.lv, h1.bk, h1.sl, h1.kin⟩, h2⟩
theorem Ix.only (d : Ix X K w) (hb : Below w.heap.size w w') (r : Value) : IxR X K r w (.returned r) w' := ⟨rfl, d.below hb, Fr.of_below hb⟩
theorem IxR.then (h1 : IxR X K r w e w1) (h2 : IxR X K' r' w1 e' w2) : IxR X K' r' w e' w2 := ⟨h2.1, h2.2.1, h1.2.2.trans (h2.2.2.mono h1.2.2.size (fun _ _ hk => hk))⟩
theorem IxR.of_fr (hb : Below w.heap.size w w1) (h2 : IxR X K r w1 e w2) : IxR X K r w e w2 := ⟨h2.1, h2.2.1, (Fr.of_below hb).trans (h2.2.2.mono hb.size (fun _ _ hk => hk))⟩
theorem IxR.ret (h1 : IxR X K r w e w1) (r' : Value) : IxR X K r' w (.returned r') w1 := ⟨rfl, h1.2.1, h1.2.2⟩
theorem Ix.facts (d : Ix X K w) {x : Nat} (hx : x ∈ X.E) : 128 ≤ x ∧ x % 16 = 0 ∧ x + 32 ≤ 100000 := by
  obtain ⟨l, h1, h2⟩ := d
  have := lv_at h1.st (h1.lv x hx)
  omega
theorem Ix.ok (d : Ix X K w) {x : Nat} (hx : x ∈ X.E) : (X.B x).Ok := by
  obtain ⟨l, h1, h2⟩ := d
  exact (h1.bk x hx).ok
theorem Ix.kin (d : Ix X K w) {i : Nat} (hi : i < 224) (h : K i ≠ 0) : K i ∈ X.E := by
  obtain ⟨l, h1, h2⟩ := d
  exact h1.kin i hi h
theorem Ix.kbd (d : Ix X K w) {i : Nat} (hi : i < 224) : K i < 100000 := by
  by_cases h : K i = 0
  · omega
  · have := d.facts (d.kin hi h)
    omega
theorem Ix.congr (d : Ix X K w) (h : ∀ i, i < 224 → K' i = K i) : Ix X K' w := by
  obtain ⟨l, h1, h2⟩ := d
  exact ⟨l, ⟨h1.st, h1.lv, h1.bk, fun i hi => by rw [h i hi]; exact h1.sl i hi, fun i hi => by rw [h i hi]; exact h1.kin i hi⟩, h2⟩
theorem Ix.held (d : Ix X K w) {i : Nat} (hi : i < 224) :
    Calls Tryz.prog 141 #[pV X.h, .int .i64 ((240 + i * 4 : Nat) : Int), .int .i64 4, .int .i64 4] w (IxR X K (.int .u64 (K i : Int)) w) := by
  obtain ⟨l, h1, h2⟩ := d
  have := st_slot h1.st hi
  rw [h1.sl i hi] at this
  refine this.mono ?_
  rintro e w' ⟨rfl, hs, hf⟩
  exact ⟨rfl, ⟨l, ⟨hs, h1.lv, h1.bk, h1.sl, h1.kin⟩, h2⟩, hf⟩
theorem En.apart (d : En X l K w) {x : Nat} (hx : x ∈ X.E) : 1136 ≤ x := by
  obtain ⟨j, k, hj, hk, e⟩ := d.lv x hx
  have := base7
  unfold pl aT at e
  omega
theorem Ix.put (d : Ix X K w) {i v : Nat} (hi : i < 224) (hv : v = 0 ∨ v ∈ X.E) :
    Calls Tryz.prog 105 #[pV X.h, .int .i64 ((240 + i * 4 : Nat) : Int), .int .i64 4, .int .i64 4, .int .u64 (v : Int)] w (IxR X (up K i v) (.bool true) w) := by
  have hv2 : v < 4294967296 := by
    rcases hv with rfl | q
    · omega
    · have := d.facts q
      omega
  obtain ⟨l, h1, h2⟩ := d
  have hl := st_len h1.st
  rw [show Lay.sizeT 7 224 = 8304 by decide] at hl
  obtain ⟨k1, k2⟩ := sls_set h1.sl (by omega) hi hv2
  refine (st_setSlot h1.st hi hv2).mono ?_
  rintro e w' ⟨rfl, hs, hf⟩
  refine ⟨rfl, ⟨_, ⟨hs, h1.lv, fun x hx => (h1.bk x hx).same k2.len (fun t q1 q2 => k2.out t (by have := h1.apart hx; omega)), k1, fun j hj => ?_⟩, h2.trans k2⟩, hf⟩
  by_cases q : j = i
  · subst q
    rw [up_at]
    exact fun q => hv.resolve_left q
  · rw [up_ne _ _ q]
    exact h1.kin j hj
theorem Ix.fld (d : Ix X K w) {x : Nat} (hx : x ∈ X.E) {f : Nat} (hf : f = 0 ∨ f = 3 ∨ f = 4 ∨ f = 8 ∨ f = 10) :
    Calls Tryz.prog 104 #[pV X.h, .int .i64 (x : Int), .int .i64 (f : Int)] w (IxR X K (.int .u64 (fldV (X.B x) f)) w) := by
  obtain ⟨l, h1, h2⟩ := d
  refine (st_fld h1.st (h1.lv x hx) (h1.bk x hx) hf).mono ?_
  rintro e w' ⟨rfl, hs, hf⟩
  exact ⟨rfl, ⟨l, ⟨hs, h1.lv, h1.bk, h1.sl, h1.kin⟩, h2⟩, hf⟩
theorem Ix.live (d : Ix X K w) {x n : Nat} (hx : x ∈ X.E) (h0 : 0 < n) (hn : n ≤ 32) :
    Calls Tryz.prog 17 #[pV X.h, .int .i64 (x : Int), .int .i64 (n : Int)] w fun e w' => e = .returned (.int .i64 5) ∧ Below w.heap.size w w' := by
  have hb := d.facts hx
  obtain ⟨l, h1, h2⟩ := d
  have := st_kind h1.st (x : Int) (n : Int) (by unfold is64; omega)
  rw [live_at h1.st (h1.lv x hx) h0 hn] at this
  exact this
theorem Ix.kind (d : Ix X K w) (a n : Int) (ha : is64 a) :
    Calls Tryz.prog 17 #[pV X.h, .int .i64 a, .int .i64 n] w fun e w' => e = .returned (.int .i64 (Wat.kndA (kX 7 224 X.T) a n)) ∧ Below w.heap.size w w' := by
  obtain ⟨l, h1, h2⟩ := d
  exact st_kind h1.st a n ha
theorem Ix.config (d : Ix X K w) : Calls Tryz.prog 77 #[pV X.h] w fun e w' => e = .returned (.agg #[.int .i64 7, .int .i64 224]) ∧ Below w.heap.size w w' := by
  obtain ⟨l, h1, h2⟩ := d
  exact st_config h1.st
theorem Ix.slotAt (d : Ix X K w) : Calls Tryz.prog 78 #[.agg #[.int .i64 7, .int .i64 224], .int .i64 0] w fun e w' => e = .returned (.int .i64 240) ∧ Below w.heap.size w w' := by
  obtain ⟨l, h1, h2⟩ := d
  obtain ⟨H, L, d1, d2⟩ := h1.st
  exact Lay.slotAt_any 7 224 0 w d1.cls (by omega) (by omega) (by omega) (by omega) (by omega) (by omega)
theorem Ix.label (d : Ix X K w) {x : Nat} (hx : x ∈ X.E) (hn : (X.B x).node = true) :
    Calls Tryz.prog 121 #[pV X.h, .int .i64 ((x + 16 : Nat) : Int), .int .i64 ((X.B x).lab.length : Int), .int .i64 5] w fun e w' => ∃ u, IxR X K u w e w' ∧ Arn.NewRow w.heap.size w' u (X.B x).lab := by
  have hk := (d.ok hx).lab
  obtain ⟨l, h1, h2⟩ := d
  have e := (h1.bk x hx).lab.resolve_right (by rw [hn]; decide)
  have := st_readAt h1.st (h1.lv x hx) (o := 16) (n := (X.B x).lab.length) (by omega)
  rw [e] at this
  refine this.mono ?_
  rintro e w' ⟨u, rfl, hs, hf, hr⟩
  exact ⟨u, ⟨rfl, ⟨l, ⟨hs, h1.lv, h1.bk, h1.sl, h1.kin⟩, h2⟩, hf⟩, hr⟩
theorem Ix.faults (d : Ix X K w) (hz : X.h.z = false) : Calls Tryz.prog 23 #[pV X.h] w fun e w' => e = .returned (.int .i64 0) ∧ Below w.heap.size w w' := by
  obtain ⟨l, h1, h2⟩ := d
  exact h1.st.faults hz
/-- The bytes, as the slots and the others tell them. -/
theorem Ix.image (d : Ix X K w) : Calls Tryz.prog 27 #[pV X.h] w fun e w' => ∃ u l, e = .returned u ∧ Below w.heap.size w w' ∧ Arn.NewRow w.heap.size w' u l ∧ Sls l K ∧ Nc X.lb l ∧ Arn.IsBytes l := by
  obtain ⟨l, h1, h2⟩ := d
  refine h1.st.image.mono ?_
  rintro e w' ⟨u, rfl, hb, hr⟩
  exact ⟨u, l, rfl, hb, hr, h1.sl, h2, st_bytes h1.st⟩
end
/-- Bytes that say the same slots, and are the same elsewhere, are the same. -/
theorem same_bytes {lb l l' : List Int} {K : Nat → Nat} (hlb : 1136 ≤ lb.length) (h1 : Nc lb l) (h2 : Nc lb l') (k1 : Sls l K) (k2 : Sls l' K) (b1 : Arn.IsBytes l) (b2 : Arn.IsBytes l') : l' = l := by
  have e1 := h1.len
  have e2 := h2.len
  refine Mem.list_of_getD (h2.len.trans h1.len.symm) (fun t ht => ?_)
  by_cases q : 240 ≤ t ∧ t < 1136
  · obtain ⟨i, o, hi, ho, rfl⟩ : ∃ i o, i < 224 ∧ o < 4 ∧ t = 240 + i * 4 + o := ⟨(t - 240) / 4, (t - 240) % 4, by omega, by omega, by omega⟩
    exact Lis.rd_inj b2 b1 (h1.len.trans h2.len.symm) (a := 240 + i * 4) (n := 4) (by omega) ((k2 i hi).trans (k1 i hi).symm) (by omega) (by omega)
  · rw [h1.out t q, h2.out t q]
end Go.Proofs.YtcpfnmphcndmjaaGreatDoor.Ind

namespace Go.Proofs.YtcpfnmphcndmjaaGreatDoor.Ind
open Go.RowKit Num
open Pro
open Mem (Mm MemC MRet Hm rd blkM)
open Sla (Sl St Lv pl aT pV Lo)
open Arn (wrL is64)
set_option linter.unusedVariables false
set_option maxRecDepth 100000

theorem wrap_id {n : Int} (h1 : -9223372036854775808 ≤ n) (h2 : n ≤ 9223372036854775807) : IntKind.i64.wrap n = n := by simp [IntKind.wrap, IntKind.bits, IntKind.signed]; omega
theorem wrap64_id {n : Int} (h0 : 0 ≤ n) (h1 : n < 4294967296) : wrap64 n = n := IntWalk.wrap64_in _ (by omega)
abbrev tV (h : Hm) : Value := .agg #[pV h, .int .i64 240, .int .i64 224]
/-- A table in its box. -/
structure TB (X : Fx) (K : Nat → Nat) (w : World) (b : Nat) (W : World) : Prop where
  m : Ix X K W
  bx : W.heap[b]? = some (.cells #[pV X.h, .int .i64 240, .int .i64 224] 66 (0, 0))
  n : ¬ blkM X.h b
  f : Fr w.heap.size (blkM X.h) w W
section
variable {X : Fx} {l : List Int} {K K' : Nat → Nat} {r r' : Value} {w w1 w2 w' W W' : World} {e e' : Ending} {b : Nat}
theorem TB.made (d : Ix X K w) : TB X K w w.heap.size (w.alloc (.cells #[pV X.h, .int .i64 240, .int .i64 224] 66)) :=
  ⟨d.below (below_made _ _), heap_alloc_new _ _, fun q => by have := d.lt _ q; omega, Fr.of_below (below_made _ _)⟩
theorem TB.cells (d : TB X K w b W) : W.cell? ⟨b, 0, none⟩ = some (.pointer (some ⟨X.h.g, 0, none⟩)) ∧ W.cell? ⟨b, 1, none⟩ = some (.int .i64 240) ∧ W.cell? ⟨b, 2, none⟩ = some (.int .i64 224) :=
  ⟨(cell_block d.bx 0).trans rfl, (cell_block d.bx 1).trans rfl, (cell_block d.bx 2).trans rfl⟩
theorem TB.step (d : TB X K w b W) (hr : IxR X K' r W e W') : TB X K' w b W' :=
  ⟨hr.2.1, (hr.2.2.block _ (Array.getElem?_eq_some_iff.1 d.bx).1 d.n).trans d.bx, d.n, d.f.trans (hr.2.2.mono d.f.size (fun _ _ q => q))⟩
theorem TB.below (d : TB X K w b W) (hb : Below W.heap.size W W') : TB X K w b W' := d.step (d.m.only hb (.bool true))
theorem TB.drew (d : TB X K w b W) : TB X K w b W.drew := d.below (Below.refl _ _).drew
theorem TB.done (d : TB X K w b W) (r : Value) : IxR X K r w (.returned r) W := ⟨rfl, d.m, d.f⟩

theorem place_any (d : Ix X K w) {i : Nat} (hi : i < 224) : Calls Tryz.prog 106 #[tV X.h, .int .i64 (i : Int)] w (IxR X K (.int .i64 ((240 + i * 4 : Nat) : Int)) w) := by
  have hd := TB.made d
  obtain ⟨c0, c1, c2⟩ := hd.cells
  have HE := Lib.hid (hd.done (.int .i64 ((240 + i * 4 : Nat) : Int)))
  clear d hd
  try unfold tV at *
  unfold pV at *
  go_enter Tryz.func106, Tryz.ntmps106
  go_wp2
  go_ret
  have e1 : wrap64 (240 + wrap64 ((i : Int) * 4)) = ((240 + i * 4 : Nat) : Int) := by
    rw [wrap64_id (n := (i : Int) * 4) (by omega) (by omega), wrap64_id (by omega) (by omega)]
    omega
  first | exact HE.out | (rw [e1]; exact HE.out) | (simp only [e1]; exact HE.out)
theorem held_any (d : Ix X K w) {i : Nat} (hi : i < 224) : Calls Tryz.prog 81 #[tV X.h, .int .i64 (i : Int)] w (IxR X K (.int .i64 (K i : Int)) w) := by
  have hd := TB.made d
  have hk := d.kbd hi
  obtain ⟨c0, c1, c2⟩ := hd.cells
  have HP := Lib.hid (fun W (hW : Ix X K W) => place_any hW hi)
  have HL := Lib.hid (fun W (hW : Ix X K W) => hW.held hi)
  obtain ⟨a, ha⟩ : ∃ a : Int, a = ((240 + i * 4 : Nat) : Int) := ⟨_, rfl⟩
  obtain ⟨y, hy⟩ : ∃ y : Int, y = (K i : Int) := ⟨_, rfl⟩
  rw [← ha] at HP HL
  rw [← hy] at HL ⊢
  have hy0 : 0 ≤ y := by omega
  have hy1 : y < 100000 := by omega
  have hyw : IntKind.i64.wrap y = y := Ind.wrap_id (by omega) (by omega)
  have hyu : IntKind.u64.wrap y = y := Hea.u64_id (by omega) (by omega)
  clear d ha hy hk
  try unfold tV at *
  unfold pV at *
  go_enter Tryz.func81, Tryz.ntmps81
  go_wp2_with fail
  go_region_held3 (fun w' => w'.cell? ⟨w.heap.size, 0, none⟩ = some (.pointer (some ⟨X.h.g, 0, none⟩)) ∧ w'.cell? ⟨w.heap.size, 1, none⟩ = some (.int .i64 240) ∧ w'.cell? ⟨w.heap.size, 2, none⟩ = some (.int .i64 224)) (first | exact ⟨c0, c1, c2⟩ | go_keep) ((first | (go_at_call 106; refine (HP.out _ (by first | exact hd.m | exact hd.m.drew)).mono ?_; rintro e w2 hq; obtain rfl := hq.1; replace hd := (by first | exact hd.step hq | exact hd.drew.step hq); clear hq c0 c1 c2; obtain ⟨c0, c1, c2⟩ := hd.cells) | (go_at_call 141; refine (HL.out _ (by first | exact hd.m | exact hd.m.drew)).mono ?_; rintro e w2 hq; obtain rfl := hq.1; replace hd := (by first | exact hd.step hq | exact hd.drew.step hq); clear hq c0 c1 c2; obtain ⟨c0, c1, c2⟩ := hd.cells)))
  all_goals
    have HE := Lib.hid (hd.done (.int .i64 y))
    clear hd
    go_wp2
    go_ret
    exact HE.out
theorem set_any (d : Ix X K w) {i v : Nat} (hi : i < 224) (hv : v = 0 ∨ v ∈ X.E) : Calls Tryz.prog 53 #[tV X.h, .int .i64 (i : Int), .int .i64 (v : Int)] w (IxR X (up K i v) (.tuple #[]) w) := by
  have hd := TB.made d
  have hv2 : v < 100000 := by
    rcases hv with rfl | q
    · omega
    · have := d.facts q
      omega
  obtain ⟨c0, c1, c2⟩ := hd.cells
  have HP := Lib.hid (fun W (hW : Ix X K W) => place_any hW hi)
  have HL := Lib.hid (fun W (hW : Ix X K W) => hW.put hi hv)
  obtain ⟨a, ha⟩ : ∃ a : Int, a = ((240 + i * 4 : Nat) : Int) := ⟨_, rfl⟩
  obtain ⟨y, hy⟩ : ∃ y : Int, y = (v : Int) := ⟨_, rfl⟩
  rw [← ha] at HP HL
  rw [← hy] at HL ⊢
  have hy0 : 0 ≤ y := by omega
  have hy1 : y < 100000 := by omega
  have hyw : IntKind.i64.wrap y = y := Ind.wrap_id (by omega) (by omega)
  have hyu : IntKind.u64.wrap y = y := Hea.u64_id (by omega) (by omega)
  generalize up K i v = K2 at HL ⊢
  clear d ha hy hv hv2
  try unfold tV at *
  unfold pV at *
  go_enter Tryz.func53, Tryz.ntmps53
  go_wp2_with fail
  go_region_held3 (fun w' => w'.cell? ⟨w.heap.size, 0, none⟩ = some (.pointer (some ⟨X.h.g, 0, none⟩)) ∧ w'.cell? ⟨w.heap.size, 1, none⟩ = some (.int .i64 240) ∧ w'.cell? ⟨w.heap.size, 2, none⟩ = some (.int .i64 224)) (first | exact ⟨c0, c1, c2⟩ | go_keep) ((first | (go_at_call 106; refine (HP.out _ (by first | exact hd.m | exact hd.m.drew)).mono ?_; rintro e w2 hq; obtain rfl := hq.1; replace hd := (by first | exact hd.step hq | exact hd.drew.step hq); clear hq c0 c1 c2; obtain ⟨c0, c1, c2⟩ := hd.cells) | (go_at_call 105; refine (HL.out _ (by first | exact hd.m | exact hd.m.drew)).mono ?_; rintro e w2 hq; obtain rfl := hq.1; replace hd := (by first | exact hd.step hq | exact hd.drew.step hq); clear hq c0 c1 c2; obtain ⟨c0, c1, c2⟩ := hd.cells)))
  all_goals
    have HE := Lib.hid (hd.done (.tuple #[]))
    clear hd
    go_wp2
    refine bodyPost_end (results_none rfl _ _ _) rfl ?_
    exact HE.out
theorem off_emod {a b : Nat} (ha : a < 224) (hb : b < 224) : ((b : Int) - a + 224).tmod 224 = (off 224 a b : Int) := by
  rw [Int.tmod_eq_emod_of_nonneg (by omega)]
  unfold off
  split <;> omega
theorem steps_any (d : Ix X K w) {p q : Nat} (hp : p < 224) (hq : q < 224) : Calls Tryz.prog 87 #[tV X.h, .int .i64 (p : Int), .int .i64 (q : Int)] w (IxR X K (.int .i64 (off 224 p q : Int)) w) := by
  have hd := TB.made d
  have he := off_emod hp hq
  obtain ⟨c0, c1, c2⟩ := hd.cells
  have HE := Lib.hid (hd.done (.int .i64 (off 224 p q : Int)))
  have hw1 : IntKind.i64.wrap ((q : Int) - p) = (q : Int) - p := Ind.wrap_id (by omega) (by omega)
  have hw2 : IntKind.i64.wrap ((q : Int) - p + 224) = (q : Int) - p + 224 := Ind.wrap_id (by omega) (by omega)
  generalize (off 224 p q : Int) = o at he HE ⊢
  clear d hd
  try unfold tV at *
  unfold pV at *
  go_enter Tryz.func87, Tryz.ntmps87
  go_wp2
  go_ret
  first | exact HE.out | (simp only [he]; exact HE.out)
theorem nx_emod {a : Nat} (ha : a < 224) : ((a : Int) + 1).tmod 224 = (nx 224 a : Int) := by
  rw [Int.tmod_eq_emod_of_nonneg (by omega)]
  unfold nx
  split <;> omega
theorem next_any (d : Ix X K w) {p : Nat} (hp : p < 224) : Calls Tryz.prog 82 #[tV X.h, .int .i64 (p : Int)] w (IxR X K (.int .i64 (nx 224 p : Int)) w) := by
  have hd := TB.made d
  have he := nx_emod hp
  obtain ⟨c0, c1, c2⟩ := hd.cells
  have HE := Lib.hid (hd.done (.int .i64 (nx 224 p : Int)))
  have hw1 : IntKind.i64.wrap ((p : Int) + 1) = (p : Int) + 1 := Ind.wrap_id (by omega) (by omega)
  generalize (nx 224 p : Int) = o at he HE ⊢
  clear d hd
  try unfold tV at *
  unfold pV at *
  go_enter Tryz.func82, Tryz.ntmps82
  go_wp2
  go_ret
  first | exact HE.out | (simp only [he]; exact HE.out)
theorem mhome_any (y : Nat) (w : World) (h2 : y < 4294967296) :
    Calls Tryz.prog 120 #[.int .u32 (y : Int), .int .i64 224] w fun e w' => e = .returned (.int .i64 ((y % 224 : Nat) : Int)) ∧ w = w' := by
  have e : Hid (((y % 224 : Nat) : Int) = (y : Int) % 224) := by unfold Hid; omega
  have p2 := Int.emod_nonneg (y : Int) (show (224 : Int) ≠ 0 by omega)
  have p3 := Int.emod_lt_of_pos (y : Int) (show (0 : Int) < 224 by omega)
  have h3 : (y : Int) < 4294967296 := by omega
  go_enter Tryz.func120, Tryz.ntmps120
  go_wp2
  go_ret
  exact ⟨ret_int e.out.symm, rfl⟩
theorem home_any (d : Ix X K w) {y : Nat} (hy : y < 4294967296) : Calls Tryz.prog 62 #[tV X.h, .int .u32 (y : Int)] w (IxR X K (.int .i64 ((y % 224 : Nat) : Int)) w) := by
  have hd := TB.made d
  obtain ⟨c0, c1, c2⟩ := hd.cells
  have HM := Lib.hid (fun W => mhome_any y W hy)
  generalize ((y % 224 : Nat) : Int) = o at HM ⊢
  clear d
  try unfold tV at *
  unfold pV at *
  go_enter Tryz.func62, Tryz.ntmps62
  go_wp2_with fail
  refine (HM.out _).mono ?_
  rintro e w2 ⟨rfl, rfl⟩
  have HE := Lib.hid (hd.done (.int .i64 o))
  clear hd
  go_wp2
  go_ret
  exact HE.out
theorem tmade_any (d : Ix X K w) : Calls Tryz.prog 76 #[tV X.h] w (IxR X K (.bool true) w) := by
  have hd := TB.made d
  obtain ⟨c0, c1, c2⟩ := hd.cells
  clear d
  try unfold tV at *
  unfold pV at *
  go_enter Tryz.func76, Tryz.ntmps76
  have HE := Lib.hid (hd.done (.bool true))
  clear hd
  go_wp2
  go_ret
  exact HE.out
end
end Go.Proofs.YtcpfnmphcndmjaaGreatDoor.Ind

namespace Go.Proofs.YtcpfnmphcndmjaaGreatDoor.Ind
open Go.RowKit Num
open Pro
open Mem (Mm MemC MRet Hm rd blkM)
open Sla (Sl St Lv pl aT pV Lo)
open Arn (wrL is64)
set_option linter.unusedVariables false
set_option maxRecDepth 100000

section
variable {X : Fx} {l : List Int} {K K' : Nat → Nat} {r r' : Value} {w w1 w2 w' W W' : World} {e e' : Ending} {b x : Nat}
theorem Ix.kindR (d : Ix X K w) (a n : Int) (ha : is64 a) : Calls Tryz.prog 17 #[pV X.h, .int .i64 a, .int .i64 n] w (IxR X K (.int .i64 (Wat.kndA (Rin.kX 7 224 X.T) a n)) w) :=
  (d.kind a n ha).mono fun e w' q => ⟨q.1, d.below q.2, Fr.of_below q.2⟩
theorem Ix.liveR (d : Ix X K w) {n : Nat} (hx : x ∈ X.E) (h0 : 0 < n) (hn : n ≤ 32) : Calls Tryz.prog 17 #[pV X.h, .int .i64 (x : Int), .int .i64 (n : Int)] w (IxR X K (.int .i64 5) w) :=
  (d.live hx h0 hn).mono fun e w' q => ⟨q.1, d.below q.2, Fr.of_below q.2⟩
theorem TB.of {f : Nat} {a : Array Value} (d : TB X K w b W) {r : Value} (h : Ix X K W → Calls Tryz.prog f a W (IxR X K r W)) : Calls Tryz.prog f a W fun e w' => e = .returned r ∧ TB X K w b w' :=
  (h d.m).mono fun e w' q => ⟨q.1, d.step q⟩
theorem sz_tag (b : Bk) : ∃ z : Nat, Hea.szF b.tag = (z : Int) ∧ 0 < z ∧ z ≤ 32 := by
  unfold Bk.tag
  cases b.node
  · exact ⟨32, rfl, by omega, by omega⟩
  · exact ⟨16, rfl, by omega, by omega⟩
theorem tag_is (b : Bk) : b.tag = 1 ∨ b.tag = 2 := by unfold Bk.tag; cases b.node <;> simp
theorem tag_any (d : Ix X K w) (hx : x ∈ X.E) : Calls Tryz.prog 79 #[tV X.h, .int .i64 (x : Int)] w (IxR X K (.int .i64 (X.B x).tag) w) := by
  have hd := TB.made d
  have hb := d.facts hx
  have hz : ((x : Int) == 0) = false := by simp; omega
  have hm : (x : Int).tmod 16 = 0 := by
    rw [Int.tmod_eq_emod_of_nonneg (by omega)]
    omega
  obtain ⟨z, hz1, hz2, hz3⟩ := sz_tag (X.B x)
  have hg := tag_is (X.B x)
  have HT := Lib.hid (fun W (hW : Ix X K W) => hW.fld hx (f := 0) (.inl rfl))
  rw [show fldV (X.B x) 0 = (X.B x).tag from rfl, show ((0 : Nat) : Int) = 0 from rfl] at HT
  generalize (X.B x).tag = g at *
  have HK := Lib.hid (fun W (hW : Ix X K W) => hW.liveR hx (n := 16) (by omega) (by omega))
  rw [show ((16 : Nat) : Int) = 16 from rfl] at HK
  have HZ : Hid (∀ kk : KM (fun V => TB X K w w.heap.size V), Calls Tryz.prog 140 #[.int .i64 g] kk.w fun e w' => e = .returned (.int .i64 (z : Int)) ∧ TB X K w w.heap.size w') := fun kk => (Hea.size_any g kk.w).mono fun e w' q => ⟨by rw [← hz1]; exact q.1, q.2 ▸ kk.ok⟩
  have HK2 : Hid (∀ kk : KM (fun V => TB X K w w.heap.size V), Calls Tryz.prog 17 #[pV X.h, .int .i64 (x : Int), .int .i64 (z : Int)] kk.w fun e w' => e = .returned (.int .i64 5) ∧ TB X K w w.heap.size w') := fun kk => kk.ok.of (fun q => q.liveR hx hz2 hz3)
  have k0 : ∀ kk : KM (fun V => TB X K w w.heap.size V), kk.w.cell? ⟨w.heap.size, 0, none⟩ = some (.pointer (some ⟨X.h.g, 0, none⟩)) := fun kk => kk.ok.cells.1
  have k1 : ∀ kk : KM (fun V => TB X K w w.heap.size V), kk.w.cell? ⟨w.heap.size, 1, none⟩ = some (.int .i64 240) := fun kk => kk.ok.cells.2.1
  have k2 : ∀ kk : KM (fun V => TB X K w w.heap.size V), kk.w.cell? ⟨w.heap.size, 2, none⟩ = some (.int .i64 224) := fun kk => kk.ok.cells.2.2
  obtain ⟨c0, c1, c2⟩ := hd.cells
  have hg0 : 0 ≤ g := by omega
  have hg2 : g ≤ 2 := by omega
  clear d hx hb hz1 hg
  try unfold tV at *
  unfold pV at *
  go_enter Tryz.func79, Tryz.ntmps79
  go_wp2_with fail
  refine (HK.out _ hd.m).mono ?_
  rintro e w2 hq
  obtain rfl := hq.1
  replace hd := hd.step hq
  clear hq c0 c1 c2
  obtain ⟨c0, c1, c2⟩ := hd.cells
  go_wp2_with fail
  refine (HT.out _ hd.m).mono ?_
  rintro e w2 hq
  obtain rfl := hq.1
  replace hd := hd.step hq
  clear hq c0 c1 c2
  obtain ⟨c0, c1, c2⟩ := hd.cells
  go_wp2_with fail
  refine wp_region_km (Φ := fun V => TB X K w w.heap.size V) (by kernel_rfl) (by kernel_rfl) (hd.drew) ?_
  intro hne
  repeat (first | (go_big_quiet_step ((first | (go_at_call 140; exact Calls.km_of (HZ.out _)) | (go_at_call 17; exact Calls.km_of (HK2.out _))))) | (quiet_step (first | rfl | (first | (go_at_call 140; exact Calls.km_of (HZ.out _)) | (go_at_call 17; exact Calls.km_of (HK2.out _))))))
  refine wpQuiet_nil ?_
  intro _ hw'
  obtain ⟨kk, rfl⟩ := hw'
  have HE := Lib.hid (kk.ok.done (.int .i64 g))
  clear hd
  go_wp2
  go_ret
  exact HE.out
/-- No entry or node lies at a place. -/
def NoB (X : Fx) (a : Int) : Prop := is64 a ∧ (a = 0 ∨ a.tmod 16 ≠ 0 ∨ Wat.kndA (Rin.kX 7 224 X.T) a 16 ≠ 5)
theorem tag_none (d : Ix X K w) {a : Int} (ha : NoB X a) : Calls Tryz.prog 79 #[tV X.h, .int .i64 a] w (IxR X K (.int .i64 0) w) := by
  have hd := TB.made d
  have HK := Lib.hid (fun W (hW : Ix X K W) => hW.kindR a 16 ha.1)
  obtain ⟨c0, c1, c2⟩ := hd.cells
  have HE := Lib.hid (hd.done (.int .i64 0))
  by_cases h0 : a = 0
  · subst h0
    clear d ha hd HK
    try unfold tV at *
    unfold pV at *
    go_enter Tryz.func79, Tryz.ntmps79
    go_wp2
    go_ret
    exact HE.out
  have hz : (a == 0) = false := by simpa using h0
  by_cases hm : a.tmod 16 = 0
  · have h5 := (ha.2.resolve_left h0).resolve_left (fun q => q hm)
    generalize Wat.kndA (Rin.kX 7 224 X.T) a 16 = k at *
    have hk : (k != 5) = true := by simpa using h5
    clear d ha HE h5
    try unfold tV at *
    unfold pV at *
    go_enter Tryz.func79, Tryz.ntmps79
    go_wp2_with fail
    refine (HK.out _ hd.m).mono ?_
    rintro e w2 hq
    obtain rfl := hq.1
    replace hd := hd.step hq
    clear hq c0 c1 c2
    obtain ⟨c0, c1, c2⟩ := hd.cells
    have HE := Lib.hid (hd.done (.int .i64 0))
    clear hd
    go_wp2
    go_ret
    exact HE.out
  · have hm1 : (a.tmod 16 != 0) = true := by simpa using hm
    clear d ha hd HK
    try unfold tV at *
    unfold pV at *
    go_enter Tryz.func79, Tryz.ntmps79
    go_wp2
    go_ret
    exact HE.out
theorem hash_any (d : Ix X K w) (hx : x ∈ X.E) : Calls Tryz.prog 52 #[tV X.h, .int .i64 (x : Int)] w (IxR X K (.int .u32 ((X.B x).hash : Int)) w) := by
  have hd := TB.made d
  have hh := (d.ok hx).hash
  have hg := tag_is (X.B x)
  have HT := Lib.hid (fun W (hW : Ix X K W) => tag_any hW hx)
  have HL := Lib.hid (fun W (hW : Ix X K W) => hW.fld hx (f := 10) (by simp))
  rw [show fldV (X.B x) 10 = ((X.B x).hash : Int) from rfl, show ((10 : Nat) : Int) = 10 from rfl] at HL
  generalize (X.B x).tag = g at *
  have hg0 : (g == 0) = false := by simp; omega
  obtain ⟨y, hy⟩ : ∃ y : Int, y = ((X.B x).hash : Int) := ⟨_, rfl⟩
  rw [← hy] at HL ⊢
  have y0 : 0 ≤ y := by omega
  have y1 : y < 4294967296 := by omega
  obtain ⟨c0, c1, c2⟩ := hd.cells
  clear d hx hg hh hy
  try unfold tV at *
  unfold pV at *
  go_enter Tryz.func52, Tryz.ntmps52
  go_wp2_with fail
  refine (HT.out _ hd.m).mono ?_
  rintro e w2 hq
  obtain rfl := hq.1
  replace hd := hd.step hq
  clear hq c0 c1 c2
  obtain ⟨c0, c1, c2⟩ := hd.cells
  go_wp2_with fail
  refine (HL.out _ hd.m).mono ?_
  rintro e w2 hq
  obtain rfl := hq.1
  replace hd := hd.step hq
  clear hq c0 c1 c2
  obtain ⟨c0, c1, c2⟩ := hd.cells
  have HE := Lib.hid (hd.done (.int .u32 y))
  clear hd
  go_wp2
  go_ret
  exact HE.out
theorem hash_none (d : Ix X K w) {a : Int} (ha : NoB X a) : Calls Tryz.prog 52 #[tV X.h, .int .i64 a] w (IxR X K (.int .u32 0) w) := by
  have hd := TB.made d
  have HT := Lib.hid (fun W (hW : Ix X K W) => tag_none hW ha)
  obtain ⟨c0, c1, c2⟩ := hd.cells
  clear d ha
  try unfold tV at *
  unfold pV at *
  go_enter Tryz.func52, Tryz.ntmps52
  go_wp2_with fail
  refine (HT.out _ hd.m).mono ?_
  rintro e w2 hq
  obtain rfl := hq.1
  replace hd := hd.step hq
  clear hq c0 c1 c2
  obtain ⟨c0, c1, c2⟩ := hd.cells
  have HE := Lib.hid (hd.done (.int .u32 0))
  clear hd
  go_wp2
  go_ret
  exact HE.out
theorem check_any (d : Ix X K w) (hx : x ∈ X.E) : Calls Tryz.prog 33 #[tV X.h, .int .i64 (x : Int)] w (IxR X K (.int .i64 0) w) := by
  have hd := TB.made d
  have hg := tag_is (X.B x)
  have HM := Lib.hid (fun W (hW : Ix X K W) => tmade_any hW)
  have HT := Lib.hid (fun W (hW : Ix X K W) => tag_any hW hx)
  generalize (X.B x).tag = g at *
  have hg0 : (g == 0) = false := by simp; omega
  obtain ⟨c0, c1, c2⟩ := hd.cells
  clear d hx hg
  try unfold tV at *
  unfold pV at *
  go_enter Tryz.func33, Tryz.ntmps33
  go_wp2_with fail
  refine (HM.out _ hd.m).mono ?_
  rintro e w2 hq
  obtain rfl := hq.1
  replace hd := hd.step hq
  clear hq c0 c1 c2
  obtain ⟨c0, c1, c2⟩ := hd.cells
  go_wp2_with fail
  refine (HT.out _ hd.m).mono ?_
  rintro e w2 hq
  obtain rfl := hq.1
  replace hd := hd.step hq
  clear hq c0 c1 c2
  obtain ⟨c0, c1, c2⟩ := hd.cells
  have HE := Lib.hid (hd.done (.int .i64 0))
  clear hd
  go_wp2
  go_ret
  exact HE.out
theorem check_none (d : Ix X K w) {a : Int} (ha : NoB X a) : Calls Tryz.prog 33 #[tV X.h, .int .i64 a] w (IxR X K (.int .i64 30) w) := by
  have hd := TB.made d
  have HM := Lib.hid (fun W (hW : Ix X K W) => tmade_any hW)
  have HT := Lib.hid (fun W (hW : Ix X K W) => tag_none hW ha)
  obtain ⟨c0, c1, c2⟩ := hd.cells
  clear d ha
  try unfold tV at *
  unfold pV at *
  go_enter Tryz.func33, Tryz.ntmps33
  go_wp2_with fail
  refine (HM.out _ hd.m).mono ?_
  rintro e w2 hq
  obtain rfl := hq.1
  replace hd := hd.step hq
  clear hq c0 c1 c2
  obtain ⟨c0, c1, c2⟩ := hd.cells
  go_wp2_with fail
  refine (HT.out _ hd.m).mono ?_
  rintro e w2 hq
  obtain rfl := hq.1
  replace hd := hd.step hq
  clear hq c0 c1 c2
  obtain ⟨c0, c1, c2⟩ := hd.cells
  have HE := Lib.hid (hd.done (.int .i64 30))
  clear hd
  go_wp2
  go_ret
  exact HE.out
theorem far_any (d : Ix X K w) {i : Nat} (hi : i < 224) (hk : K i ≠ 0) : Calls Tryz.prog 67 #[tV X.h, .int .i64 (i : Int)] w (IxR X K (.int .i64 (off 224 (hmX X (K i)) i : Int)) w) := by
  have hd := TB.made d
  have hx := d.kin hi hk
  have hh := (d.ok hx).hash
  have HH : Hid (∀ kk : KM (fun V => TB X K w w.heap.size V), Calls Tryz.prog 81 #[tV X.h, .int .i64 (i : Int)] kk.w fun e w' => e = .returned (.int .i64 (K i : Int)) ∧ TB X K w w.heap.size w') := fun kk => kk.ok.of (fun q => held_any q hi)
  have HA : Hid (∀ kk : KM (fun V => TB X K w w.heap.size V), Calls Tryz.prog 52 #[tV X.h, .int .i64 (K i : Int)] kk.w fun e w' => e = .returned (.int .u32 ((X.B (K i)).hash : Int)) ∧ TB X K w w.heap.size w') := fun kk => kk.ok.of (fun q => hash_any q hx)
  have HO : Hid (∀ kk : KM (fun V => TB X K w w.heap.size V), Calls Tryz.prog 62 #[tV X.h, .int .u32 ((X.B (K i)).hash : Int)] kk.w fun e w' => e = .returned (.int .i64 (((X.B (K i)).hash % 224 : Nat) : Int)) ∧ TB X K w w.heap.size w') := fun kk => kk.ok.of (fun q => home_any q hh)
  have HS : Hid (∀ kk : KM (fun V => TB X K w w.heap.size V), Calls Tryz.prog 87 #[tV X.h, .int .i64 (((X.B (K i)).hash % 224 : Nat) : Int), .int .i64 (i : Int)] kk.w fun e w' => e = .returned (.int .i64 (off 224 (hmX X (K i)) i : Int)) ∧ TB X K w w.heap.size w') := fun kk => kk.ok.of (fun q => steps_any q (Nat.mod_lt _ (by omega)) hi)
  generalize (off 224 (hmX X (K i)) i : Int) = o at *
  generalize (((X.B (K i)).hash % 224 : Nat) : Int) = g at *
  generalize ((X.B (K i)).hash : Int) = y at *
  generalize (K i : Int) = k at *
  have k0 : ∀ kk : KM (fun V => TB X K w w.heap.size V), kk.w.cell? ⟨w.heap.size, 0, none⟩ = some (.pointer (some ⟨X.h.g, 0, none⟩)) := fun kk => kk.ok.cells.1
  have k1 : ∀ kk : KM (fun V => TB X K w w.heap.size V), kk.w.cell? ⟨w.heap.size, 1, none⟩ = some (.int .i64 240) := fun kk => kk.ok.cells.2.1
  have k2 : ∀ kk : KM (fun V => TB X K w w.heap.size V), kk.w.cell? ⟨w.heap.size, 2, none⟩ = some (.int .i64 224) := fun kk => kk.ok.cells.2.2
  obtain ⟨c0, c1, c2⟩ := hd.cells
  clear d hx hh hk
  try unfold tV at *
  unfold pV at *
  go_enter Tryz.func67, Tryz.ntmps67
  go_wp2_with fail
  refine wp_region_km (Φ := fun V => TB X K w w.heap.size V) (by kernel_rfl) (by kernel_rfl) (hd.drew) ?_
  intro hne
  repeat (first | (go_big_quiet_step ((first | (go_at_call 81; exact Calls.km_of (HH.out _)) | (go_at_call 52; exact Calls.km_of (HA.out _)) | (go_at_call 62; exact Calls.km_of (HO.out _)) | (go_at_call 87; exact Calls.km_of (HS.out _))))) | (quiet_step (first | rfl | (first | (go_at_call 81; exact Calls.km_of (HH.out _)) | (go_at_call 52; exact Calls.km_of (HA.out _)) | (go_at_call 62; exact Calls.km_of (HO.out _)) | (go_at_call 87; exact Calls.km_of (HS.out _))))))
  refine wpQuiet_nil ?_
  intro _ hw'
  obtain ⟨kk, rfl⟩ := hw'
  have HE := Lib.hid (kk.ok.done (.int .i64 o))
  clear hd
  go_wp2
  go_ret
  exact HE.out
theorem empty_any (d : Ix X K w) {i : Nat} (hi : i < 224) : Calls Tryz.prog 41 #[tV X.h, .int .i64 (i : Int)] w (IxR X K (.bool (decide (K i = 0))) w) := by
  have hd := TB.made d
  have HH := Lib.hid (fun W (hW : Ix X K W) => held_any hW hi)
  have hq : ((K i : Int) == 0) = decide (K i = 0) := by rw [Bool.eq_iff_iff]; simp
  generalize decide (K i = 0) = o at *
  generalize (K i : Int) = k at *
  obtain ⟨c0, c1, c2⟩ := hd.cells
  clear d
  try unfold tV at *
  unfold pV at *
  go_enter Tryz.func41, Tryz.ntmps41
  go_wp2_with fail
  refine (HH.out _ hd.m).mono ?_
  rintro e w2 hq
  obtain rfl := hq.1
  replace hd := hd.step hq
  clear hq c0 c1 c2
  obtain ⟨c0, c1, c2⟩ := hd.cells
  have HE := Lib.hid (hd.done (.bool o))
  clear hd
  go_wp2
  go_ret
  first | exact HE.out | (rw [hq]; exact HE.out) | (simp only [hq]; exact HE.out)
theorem stays_any (d : Ix X K w) {i : Nat} (hi : i < 224) : Calls Tryz.prog 83 #[tV X.h, .int .i64 (i : Int)] w (IxR X K (.bool (stb 224 (hmX X) K i)) w) := by
  have hd := TB.made d
  have HM := Lib.hid (fun W (hW : Ix X K W) => empty_any hW hi)
  obtain ⟨c0, c1, c2⟩ := hd.cells
  by_cases hz : K i = 0
  · have e1 : decide (K i = 0) = true := by simpa using hz
    have e2 : stb 224 (hmX X) K i = true := by unfold stb; rw [e1]; rfl
    rw [e2]
    rw [e1] at HM
    clear d hz e1 e2
    try unfold tV at *
    unfold pV at *
    go_enter Tryz.func83, Tryz.ntmps83
    go_wp2_with fail
    refine (HM.out _ hd.m).mono ?_
    rintro e w2 hq
    obtain rfl := hq.1
    replace hd := hd.step hq
    clear hq c0 c1 c2
    obtain ⟨c0, c1, c2⟩ := hd.cells
    have HE := Lib.hid (hd.done (.bool true))
    clear hd
    go_wp2
    go_ret
    exact HE.out
  · have e1 : decide (K i = 0) = false := by simpa using hz
    have HF := Lib.hid (fun W (hW : Ix X K W) => far_any hW hi hz)
    have e2 : stb 224 (hmX X) K i = (((off 224 (hmX X (K i)) i : Nat) : Int) == 0) := by
      unfold stb
      rw [e1, Bool.eq_iff_iff]
      simp
    rw [e2]
    rw [e1] at HM
    generalize ((off 224 (hmX X (K i)) i : Nat) : Int) = o at *
    clear d hz e1 e2
    try unfold tV at *
    unfold pV at *
    go_enter Tryz.func83, Tryz.ntmps83
    go_wp2_with fail
    refine (HM.out _ hd.m).mono ?_
    rintro e w2 hq
    obtain rfl := hq.1
    replace hd := hd.step hq
    clear hq c0 c1 c2
    obtain ⟨c0, c1, c2⟩ := hd.cells
    go_wp2_with fail
    refine (HF.out _ hd.m).mono ?_
    rintro e w2 hq
    obtain rfl := hq.1
    replace hd := hd.step hq
    clear hq c0 c1 c2
    obtain ⟨c0, c1, c2⟩ := hd.cells
    have HE := Lib.hid (hd.done (.bool (o == 0)))
    clear hd
    go_wp2
    go_ret
    exact HE.out
end
end Go.Proofs.YtcpfnmphcndmjaaGreatDoor.Ind

namespace Go.Proofs.YtcpfnmphcndmjaaGreatDoor.Ind
open Go.RowKit Num
open Pro
open Mem (Mm MemC MRet Hm rd blkM)
open Sla (Sl St Lv pl aT pV Lo)
open Arn (wrL is64)
set_option linter.unusedVariables false
set_option maxRecDepth 100000

abbrev sV (h : Hm) (a : Nat) (fv : Value) : Value := .agg #[pV h, .int .i64 240, .int .i64 224, .int .i64 (a : Int), fv]
/-- A search in its box; what a test asks of the world holds. -/
structure SB (X : Fx) (K : Nat → Nat) (w : World) (a : Nat) (fv : Value) (Gd : World → Prop) (b : Nat) (W : World) : Prop where
  m : Ix X K W
  g : Gd W
  bx : W.heap[b]? = some (.cells #[pV X.h, .int .i64 240, .int .i64 224, .int .i64 (a : Int), fv] 71 (0, 0))
  n : ¬ blkM X.h b
  f : Fr w.heap.size (blkM X.h) w W
  k : ∀ W W', Gd W → Fr W.heap.size (blkM X.h) W W' → Gd W'
/-- A test of blocks: what it answers, and what it asks of the world. -/
structure IsC (X : Fx) (F : Nat) (cp : Array Value) (P : Nat → Bool) (Gd : World → Prop) : Prop where
  ent : ∀ args w, (callFunc F args).run Tryz.prog w = .ok (.enter F args) w
  keep : ∀ W W', Gd W → Fr W.heap.size (blkM X.h) W W' → Gd W'
  call : ∀ K W x, x ∈ X.E → Ix X K W → Gd W → Calls Tryz.prog F (#[.int .i64 (x : Int)] ++ cp) W (IxR X K (.bool (P x)) W)
section
variable {X : Fx} {l : List Int} {K K' : Nat → Nat} {r r' : Value} {w w1 w2 w' W W' : World} {e e' : Ending} {b x a : Nat} {fv : Value} {Gd : World → Prop} {F : Nat} {cp : Array Value} {P : Nat → Bool}
theorem SB.made (d : Ix X K w) (g : Gd w) (k : ∀ W W', Gd W → Fr W.heap.size (blkM X.h) W W' → Gd W') (a : Nat) (fv : Value) : SB X K w a fv Gd w.heap.size (w.alloc (.cells #[pV X.h, .int .i64 240, .int .i64 224, .int .i64 (a : Int), fv] 71)) :=
  ⟨d.below (below_made _ _), k _ _ g (Fr.of_below (below_made _ _)), heap_alloc_new _ _, fun q => by have := d.lt _ q; omega, Fr.of_below (below_made _ _), k⟩
theorem SB.cells (d : SB X K w a fv Gd b W) : W.cell? ⟨b, 0, none⟩ = some (.pointer (some ⟨X.h.g, 0, none⟩)) ∧ W.cell? ⟨b, 1, none⟩ = some (.int .i64 240) ∧ W.cell? ⟨b, 2, none⟩ = some (.int .i64 224) ∧ W.cell? ⟨b, 3, none⟩ = some (.int .i64 (a : Int)) ∧ W.cell? ⟨b, 4, none⟩ = some fv :=
  ⟨(cell_block d.bx 0).trans rfl, (cell_block d.bx 1).trans rfl, (cell_block d.bx 2).trans rfl, (cell_block d.bx 3).trans rfl, (cell_block d.bx 4).trans rfl⟩
theorem SB.step (d : SB X K w a fv Gd b W) (hr : IxR X K' r W e W') : SB X K' w a fv Gd b W' :=
  ⟨hr.2.1, d.k _ _ d.g hr.2.2, (hr.2.2.block _ (Array.getElem?_eq_some_iff.1 d.bx).1 d.n).trans d.bx, d.n, d.f.trans (hr.2.2.mono d.f.size (fun _ _ q => q)), d.k⟩
theorem SB.below (d : SB X K w a fv Gd b W) (hb : Below W.heap.size W W') : SB X K w a fv Gd b W' := d.step (d.m.only hb (.bool true))
theorem SB.drew (d : SB X K w a fv Gd b W) : SB X K w a fv Gd b W.drew := d.below (Below.refl _ _).drew
theorem SB.done (d : SB X K w a fv Gd b W) (r : Value) : IxR X K r w (.returned r) W := ⟨rfl, d.m, d.f⟩
theorem SB.of {f : Nat} {u : Array Value} (d : SB X K w a fv Gd b W) {r : Value} (h : Ix X K W → Gd W → Calls Tryz.prog f u W (IxR X K r W)) : Calls Tryz.prog f u W fun e w' => e = .returned r ∧ SB X K w a fv Gd b w' :=
  (h d.m d.g).mono fun e w' q => ⟨q.1, d.step q⟩

theorem open_any (d : Ix X K w) (g : Gd w) (k : ∀ W W', Gd W → Fr W.heap.size (blkM X.h) W W' → Gd W') {i : Nat} (hi : i < 224) (ha : a < 224) (fv : Value) : Calls Tryz.prog 42 #[sV X.h a fv, .int .i64 (i : Int)] w (IxR X K (.bool (opb 224 (hmX X) K a i)) w) := by
  have hd := SB.made d g k a fv
  have HM : Hid (∀ kk : KM (fun V => SB X K w a fv Gd w.heap.size V), Calls Tryz.prog 41 #[tV X.h, .int .i64 (i : Int)] kk.w fun e w' => e = .returned (.bool (decide (K i = 0))) ∧ SB X K w a fv Gd w.heap.size w') := fun kk => kk.ok.of (fun q _ => empty_any q hi)
  have k0 : ∀ kk : KM (fun V => SB X K w a fv Gd w.heap.size V), kk.w.cell? ⟨w.heap.size, 0, none⟩ = some (.pointer (some ⟨X.h.g, 0, none⟩)) := fun kk => kk.ok.cells.1
  have k1 : ∀ kk : KM (fun V => SB X K w a fv Gd w.heap.size V), kk.w.cell? ⟨w.heap.size, 1, none⟩ = some (.int .i64 240) := fun kk => kk.ok.cells.2.1
  have k2 : ∀ kk : KM (fun V => SB X K w a fv Gd w.heap.size V), kk.w.cell? ⟨w.heap.size, 2, none⟩ = some (.int .i64 224) := fun kk => kk.ok.cells.2.2.1
  have k3 : ∀ kk : KM (fun V => SB X K w a fv Gd w.heap.size V), kk.w.cell? ⟨w.heap.size, 3, none⟩ = some (.int .i64 (a : Int)) := fun kk => kk.ok.cells.2.2.2.1
  have k4 : ∀ kk : KM (fun V => SB X K w a fv Gd w.heap.size V), kk.w.cell? ⟨w.heap.size, 4, none⟩ = some (fv) := fun kk => kk.ok.cells.2.2.2.2
  by_cases hz : K i = 0
  · have e1 : decide (K i = 0) = true := by simpa using hz
    have e2 : opb 224 (hmX X) K a i = true := by unfold opb; rw [e1]; rfl
    rw [e2]
    rw [e1] at HM
    clear d g k hz e1 e2
    try unfold tV at *
    unfold pV at *
    go_enter Tryz.func42, Tryz.ntmps42
    go_wp2_with fail
    refine wp_region_km (Φ := fun V => SB X K w a fv Gd w.heap.size V) (by kernel_rfl) (by kernel_rfl) (hd.drew) ?_
    intro hne
    repeat (first | (go_big_quiet_step ((go_at_call 41; exact Calls.km_of (HM.out _)))) | (quiet_step (first | rfl | (go_at_call 41; exact Calls.km_of (HM.out _)))))
    refine wpQuiet_nil ?_
    intro _ hw'
    obtain ⟨kk, rfl⟩ := hw'
    have HE := Lib.hid (kk.ok.done (.bool true))
    clear hd
    go_wp2
    go_ret
    exact HE.out
  · have e1 : decide (K i = 0) = false := by simpa using hz
    have HF : Hid (∀ kk : KM (fun V => SB X K w a fv Gd w.heap.size V), Calls Tryz.prog 67 #[tV X.h, .int .i64 (i : Int)] kk.w fun e w' => e = .returned (.int .i64 (off 224 (hmX X (K i)) i : Int)) ∧ SB X K w a fv Gd w.heap.size w') := fun kk => kk.ok.of (fun q _ => far_any q hi hz)
    have HS : Hid (∀ kk : KM (fun V => SB X K w a fv Gd w.heap.size V), Calls Tryz.prog 87 #[tV X.h, .int .i64 (a : Int), .int .i64 (i : Int)] kk.w fun e w' => e = .returned (.int .i64 (off 224 a i : Int)) ∧ SB X K w a fv Gd w.heap.size w') := fun kk => kk.ok.of (fun q _ => steps_any q ha hi)
    have e2 : opb 224 (hmX X) K a i = decide ((off 224 (hmX X (K i)) i : Int) < (off 224 a i : Int)) := by
      unfold opb
      rw [e1, Bool.eq_iff_iff]
      simp
    rw [e2]
    rw [e1] at HM
    generalize (off 224 (hmX X (K i)) i : Int) = o1 at *
    generalize (off 224 a i : Int) = o2 at *
    clear d g k hz e1 e2
    try unfold tV at *
    unfold pV at *
    go_enter Tryz.func42, Tryz.ntmps42
    go_wp2_with fail
    refine wp_region_km (Φ := fun V => SB X K w a fv Gd w.heap.size V) (by kernel_rfl) (by kernel_rfl) (hd.drew) ?_
    intro hne
    repeat (first | (go_big_quiet_step ((first | (go_at_call 41; exact Calls.km_of (HM.out _)) | (go_at_call 67; exact Calls.km_of (HF.out _)) | (go_at_call 87; exact Calls.km_of (HS.out _))))) | (quiet_step (first | rfl | (first | (go_at_call 41; exact Calls.km_of (HM.out _)) | (go_at_call 67; exact Calls.km_of (HF.out _)) | (go_at_call 87; exact Calls.km_of (HS.out _))))))
    refine wpQuiet_nil ?_
    intro _ hw'
    obtain ⟨kk, rfl⟩ := hw'
    have HE := Lib.hid (kk.ok.done (.bool (decide (o1 < o2))))
    clear hd
    go_wp2
    go_ret
    exact HE.out
theorem holds_any (C : IsC X F cp P Gd) (d : Ix X K w) (g : Gd w) {i : Nat} (hi : i < 224) : Calls Tryz.prog 36 #[sV X.h a (.func (.func F) #[] cp), .int .i64 (i : Int)] w (IxR X K (.bool (hit K P i)) w) := by
  have hd := SB.made d g C.keep a (.func (.func F) #[] cp)
  have HH := Lib.hid (fun W (hW : Ix X K W) => held_any hW hi)
  have hent := C.ent
  obtain ⟨c0, c1, c2, c3, c4⟩ := hd.cells
  by_cases hz : K i = 0
  · have e2 : hit K P i = false := by unfold hit; simp [hz]
    rw [e2]
    rw [hz, show ((0 : Nat) : Int) = 0 from rfl] at HH
    clear d g C hz e2
    try unfold tV at *
    unfold pV at *
    go_enter Tryz.func36, Tryz.ntmps36
    go_wp2_with fail
    refine (HH.out _ hd.m).mono ?_
    rintro e w2 hq
    obtain rfl := hq.1
    replace hd := hd.step hq
    clear hq c0 c1 c2 c3 c4
    obtain ⟨c0, c1, c2, c3, c4⟩ := hd.cells
    have HE := Lib.hid (hd.done (.bool false))
    clear hd
    go_wp2
    go_ret
    exact HE.out
  · have hx := d.kin hi hz
    have HP := Lib.hid (fun W (hW : Ix X K W) (g : Gd W) => C.call K W (K i) hx hW g)
    have e2 : hit K P i = P (K i) := by unfold hit; simp [hz]
    have hq : ((K i : Int) != 0) = true := by simp; exact hz
    rw [e2]
    generalize P (K i) = o at *
    generalize (K i : Int) = y at *
    clear d g C hz e2 hx
    try unfold tV at *
    unfold pV at *
    go_enter Tryz.func36, Tryz.ntmps36
    go_wp2_with fail
    refine (HH.out _ hd.m).mono ?_
    rintro e w2 hq
    obtain rfl := hq.1
    replace hd := hd.step hq
    clear hq c0 c1 c2 c3 c4
    obtain ⟨c0, c1, c2, c3, c4⟩ := hd.cells
    go_wp2_with fail
    refine (HP.out _ hd.m hd.g).mono ?_
    rintro e w2 hq
    obtain rfl := hq.1
    replace hd := hd.step hq
    clear hq c0 c1 c2 c3 c4
    obtain ⟨c0, c1, c2, c3, c4⟩ := hd.cells
    have HE := Lib.hid (hd.done (.bool o))
    clear hd
    go_wp2
    go_ret
    exact HE.out
theorem ends_any (C : IsC X F cp P Gd) (d : Ix X K w) (g : Gd w) {i : Nat} (hi : i < 224) (ha : a < 224) : Calls Tryz.prog 103 #[sV X.h a (.func (.func F) #[] cp), .int .i64 (i : Int)] w (IxR X K (.bool (hit K P i || opb 224 (hmX X) K a i)) w) := by
  have hd := SB.made d g C.keep a (.func (.func F) #[] cp)
  have HH := Lib.hid (fun W (hW : Ix X K W) (g : Gd W) => holds_any C hW g (a := a) hi)
  have HO := Lib.hid (fun W (hW : Ix X K W) (g : Gd W) => open_any hW g C.keep (a := a) hi ha (.func (.func F) #[] cp))
  obtain ⟨c0, c1, c2, c3, c4⟩ := hd.cells
  generalize hit K P i = o1 at *
  generalize opb 224 (hmX X) K a i = o2 at *
  clear d g C
  unfold sV at *
  cases o1 with
  | true =>
    try unfold tV at *
    unfold pV at *
    go_enter Tryz.func103, Tryz.ntmps103
    go_wp2_with fail
    refine (HH.out _ hd.m hd.g).mono ?_
    rintro e w2 hq
    obtain rfl := hq.1
    replace hd := hd.step hq
    clear hq c0 c1 c2 c3 c4
    obtain ⟨c0, c1, c2, c3, c4⟩ := hd.cells
    have HE := Lib.hid (hd.done (.bool true))
    clear hd
    go_wp2
    go_ret
    exact HE.out
  | false =>
    try unfold tV at *
    unfold pV at *
    go_enter Tryz.func103, Tryz.ntmps103
    go_wp2_with fail
    refine (HH.out _ hd.m hd.g).mono ?_
    rintro e w2 hq
    obtain rfl := hq.1
    replace hd := hd.step hq
    clear hq c0 c1 c2 c3 c4
    obtain ⟨c0, c1, c2, c3, c4⟩ := hd.cells
    go_wp2_with fail
    refine (HO.out _ hd.m hd.g).mono ?_
    rintro e w2 hq
    obtain rfl := hq.1
    replace hd := hd.step hq
    clear hq c0 c1 c2 c3 c4
    obtain ⟨c0, c1, c2, c3, c4⟩ := hd.cells
    have HE := Lib.hid (hd.done (.bool o2))
    clear hd
    go_wp2
    go_ret
    exact HE.out
theorem ps_tmod {p k : Nat} (hp : p < 224) (hk : k ≤ 224) : ((p : Int) + (k : Int)).tmod 224 = (ps 224 p k : Int) := by
  rw [Int.tmod_eq_emod_of_nonneg (by omega)]
  unfold ps
  split <;> omega
/-- The first slot from one on that meets a test. -/
def sfR (T : Nat → Bool) (p : Nat) : Nat × Bool := if sk (fun s => T (ps 224 p s)) 224 < 224 then (ps 224 p (sk (fun s => T (ps 224 p s)) 224), true) else (0, false)
/-- A table in its box, and what a test asks. -/
structure TG (X : Fx) (K : Nat → Nat) (w : World) (Gd : World → Prop) (b : Nat) (W : World) : Prop where
  t : TB X K w b W
  g : Gd W
  k : ∀ W W', Gd W → Fr W.heap.size (blkM X.h) W W' → Gd W'
theorem TG.cells (d : TG X K w Gd b W) : W.cell? ⟨b, 0, none⟩ = some (.pointer (some ⟨X.h.g, 0, none⟩)) ∧ W.cell? ⟨b, 1, none⟩ = some (.int .i64 240) ∧ W.cell? ⟨b, 2, none⟩ = some (.int .i64 224) := d.t.cells
theorem TG.m (d : TG X K w Gd b W) : Ix X K W := d.t.m
theorem TG.step (d : TG X K w Gd b W) (hr : IxR X K' r W e W') : TG X K' w Gd b W' := ⟨d.t.step hr, d.k _ _ d.g hr.2.2, d.k⟩
theorem TG.done (d : TG X K w Gd b W) (r : Value) : IxR X K r w (.returned r) W := d.t.done r
def intOf : Value → Int | .int _ q => q | _ => 0
set_option maxRecDepth 100000 in
theorem seek_any (G : Nat) (rc : Value) (T : Nat → Bool) (hen : ∀ args w, (callFunc G args).run Tryz.prog w = .ok (.enter G args) w) (hk : ∀ W W', Gd W → Fr W.heap.size (blkM X.h) W W' → Gd W')
    (hc : ∀ (i : Nat) W, i < 224 → Ix X K W → Gd W → Calls Tryz.prog G #[rc, .int .i64 (i : Int)] W (IxR X K (.bool (T i)) W)) (d : Ix X K w) (g : Gd w) {p : Nat} (hp : p < 224) :
    Calls Tryz.prog 35 #[tV X.h, .int .i64 (p : Int), .func (.func G) #[rc] #[]] w (IxR X K (.tuple #[.int .i64 ((sfR T p).1 : Int), .bool (sfR T p).2]) w) := by
  have hd0 : TG X K w Gd w.heap.size (w.alloc (.cells #[pV X.h, .int .i64 240, .int .i64 224] 66)) := ⟨TB.made d, hk _ _ g (Fr.of_below (below_made _ _)), hk⟩
  have HT := Lib.hid hc
  have HSk0 := Lib.hid (fun j => @sk_eq (fun s => T (ps 224 p s)) 224 j)
  obtain ⟨R, hR⟩ : ∃ R, R = sfR T p := ⟨_, rfl⟩
  obtain ⟨N, hN⟩ : ∃ N, N = sk (fun s => T (ps 224 p s)) 224 := ⟨_, rfl⟩
  have HR : Hid (R = if N < 224 then (ps 224 p N, true) else (0, false)) := by
    unfold Hid
    rw [hR, hN]
    rfl
  rw [← hR]
  rw [← hN] at HSk0
  have HD0 := Lib.hid hd0
  clear d g hk hc hR hN hd0
  unfold tV pV at *
  go_enter Tryz.func35, Tryz.ntmps35
  go_wp2
  refine wp_scope_jumps 0 (fun a' w' => ∃ (k : Nat) (u4 u5 u9 u10 u11 u12 u13 u14 u15 u16 u17 u18 u19 u20 u21 u22 u23 u24 u25 : Value), a' = { tmps := #[.agg #[.pointer (some ⟨X.h.g, 0, none⟩), .int .i64 240, .int .i64 224], .int .i64 (p : Int), .func (.func G) #[rc] #[], .pointer (some ⟨w.heap.size, 0, none⟩), u4, u5, .int .i64 0, .bool false, .int .i64 (k : Int), u9, u10, u11, u12, u13, u14, u15, u16, u17, u18, u19, u20, u21, u22, u23, u24, u25], defers := [] } ∧ k ≤ 224 ∧ Hid (∀ j, j < k → T (ps 224 p j) = false) ∧ Hid (TG X K w Gd w.heap.size w')) (fun a' _ => 224 - (intOf (a'.tmps.getD 8 undef)).toNat) rfl ?_ ?_
  · have hd := HD0.out
    have HT0 := Lib.hid (fun W (hW : Ix X K W) (g : Gd W) => HT.out p W hp hW g)
    have HP0 : Hid (ps 224 p 0 = p) := ps_zero hp
    have HSk := Lib.hid (HSk0.out 0 (by omega))
    have hw1 : IntKind.i64.wrap (p : Int) = (p : Int) := Ind.wrap_id (by omega) (by omega)
    have hw2 : (p : Int).tmod 224 = (p : Int) := by
      rw [Int.tmod_eq_emod_of_nonneg (by omega)]
      omega
    obtain ⟨o, ho⟩ : ∃ o, o = T p := ⟨_, rfl⟩
    rw [← ho] at HT0
    have HQ := Lib.hid ho
    clear ho HD0
    obtain ⟨c0, c1, c2⟩ := hd.cells
    cases o with
    | true =>
      go_wp2
      go_step3
      go_wp2_with fail
      refine (HT0.out _ hd.m hd.g).mono ?_
      rintro e w2 hq
      obtain rfl := hq.1
      replace hd := hd.step hq
      clear hq c0 c1 c2
      have HE := Lib.hid hd
      clear hd HT0 HT
      go_wp2
      simp only [Exit.jump]
      go_ret2
      have e1 : N = 0 := HSk.out (fun j hj => by omega) (fun _ => by rw [HP0.out]; exact HQ.out.symm)
      rw [HR.out, e1, if_pos (by omega)]
      refine ⟨?_, HE.out.t.m, HE.out.t.f⟩
      rw [HP0.out]
      rfl
    | false =>
      go_wp2
      go_step3
      go_wp2_with fail
      refine (HT0.out _ hd.m hd.g).mono ?_
      rintro e w2 hq
      obtain rfl := hq.1
      replace hd := hd.step hq
      clear hq c0 c1 c2
      have HE := Lib.hid hd
      clear hd HT0
      go_wp2
      go_step3
      have HK1 : Hid (∀ j, j < 1 → T (ps 224 p j) = false) := fun j hj => by
        obtain rfl : j = 0 := by omega
        rw [HP0.out]
        exact HQ.out.symm
      exact ⟨rfl, 1, _, _, _, _, _, _, _, _, _, _, _, _, _, _, _, _, _, _, _, rfl, by omega, HK1, HE.out⟩
  · rintro a' w' ⟨k, u4, u5, u9, u10, u11, u12, u13, u14, u15, u16, u17, u18, u19, u20, u21, u22, u23, u24, u25, rfl, hk, HK, HD⟩
    have hd := HD.out
    clear HD HD0
    by_cases hlt : k < 224
    · have HTk := Lib.hid (fun W (hW : Ix X K W) (g : Gd W) => HT.out (ps 224 p k) W (ps_lt hp (Nat.le_of_lt hlt)) hW g)
      have HSk := Lib.hid (HSk0.out k (Nat.le_of_lt hlt))
      have hlk : (k : Int) < 224 := by omega
      have hw1 : IntKind.i64.wrap ((p : Int) + (k : Int)) = (p : Int) + k := Ind.wrap_id (by omega) (by omega)
      have hw2 : ((p : Int) + (k : Int)).tmod 224 = (ps 224 p k : Int) := ps_tmod hp (Nat.le_of_lt hlt)
      have hw3 : IntKind.i64.wrap ((k : Int) + 1) = ((k + 1 : Nat) : Int) := (Ind.wrap_id (by omega) (by omega)).trans (by omega)
      have hne : ((k : Int) == 224) = false := by simp; omega
      obtain ⟨o, ho⟩ : ∃ o, o = T (ps 224 p k) := ⟨_, rfl⟩
      rw [← ho] at HTk
      have HO := Lib.hid ho
      clear ho
      have HQ : Hid (∀ j, j = k → T (ps 224 p j) = o) := fun j hj => by rw [hj]; exact HO.out.symm
      clear HO
      obtain ⟨q, hq⟩ : ∃ q, q = ps 224 p k := ⟨_, rfl⟩
      rw [← hq] at hw2 HTk
      have HqQ := Lib.hid hq
      clear hq
      obtain ⟨c0, c1, c2⟩ := hd.cells
      cases o with
      | true =>
        go_wp2_with fail
        refine (HTk.out _ hd.m hd.g).mono ?_
        rintro e w2 hq
        obtain rfl := hq.1
        replace hd := hd.step hq
        clear hq c0 c1 c2
        obtain ⟨c0, c1, c2⟩ := hd.cells
        have HE := Lib.hid hd
        clear hd HTk HT
        go_wp2
        simp only [Exit.jump]
        go_ret2
        have e1 : N = k := HSk.out HK.out (fun _ => HQ.out k rfl)
        rw [HR.out, e1, if_pos hlt]
        refine ⟨?_, HE.out.t.m, HE.out.t.f⟩
        rw [← HqQ.out]
        rfl
      | false =>
        go_wp2_with fail
        refine (HTk.out _ hd.m hd.g).mono ?_
        rintro e w2 hq
        obtain rfl := hq.1
        replace hd := hd.step hq
        clear hq c0 c1 c2
        obtain ⟨c0, c1, c2⟩ := hd.cells
        have HE := Lib.hid hd
        clear hd HTk
        go_wp2
        go_step3
        refine ⟨rfl, ⟨k + 1, _, _, _, _, _, _, _, _, _, _, _, _, _, _, _, _, _, _, _, rfl, by omega, (fun j hj => (Nat.lt_or_ge j k).elim (fun z => HK.out j z) (fun z => HQ.out j (by omega))), HE.out⟩, ?_⟩
        simp [intOf]
        omega
    · obtain rfl : k = 224 := by omega
      rw [show ((224 : Nat) : Int) = 224 from rfl]
      obtain ⟨c0, c1, c2⟩ := hd.cells
      have HE := Lib.hid hd
      have e1 : Hid (N = 224) := HSk0.out 224 (Nat.le_refl _) HK.out (fun h => absurd h (by omega))
      clear hd HT
      go_wp2
      simp only [Exit.jump]
      go_ret2
      rw [HR.out, e1.out, if_neg (by omega)]
      exact ⟨rfl, HE.out.t.m, HE.out.t.f⟩
end
end Go.Proofs.YtcpfnmphcndmjaaGreatDoor.Ind

namespace Go.Proofs.YtcpfnmphcndmjaaGreatDoor.Ind
open Go.RowKit Num
open Pro
open Mem (Mm MemC MRet Hm rd blkM)
open Sla (Sl St Lv pl aT pV Lo)
open Arn (wrL is64)
set_option linter.unusedVariables false
set_option maxRecDepth 100000

/-- While a place is put in; while one is taken out. -/
def insj (K : Nat → Nat) (x p j q : Nat) : Nat := if off 224 p q < j then (if off 224 p q = 0 then x else K (pv 224 q)) else K q
def delj (K : Nat → Nat) (p j q : Nat) : Nat := if off 224 p q < j then K (nx 224 q) else if off 224 p q = j then 0 else K q
/-- What is carried in the hand. -/
def hnd (K : Nat → Nat) (x p j : Nat) : Nat := if j = 0 then x else K (ps 224 p (j - 1))
theorem nx_ps {p j : Nat} (hp : p < 224) (hj : j < 224) : nx 224 (ps 224 p j) = ps 224 p (j + 1) := by unfold nx ps; (repeat' split) <;> omega
theorem insj_zero (K : Nat → Nat) (x p q : Nat) : insj K x p 0 q = K q := if_neg (by omega)
theorem insj_here {K : Nat → Nat} {x p j : Nat} (hp : p < 224) (hj : j < 224) : insj K x p j (ps 224 p j) = K (ps 224 p j) := by
  unfold insj
  rw [off_ps hp hj, if_neg (by omega)]
theorem insj_step {K : Nat → Nat} {x p j q : Nat} (hp : p < 224) (hj : j < 224) (hq : q < 224) : up (insj K x p j) (ps 224 p j) (hnd K x p j) q = insj K x p (j + 1) q := by
  by_cases e : q = ps 224 p j
  · subst e
    rw [up_at]
    unfold insj hnd
    rw [off_ps hp hj]
    by_cases h0 : j = 0
    · rw [if_pos h0, if_pos (Nat.lt_succ_self j), if_pos h0]
    · rw [if_neg h0, if_pos (Nat.lt_succ_self j), if_neg h0]
      congr 1
      have := pv_ps (i := j - 1) hp (show j - 1 + 1 < 224 by omega)
      rw [show j - 1 + 1 = j by omega] at this
      exact this.symm
  · rw [up_ne _ _ e]
    have hne : off 224 p q ≠ j := fun h => e (by rw [← h, ps_off hp hq])
    unfold insj
    by_cases h : off 224 p q < j
    · rw [if_pos h, if_pos (show off 224 p q < j + 1 by omega)]
    · rw [if_neg h, if_neg (show ¬ off 224 p q < j + 1 by omega)]
theorem insj_end {K : Nat → Nat} {x p m : Nat} (q : Nat) : insj K x p (m + 1) q = insk 224 K x p m q := by
  unfold insj insk
  by_cases h : off 224 p q = 0
  · rw [if_pos (show off 224 p q < m + 1 by omega), if_pos h, if_pos h]
  · rw [if_neg h, if_neg h]
    by_cases h2 : off 224 p q ≤ m
    · rw [if_pos (show off 224 p q < m + 1 by omega), if_pos h2]
    · rw [if_neg (show ¬ off 224 p q < m + 1 by omega), if_neg h2]
theorem delj_zero {K : Nat → Nat} {p q : Nat} (hp : p < 224) (hq : q < 224) : up K p 0 q = delj K p 0 q := by
  unfold delj
  rw [if_neg (by omega)]
  by_cases e : q = p
  · subst e; rw [up_at, off_self, if_pos rfl]
  · rw [up_ne _ _ e, if_neg (fun h => e (off_zero hp hq h))]
theorem delj_next {K : Nat → Nat} {p j : Nat} (hp : p < 224) (hj : j + 1 < 224) : delj K p j (ps 224 p (j + 1)) = K (ps 224 p (j + 1)) := by
  unfold delj
  rw [off_ps hp hj, if_neg (by omega), if_neg (by omega)]
theorem delj_step {K : Nat → Nat} {p j q : Nat} (hp : p < 224) (hj : j + 1 < 224) (hq : q < 224) : up (up (delj K p j) (ps 224 p j) (K (ps 224 p (j + 1)))) (ps 224 p (j + 1)) 0 q = delj K p (j + 1) q := by
  by_cases e : q = ps 224 p (j + 1)
  · subst e
    rw [up_at]
    unfold delj
    rw [off_ps hp hj, if_neg (by omega), if_pos rfl]
  · rw [up_ne _ _ e]
    have n1 : off 224 p q ≠ j + 1 := fun h => e (by rw [← h, ps_off hp hq])
    by_cases e2 : q = ps 224 p j
    · subst e2
      rw [up_at]
      unfold delj
      rw [off_ps hp (by omega), if_pos (by omega), nx_ps hp (by omega)]
    · rw [up_ne _ _ e2]
      have n2 : off 224 p q ≠ j := fun h => e2 (by rw [← h, ps_off hp hq])
      unfold delj
      by_cases h : off 224 p q < j
      · rw [if_pos h, if_pos (by omega)]
      · rw [if_neg h, if_neg n2, if_neg (by omega), if_neg n1]
section
variable {X : Fx} {l : List Int} {K K' : Nat → Nat} {r r' : Value} {w w1 w2 w' W W' : World} {e e' : Ending} {b x a : Nat} {fv : Value} {Gd : World → Prop} {F : Nat} {cp : Array Value} {P : Nat → Bool}
theorem TB.congr (d : TB X K w b W) (h : ∀ i, i < 224 → K' i = K i) : TB X K' w b W := ⟨d.m.congr h, d.bx, d.n, d.f⟩
theorem IxR.congr (d : IxR X K r w e W) (h : ∀ i, i < 224 → K' i = K i) : IxR X K' r w e W := ⟨d.1, d.2.1.congr h, d.2.2⟩
set_option maxRecDepth 100000 in
theorem push_any (d : Ix X K w) {p m : Nat} (hp : p < 224) (hm : m < 224) (hx : x ∈ X.E) (h1 : ∀ j, j < m → K (ps 224 p j) ≠ 0) (h2 : K (ps 224 p m) = 0) :
    Calls Tryz.prog 43 #[tV X.h, .int .i64 (p : Int), .int .i64 (x : Int)] w (IxR X (insk 224 K x p m) (.tuple #[]) w) := by
  have hd0 := TB.made d
  have hx0 : x ≠ 0 := by have := d.facts hx; omega
  have hH0 : ∀ j, j < m + 1 → hnd K x p j ≠ 0 ∧ hnd K x p j ∈ X.E := fun j hj => by
    unfold hnd
    by_cases h0 : j = 0
    · rw [if_pos h0]; exact ⟨hx0, hx⟩
    · rw [if_neg h0]
      have := h1 (j - 1) (by omega)
      exact ⟨this, d.kin (ps_lt hp (by omega)) this⟩
  have hHm : hnd K x p (m + 1) = 0 := by unfold hnd; rw [if_neg (by omega)]; exact h2
  have HH0 := Lib.hid hH0
  have HHd := Lib.hid (fun j W (hj : j < m + 1) (hW : Ix X (insj K x p j) W) => held_any hW (i := ps 224 p j) (ps_lt hp (by omega)))
  have HSt := Lib.hid (fun j W (hj : j < m + 1) (hW : Ix X (insj K x p j) W) => set_any hW (i := ps 224 p j) (v := hnd K x p j) (ps_lt hp (by omega)) (.inr (hH0 j hj).2))
  have HNx := Lib.hid (fun j W K' (hj : j < m + 1) (hW : Ix X K' W) => next_any hW (p := ps 224 p j) (ps_lt hp (by omega)))
  have HP0 : Hid (ps 224 p 0 = p) := ps_zero hp
  have HD0 : Hid (TB X (insj K x p 0) w w.heap.size (w.alloc (.cells #[pV X.h, .int .i64 240, .int .i64 224] 66))) := hd0.congr (fun i _ => insj_zero K x p i)
  have HE : Hid (∀ W, TB X (insj K x p (m + 1)) w w.heap.size W → IxR X (insk 224 K x p m) (.tuple #[]) w (.returned (.tuple #[])) W) := fun W hW => (hW.done (.tuple #[])).congr (fun i _ => (insj_end i).symm)
  have HS : Hid (∀ j, j < m + 1 → ∀ i, i < 224 → insj K x p (j + 1) i = up (insj K x p j) (ps 224 p j) (hnd K x p j) i) := fun j hj i hi => (insj_step hp (by omega) hi).symm
  have HV : Hid (∀ j, j < m + 1 → insj K x p j (ps 224 p j) = hnd K x p (j + 1)) := fun j hj => by
    rw [insj_here hp (by omega)]
    unfold hnd
    rw [if_neg (by omega)]
    rfl
  have HN : Hid (∀ j, j < m + 1 → nx 224 (ps 224 p j) = ps 224 p (j + 1)) := fun j hj => nx_ps hp (by omega)
  have HHm := Lib.hid hHm
  have HX0 : Hid (hnd K x p 0 = x) := if_pos rfl
  clear d hd0 hx hx0 h1 h2 hH0 hHm
  try unfold tV at *
  unfold pV at *
  go_enter Tryz.func43, Tryz.ntmps43
  go_wp2
  go_loopg [1, 2] (m + 1) (fun k s v wr => ∃ j : Nat, k = m + 1 - j ∧ j ≤ m + 1 ∧ s = .int .i64 (ps 224 p j : Int) ∧ v = .int .i64 (hnd K x p j : Int) ∧ Hid (TB X (insj K x p j) w w.heap.size wr))
  case atStart => exact ⟨0, by omega, by omega, by rw [HP0.out], by rw [HX0.out], HD0.out⟩
  case round =>
    clear HD0
    obtain ⟨j, hgk, hj, rfl, rfl, HD⟩ := hrel
    have HG := Lib.hid hgk
    have hd := HD.out
    clear hgk HD
    obtain ⟨c0, c1, c2⟩ := hd.cells
    by_cases hlt : j < m + 1
    · obtain ⟨n1, n2⟩ := HH0.out j hlt
      have hq : ((hnd K x p j : Int) != 0) = true := by simpa using n1
      have H1 := Lib.hid (fun W hW => HHd.out j W hlt hW)
      rw [HV.out j hlt] at H1
      have H2 := Lib.hid (fun W hW => HSt.out j W hlt hW)
      have H3 := Lib.hid (fun W K' hW => HNx.out j W K' hlt hW)
      rw [HN.out j hlt] at H3
      have HS1 := Lib.hid (HS.out j hlt)
      clear n1 n2
      generalize insj K x p j = K1 at *
      generalize hnd K x p j = v at H2 HS1 hq ⊢
      obtain ⟨v2, hv2⟩ : ∃ v2, v2 = hnd K x p (j + 1) := ⟨_, rfl⟩
      rw [← hv2] at H1
      have HV2 := Lib.hid hv2
      clear hv2
      obtain ⟨s, hs⟩ : ∃ s, s = ps 224 p j := ⟨_, rfl⟩
      rw [← hs] at H1 H2 H3 HS1 ⊢
      clear hs
      obtain ⟨s2, hs2⟩ : ∃ s2, s2 = ps 224 p (j + 1) := ⟨_, rfl⟩
      rw [← hs2] at H3
      have HS2 := Lib.hid hs2
      clear hs2
      go_wp2_with fail
      refine (H1.out _ hd.m).mono ?_
      rintro e w2 hq
      obtain rfl := hq.1
      replace hd := hd.step hq
      clear hq c0 c1 c2
      obtain ⟨c0, c1, c2⟩ := hd.cells
      go_wp2_with fail
      refine (H2.out _ hd.m).mono ?_
      rintro e w2 hq
      obtain rfl := hq.1
      replace hd := hd.step hq
      clear hq c0 c1 c2
      obtain ⟨c0, c1, c2⟩ := hd.cells
      go_wp2_with fail
      refine (H3.out _ _ hd.m).mono ?_
      rintro e w2 hq
      obtain rfl := hq.1
      replace hd := hd.step hq
      have HDn : Hid (TB X (insj K x p (j + 1)) w w.heap.size w2) := hd.congr (fun i hi => HS1.out i hi)
      clear hq c0 c1 c2 hd
      go_wp2
      go_roundg (m + 1 - (j + 1))
      case measure => have := HG.out; omega
      case rel => exact ⟨j + 1, rfl, by omega, by rw [HS2.out], by rw [HV2.out], HDn.out⟩
    · obtain rfl : j = m + 1 := by omega
      rw [HHm.out, show ((0 : Nat) : Int) = 0 from rfl]
      have HEn := Lib.hid (HE.out _ hd)
      clear hd
      go_wp2
      refine bodyPost_end (results_none rfl _ _ _) rfl ?_
      exact HEn.out
set_option maxRecDepth 100000 in
theorem pull_any (d : Ix X K w) {p : Nat} (hp : p < 224) :
    Calls Tryz.prog 37 #[tV X.h, .int .i64 (p : Int)] w (IxR X (delF 224 (hmX X) K p) (.tuple #[]) w) := by
  have hd := TB.made d
  have HSet := Lib.hid (fun W (hW : Ix X K W) => set_any hW (i := p) (v := 0) hp (.inl rfl))
  have HNp := Lib.hid (fun W (hW : Ix X (up K p 0) W) => next_any hW (p := p) hp)
  have hnp : nx 224 p < 224 := nx_lt hp
  obtain ⟨m, hm⟩ : ∃ m, m = sta 224 (hmX X) K p := ⟨_, rfl⟩
  have hm1 : m < 224 := by rw [hm]; exact sta_lt hp
  have hsf : sfR (fun i => stb 224 (hmX X) (up K p 0) i) (nx 224 p) = (ps 224 p (m + 1), true) := by
    unfold sfR
    have e1 : sk (fun s => stb 224 (hmX X) (up K p 0) (ps 224 (nx 224 p) s)) 224 = m := hm.symm
    rw [e1, if_pos hm1, ps_nx hp (by omega)]
  have HSk : Hid (∀ W, Ix X (up K p 0) W → Calls Tryz.prog 35 #[tV X.h, .int .i64 (nx 224 p : Int), .func (.func 83) #[tV X.h] #[]] W (IxR X (up K p 0) (.tuple #[.int .i64 (ps 224 p (m + 1) : Int), .bool true]) W)) := fun W hW => by
    have := seek_any (Gd := fun _ => True) 83 (tV X.h) (fun i => stb 224 (hmX X) (up K p 0) i) (enters_of Tryz.func83 (by kernel_rfl) rfl) (fun _ _ _ _ => trivial) (fun i W hi hW _ => stays_any hW hi) hW trivial hnp
    rw [hsf] at this
    exact this
  have HHd := Lib.hid (fun j W (hj : j < m) (hW : Ix X (delj K p j) W) => held_any hW (i := ps 224 p (j + 1)) (ps_lt hp (by omega)))
  have HS1 := Lib.hid (fun j W (hj : j < m) (hW : Ix X (delj K p j) W) => set_any hW (i := ps 224 p j) (v := K (ps 224 p (j + 1))) (ps_lt hp (by omega)) (by
    by_cases q : K (ps 224 p (j + 1)) = 0
    · exact .inl q
    · exact .inr (d.kin (ps_lt hp (by omega)) q)))
  have HS2 := Lib.hid (fun j W K' (hj : j < m) (hW : Ix X K' W) => set_any hW (i := ps 224 p (j + 1)) (v := 0) (ps_lt hp (by omega)) (.inl rfl))
  have HNx := Lib.hid (fun j W K' (hj : j < m) (hW : Ix X K' W) => next_any hW (p := ps 224 p (j + 1)) (ps_lt hp (by omega)))
  have HV : Hid (∀ j, j < m → delj K p j (ps 224 p (j + 1)) = K (ps 224 p (j + 1))) := fun j hj => delj_next hp (by omega)
  have HN : Hid (∀ j, j < m → nx 224 (ps 224 p (j + 1)) = ps 224 p (j + 2)) := fun j hj => nx_ps hp (by omega)
  have HS : Hid (∀ j, j < m → ∀ i, i < 224 → delj K p (j + 1) i = up (up (delj K p j) (ps 224 p j) (K (ps 224 p (j + 1)))) (ps 224 p (j + 1)) 0 i) := fun j hj i hi => (delj_step hp (by omega) hi).symm
  have HZ : Hid (∀ i, i < 224 → delj K p 0 i = up K p 0 i) := fun i hi => (delj_zero hp hi).symm
  have HE : Hid (∀ W, TB X (delj K p m) w w.heap.size W → IxR X (delF 224 (hmX X) K p) (.tuple #[]) w (.returned (.tuple #[])) W) := fun W hW => (hW.done (.tuple #[])).congr (fun i _ => by unfold delF delk; rw [← hm]; rfl)
  have HP0 : Hid (ps 224 p 0 = p) := ps_zero hp
  have HP1 : Hid (nx 224 p = ps 224 p 1) := by
    have := nx_ps (p := p) (j := 0) hp (by omega)
    rw [ps_zero hp] at this
    exact this
  have HNe : Hid (∀ j, j < m → ps 224 p (j + 1) ≠ ps 224 p (m + 1)) := fun j hj e => by
    unfold ps at e
    split at e <;> split at e <;> omega
  obtain ⟨c0, c1, c2⟩ := hd.cells
  generalize up K p 0 = K0 at HSet HNp HSk HZ
  generalize delF 224 (hmX X) K p = K9 at HE ⊢
  clear d hsf hm hnp
  rw [show ((0 : Nat) : Int) = 0 from rfl] at HSet HS2
  try unfold tV at *
  unfold pV at *
  go_enter Tryz.func37, Tryz.ntmps37
  go_wp2_with fail
  refine (HSet.out _ hd.m).mono ?_
  rintro e w2 hq
  obtain rfl := hq.1
  replace hd := hd.step hq
  clear hq c0 c1 c2
  obtain ⟨c0, c1, c2⟩ := hd.cells
  go_wp2_with fail
  go_region_held3 (fun w' => w'.cell? ⟨w.heap.size, 0, none⟩ = some (.pointer (some ⟨X.h.g, 0, none⟩)) ∧ w'.cell? ⟨w.heap.size, 1, none⟩ = some (.int .i64 240) ∧ w'.cell? ⟨w.heap.size, 2, none⟩ = some (.int .i64 224)) (first | exact ⟨c0, c1, c2⟩ | go_keep) ((first | (go_at_call 82; refine (HNp.out _ (by first | exact hd.m | exact hd.m.drew)).mono ?_; rintro e w2 hq; obtain rfl := hq.1; replace hd := (by first | exact hd.step hq | exact hd.drew.step hq); clear hq c0 c1 c2; obtain ⟨c0, c1, c2⟩ := hd.cells) | (go_at_call 35; refine (HSk.out _ (by first | exact hd.m | exact hd.m.drew)).mono ?_; rintro e w2 hq; obtain rfl := hq.1; replace hd := (by first | exact hd.step hq | exact hd.drew.step hq); clear hq c0 c1 c2; obtain ⟨c0, c1, c2⟩ := hd.cells)))
  all_goals
    go_wp2_with fail
    refine (HNp.out _ hd.m).mono ?_
    rintro e w2 hq
    obtain rfl := hq.1
    replace hd := hd.step hq
    clear hq c0 c1 c2
    obtain ⟨c0, c1, c2⟩ := hd.cells
    have HD0 : Hid (TB X (delj K p 0) w w.heap.size w2) := hd.congr (fun i hi => HZ.out i hi)
    clear c0 c1 c2 hd HSet HSk HNp
    go_wp2
    go_loopg [1, 6] m (fun k s v wr => ∃ j : Nat, k = m - j ∧ j ≤ m ∧ s = .int .i64 (ps 224 p j : Int) ∧ v = .int .i64 (ps 224 p (j + 1) : Int) ∧ Hid (TB X (delj K p j) w w.heap.size wr))
    case atStart => exact ⟨0, by omega, by omega, by rw [HP0.out], by rw [HP1.out], HD0.out⟩
    case round =>
      clear HD0
      obtain ⟨j, hgk, hj, rfl, rfl, HD⟩ := hrel
      have HG := Lib.hid hgk
      have hd := HD.out
      clear hgk HD
      obtain ⟨c0, c1, c2⟩ := hd.cells
      by_cases hlt : j < m
      · have hne := HNe.out j hlt
        have hq : ((ps 224 p (j + 1) : Int) != (ps 224 p (m + 1) : Int)) = true := by rw [bne_iff_ne]; omega
        have H1 := Lib.hid (fun W hW => HHd.out j W hlt hW)
        rw [HV.out j hlt] at H1
        have H2 := Lib.hid (fun W hW => HS1.out j W hlt hW)
        have H3 := Lib.hid (fun W K' hW => HS2.out j W K' hlt hW)
        have H4 := Lib.hid (fun W K' hW => HNx.out j W K' hlt hW)
        rw [HN.out j hlt] at H4
        have HSj := Lib.hid (HS.out j hlt)
        clear hne
        generalize delj K p j = K1 at *
        generalize K (ps 224 p (j + 1)) = v at *
        obtain ⟨s, hs⟩ : ∃ s, s = ps 224 p j := ⟨_, rfl⟩
        rw [← hs] at H2 HSj ⊢
        clear hs
        obtain ⟨s2, hs2⟩ : ∃ s2, s2 = ps 224 p (j + 1) := ⟨_, rfl⟩
        rw [← hs2] at H1 H3 H4 HSj hq ⊢
        have HS2' := Lib.hid hs2
        clear hs2
        obtain ⟨s3, hs3⟩ : ∃ s3, s3 = ps 224 p (j + 2) := ⟨_, rfl⟩
        rw [← hs3] at H4
        have HS3' := Lib.hid hs3
        clear hs3
        generalize (ps 224 p (m + 1) : Int) = en at *
        go_wp2_with fail
        go_region_held3 (fun w' => w'.cell? ⟨w.heap.size, 0, none⟩ = some (.pointer (some ⟨X.h.g, 0, none⟩)) ∧ w'.cell? ⟨w.heap.size, 1, none⟩ = some (.int .i64 240) ∧ w'.cell? ⟨w.heap.size, 2, none⟩ = some (.int .i64 224)) (first | exact ⟨c0, c1, c2⟩ | go_keep) ((first | (go_at_call 81; refine (H1.out _ (by first | exact hd.m | exact hd.m.drew)).mono ?_; rintro e w2 hq; obtain rfl := hq.1; replace hd := (by first | exact hd.step hq | exact hd.drew.step hq); clear hq c0 c1 c2; obtain ⟨c0, c1, c2⟩ := hd.cells) | (go_at_call 53; refine (H2.out _ (by first | exact hd.m | exact hd.m.drew)).mono ?_; rintro e w2 hq; obtain rfl := hq.1; replace hd := (by first | exact hd.step hq | exact hd.drew.step hq); clear hq c0 c1 c2; obtain ⟨c0, c1, c2⟩ := hd.cells)))
        all_goals
          go_wp2_with fail
          refine (H3.out _ _ hd.m).mono ?_
          rintro e w2 hq
          obtain rfl := hq.1
          replace hd := hd.step hq
          clear hq c0 c1 c2
          obtain ⟨c0, c1, c2⟩ := hd.cells
          go_wp2_with fail
          refine (H4.out _ _ hd.m).mono ?_
          rintro e w2 hq
          obtain rfl := hq.1
          replace hd := hd.step hq
          have HDn : Hid (TB X (delj K p (j + 1)) w w.heap.size w2) := hd.congr (fun i hi => HSj.out i hi)
          clear hq c0 c1 c2 hd
          go_wp2
          go_roundg (m - (j + 1))
          case measure => have := HG.out; omega
          case rel => exact ⟨j + 1, rfl, by omega, by rw [HS2'.out], by rw [HS3'.out], HDn.out⟩
      · obtain rfl : j = m := by omega
        have hq : ((ps 224 p (j + 1) : Int) != (ps 224 p (j + 1) : Int)) = false := by simp
        have HEn := Lib.hid (HE.out _ hd)
        clear hd
        go_wp2
        refine bodyPost_end (results_none rfl _ _ _) rfl ?_
        exact HEn.out
end
end Go.Proofs.YtcpfnmphcndmjaaGreatDoor.Ind

namespace Go.Proofs.YtcpfnmphcndmjaaGreatDoor.Ind
open Go.RowKit Num
open Pro
open Mem (Mm MemC MRet Hm rd blkM)
open Sla (Sl St Lv pl aT pV Lo)
open Arn (wrL is64)
set_option linter.unusedVariables false
set_option maxRecDepth 100000

/-- Boxes of one's own beside a memory. -/
structure MB (X : Fx) (K : Nat → Nat) (w : World) (L : List (Nat × Array Value × TypeId)) (W : World) : Prop where
  m : Ix X K W
  bx : ∀ p ∈ L, W.heap[p.1]? = some (.cells p.2.1 p.2.2 (0, 0)) ∧ ¬ blkM X.h p.1 ∧ w.heap.size ≤ p.1
  f : Fr w.heap.size (blkM X.h) w W
  lo : Lo X.h w.heap.size
/-- Cells of a block, written one by one. -/
def S3 (w : World) (b : Nat) (v0 v1 v2 : Value) : World := ((w.setCell ⟨b, 0, none⟩ v0).setCell ⟨b, 1, none⟩ v1).setCell ⟨b, 2, none⟩ v2
def S4 (w : World) (b : Nat) (v0 v1 v2 v3 : Value) : World := (S3 w b v0 v1 v2).setCell ⟨b, 3, none⟩ v3
def S5 (w : World) (b : Nat) (v0 v1 v2 v3 v4 : Value) : World := (S4 w b v0 v1 v2 v3).setCell ⟨b, 4, none⟩ v4
def S6 (w : World) (b : Nat) (v0 v1 v2 v3 v4 v5 : Value) : World := (S5 w b v0 v1 v2 v3 v4).setCell ⟨b, 5, none⟩ v5
theorem sc_keep {W : World} {b b' i j : Nat} {v u : Value} (hn : b' ≠ b) (h : W.cell? ⟨b', i, none⟩ = some v) : (W.setCell ⟨b, j, none⟩ u).cell? ⟨b', i, none⟩ = some v := by
  rw [World.cell?_setCell_other _ _ _ _ (by intro q; injection q with q _ _; exact hn q.symm)]
  exact h
theorem s3_keep {W : World} {b b' i : Nat} {v v0 v1 v2 : Value} (hn : b' ≠ b) (h : W.cell? ⟨b', i, none⟩ = some v) : (S3 W b v0 v1 v2).cell? ⟨b', i, none⟩ = some v := sc_keep hn (sc_keep hn (sc_keep hn h))
theorem s4_keep {W : World} {b b' i : Nat} {v v0 v1 v2 v3 : Value} (hn : b' ≠ b) (h : W.cell? ⟨b', i, none⟩ = some v) : (S4 W b v0 v1 v2 v3).cell? ⟨b', i, none⟩ = some v := sc_keep hn (s3_keep hn h)
theorem s5_keep {W : World} {b b' i : Nat} {v v0 v1 v2 v3 v4 : Value} (hn : b' ≠ b) (h : W.cell? ⟨b', i, none⟩ = some v) : (S5 W b v0 v1 v2 v3 v4).cell? ⟨b', i, none⟩ = some v := sc_keep hn (s4_keep hn h)
section
variable {X : Fx} {l : List Int} {K K' : Nat → Nat} {r r' : Value} {w w1 w2 w' W W' : World} {e e' : Ending} {b x a : Nat} {fv : Value} {Gd : World → Prop} {F : Nat} {cp cs : Array Value} {P : Nat → Bool} {L : List (Nat × Array Value × TypeId)} {t : TypeId}
theorem MB.start (d : Ix X K w) : MB X K w [] w := ⟨d, fun p hp => (by cases hp), Fr.refl _ _ _, d.lo⟩
theorem MB.push (d : MB X K w L W) (cs : Array Value) (t : TypeId) : MB X K w ((W.heap.size, cs, t) :: L) (W.alloc (.cells cs t)) := by
  refine ⟨d.m.below (below_made _ _), fun p hp => ?_, d.f.trans ((Fr.of_below (below_made _ _)).mono d.f.size (fun _ _ q => q)), d.lo⟩
  rcases List.mem_cons.1 hp with rfl | hp
  · exact ⟨heap_alloc_new _ _, fun q => by have := d.m.lt _ q; omega, d.f.size⟩
  · obtain ⟨h1, h2, h3⟩ := d.bx p hp
    exact ⟨(heap_alloc_old _ _ (Array.getElem?_eq_some_iff.1 h1).1).trans h1, h2, h3⟩
theorem MB.step (d : MB X K w L W) (hr : IxR X K' r W e W') : MB X K' w L W' :=
  ⟨hr.2.1, fun p hp => by
    obtain ⟨h1, h2, h3⟩ := d.bx p hp
    exact ⟨(hr.2.2.block _ (Array.getElem?_eq_some_iff.1 h1).1 h2).trans h1, h2, h3⟩, d.f.trans (hr.2.2.mono d.f.size (fun _ _ q => q)), d.lo⟩
theorem MB.below (d : MB X K w L W) (hb : Below W.heap.size W W') : MB X K w L W' := d.step (d.m.only hb (.bool true))
theorem MB.drew (d : MB X K w L W) : MB X K w L W.drew := d.below (Below.refl _ _).drew
theorem MB.done (d : MB X K w L W) (r : Value) : IxR X K r w (.returned r) W := ⟨rfl, d.m, d.f⟩
theorem MB.cell (d : MB X K w L W) (hp : (b, cs, t) ∈ L) (i : Nat) : W.cell? ⟨b, i, none⟩ = cs[i]? := cell_block (d.bx _ hp).1 i
theorem MB.frz (d : MB X K w L W) (hp : (b, cs, t) ∈ L) (i : Nat) : W.frozen? ⟨b, i, none⟩ = false := Hea.frozen_block (d.bx _ hp).1 i
theorem MB.at (d : MB X K w L W) {v : Value} (b : Nat) (cs : Array Value) (t : TypeId) (i : Nat) (hp : (b, cs, t) ∈ L) (h : cs[i]? = some v) : W.cell? ⟨b, i, none⟩ = some v := (d.cell hp i).trans h
theorem MB.lt (d : MB X K w L W) (hp : (b, cs, t) ∈ L) : b < W.heap.size := (Array.getElem?_eq_some_iff.1 (d.bx _ hp).1).1
/-- A box's cell is written. -/
theorem MB.put (d : MB X K w ((b, cs, t) :: L) W) (hn : ∀ p ∈ L, p.1 ≠ b) (i : Nat) (v : Value) : MB X K w ((b, cs.setIfInBounds i v, t) :: L) (W.setCell ⟨b, i, none⟩ v) := by
  obtain ⟨h1, h2, h3⟩ := d.bx (b, cs, t) (by simp)
  refine ⟨d.m.low ((Below.refl _ _).setCell (p := ⟨b, i, none⟩) h3 v) d.lo, fun p hp => ?_, d.f.setCell (p := ⟨b, i, none⟩) (.inl h3) v, d.lo⟩
  · rcases List.mem_cons.1 hp with rfl | hp
    · exact ⟨Arn.heap_setCell_own h1 v, h2, h3⟩
    · obtain ⟨g1, g2, g3⟩ := d.bx p (by simp [hp])
      exact ⟨(Below.heap_setCell _ _ _ _ (fun q => hn p hp q)).trans g1, g2, g3⟩
theorem MB.set3 {a0 a1 a2 : Value} (d : MB X K w ((b, #[a0, a1, a2], t) :: L) W) (hn : ∀ p ∈ L, p.1 ≠ b) (v0 v1 v2 : Value) : MB X K w ((b, #[v0, v1, v2], t) :: L) (S3 W b v0 v1 v2) := by
  have := ((d.put hn 0 v0).put hn 1 v1).put hn 2 v2
  simpa [S3] using this
theorem MB.set4 {a0 a1 a2 a3 : Value} (d : MB X K w ((b, #[a0, a1, a2, a3], t) :: L) W) (hn : ∀ p ∈ L, p.1 ≠ b) (v0 v1 v2 v3 : Value) : MB X K w ((b, #[v0, v1, v2, v3], t) :: L) (S4 W b v0 v1 v2 v3) := by
  have := (((d.put hn 0 v0).put hn 1 v1).put hn 2 v2).put hn 3 v3
  simpa [S3, S4] using this
theorem MB.set5 {a0 a1 a2 a3 a4 : Value} (d : MB X K w ((b, #[a0, a1, a2, a3, a4], t) :: L) W) (hn : ∀ p ∈ L, p.1 ≠ b) (v0 v1 v2 v3 v4 : Value) : MB X K w ((b, #[v0, v1, v2, v3, v4], t) :: L) (S5 W b v0 v1 v2 v3 v4) := by
  have := ((((d.put hn 0 v0).put hn 1 v1).put hn 2 v2).put hn 3 v3).put hn 4 v4
  simpa [S3, S4, S5] using this
theorem MB.perm {L' : List (Nat × Array Value × TypeId)} (d : MB X K w L W) (h : ∀ p ∈ L', p ∈ L) : MB X K w L' W := ⟨d.m, fun p hp => d.bx p (h p hp), d.f, d.lo⟩
set_option maxHeartbeats 1000000 in
theorem slots_any (d : Ix X K w) : Calls Tryz.prog 32 #[pV X.h] w (IxR X K (tV X.h) w) := by
  have hd := (MB.start d).push #[.pointer none, .int .i64 0, .int .i64 0] 66
  have HC : Hid (∀ W, Ix X K W → Calls Tryz.prog 77 #[pV X.h] W (IxR X K (.agg #[.int .i64 7, .int .i64 224]) W)) := fun W hW => hW.config.mono fun e w' q => ⟨q.1, hW.below q.2, Fr.of_below q.2⟩
  have HA : Hid (∀ W, Ix X K W → Calls Tryz.prog 78 #[.agg #[.int .i64 7, .int .i64 224], .int .i64 0] W (IxR X K (.int .i64 240) W)) := fun W hW => hW.slotAt.mono fun e w' q => ⟨q.1, hW.below q.2, Fr.of_below q.2⟩
  clear d
  unfold pV at *
  go_enter Tryz.func32, Tryz.ntmps32
  go_wp2_with fail
  refine (HC.out _ hd.m).mono ?_
  rintro e w1 hq
  obtain rfl := hq.1
  have hlt1 : w.heap.size < w1.heap.size := (hd.step hq).lt (b := w.heap.size) (cs := #[.pointer none, .int .i64 0, .int .i64 0]) (t := 66) (by simp)
  replace hd := (hd.step hq).push #[.int .i64 7, .int .i64 224] 63
  have hlt := hd.lt (b := w.heap.size) (cs := #[.pointer none, .int .i64 0, .int .i64 0]) (t := 66) (by simp)
  have c0 := hd.at w1.heap.size #[.int .i64 7, .int .i64 224] 63 0 (by simp) rfl
  have c1 := hd.at w1.heap.size #[.int .i64 7, .int .i64 224] 63 1 (by simp) rfl
  have r0 := hd.at w.heap.size #[.pointer none, .int .i64 0, .int .i64 0] 66 0 (by simp) rfl
  have r1 := hd.at w.heap.size #[.pointer none, .int .i64 0, .int .i64 0] 66 1 (by simp) rfl
  have r2 := hd.at w.heap.size #[.pointer none, .int .i64 0, .int .i64 0] 66 2 (by simp) rfl
  have f0 := hd.frz (b := w.heap.size) (cs := #[.pointer none, .int .i64 0, .int .i64 0]) (t := 66) (by simp) 0
  have f1 := hd.frz (b := w.heap.size) (cs := #[.pointer none, .int .i64 0, .int .i64 0]) (t := 66) (by simp) 1
  have f2 := hd.frz (b := w.heap.size) (cs := #[.pointer none, .int .i64 0, .int .i64 0]) (t := 66) (by simp) 2
  clear hq HC
  go_wp2_with fail
  go_region_held3 (fun w' => w'.cell? ⟨w1.heap.size, 0, none⟩ = some (.int .i64 7) ∧ w'.cell? ⟨w1.heap.size, 1, none⟩ = some (.int .i64 224)) (first | exact ⟨c0, c1⟩ | exact ⟨s3_keep (Nat.ne_of_gt hlt1) c0, s3_keep (Nat.ne_of_gt hlt1) c1⟩ | go_keep) ((go_at_call 78; refine (HA.out _ (by first | exact hd.m | exact hd.m.drew)).mono ?_; rintro e w2 hq; obtain rfl := hq.1; replace hd := (by first | exact hd.step hq | exact hd.drew.step hq); clear hq c0 c1 r0 r1 r2 f0 f1 f2; have c0 := hd.at w1.heap.size #[.int .i64 7, .int .i64 224] 63 0 (by simp) rfl; have c1 := hd.at w1.heap.size #[.int .i64 7, .int .i64 224] 63 1 (by simp) rfl; have r0 := hd.at w.heap.size #[.pointer none, .int .i64 0, .int .i64 0] 66 0 (by simp) rfl; have r1 := hd.at w.heap.size #[.pointer none, .int .i64 0, .int .i64 0] 66 1 (by simp) rfl; have r2 := hd.at w.heap.size #[.pointer none, .int .i64 0, .int .i64 0] 66 2 (by simp) rfl; have f0 := hd.frz (b := w.heap.size) (cs := #[.pointer none, .int .i64 0, .int .i64 0]) (t := 66) (by simp) 0; have f1 := hd.frz (b := w.heap.size) (cs := #[.pointer none, .int .i64 0, .int .i64 0]) (t := 66) (by simp) 1; have f2 := hd.frz (b := w.heap.size) (cs := #[.pointer none, .int .i64 0, .int .i64 0]) (t := 66) (by simp) 2))
  all_goals
    have HS := Lib.hid ((hd.perm (L' := [(w.heap.size, #[.pointer none, .int .i64 0, .int .i64 0], 66), (w1.heap.size, #[.int .i64 7, .int .i64 224], 63)]) (by simp [or_comm])).set3 (by simp; omega) (.pointer (some ⟨X.h.g, 0, none⟩)) (.int .i64 240) (.int .i64 224))
    clear hd c0 c1 r0 r1 r2 f0 f1 f2
    show Exit.then _ _ _ _ (S3 w2 w.heap.size (.pointer (some ⟨X.h.g, 0, none⟩)) (.int .i64 240) (.int .i64 224))
    rename_i hH
    clear hH
    generalize S3 w2 w.heap.size (.pointer (some ⟨X.h.g, 0, none⟩)) (.int .i64 240) (.int .i64 224) = W3 at HS ⊢
    have q0 := HS.out.at w.heap.size _ _ 0 (List.mem_cons_self ..) rfl
    have q1 := HS.out.at w.heap.size _ _ 1 (List.mem_cons_self ..) rfl
    have q2 := HS.out.at w.heap.size _ _ 2 (List.mem_cons_self ..) rfl
    go_wp2
    refine bodyPost_ret (v := .agg #[.pointer (some ⟨X.h.g, 0, none⟩), .int .i64 240, .int .i64 224]) (by simp [results, Tryz.results32, go_sem, q0, q1, q2]) rfl (HS.out.done _)
end
end Go.Proofs.YtcpfnmphcndmjaaGreatDoor.Ind

namespace Go.Proofs.YtcpfnmphcndmjaaGreatDoor.Ind
open Go.RowKit Num
open Pro
open Mem (Mm MemC MRet Hm rd blkM)
open Sla (Sl St Lv pl aT pV Lo)
open Arn (wrL is64)
set_option linter.unusedVariables false
set_option maxRecDepth 100000

section
variable {X : Fx} {l : List Int} {K K' : Nat → Nat} {r r' : Value} {w w1 w2 w' W W' : World} {e e' : Ending} {b x a : Nat} {fv : Value} {Gd : World → Prop} {F : Nat} {cp cs : Array Value} {P : Nat → Bool} {L : List (Nat × Array Value × TypeId)} {t : TypeId}
theorem ad_ne {b b' i j : Nat} (h : b ≠ b') : (⟨b, i, none⟩ : Addr) ≠ ⟨b', j, none⟩ := fun q => h (congrArg Addr.block q)
theorem ne1 {b b1 : Nat} {c1 : Array Value} {t1 : TypeId} (h1 : b1 ≠ b) : ∀ p ∈ [(b1, c1, t1)], p.1 ≠ b := fun p hp => by
  rcases List.mem_cons.1 hp with rfl | hp
  · exact h1
  · cases hp
theorem ne2 {b b1 b2 : Nat} {c1 c2 : Array Value} {t1 t2 : TypeId} (h1 : b1 ≠ b) (h2 : b2 ≠ b) : ∀ p ∈ [(b1, c1, t1), (b2, c2, t2)], p.1 ≠ b := fun p hp => by
  rcases List.mem_cons.1 hp with rfl | hp
  · exact h1
  · exact ne1 h2 p hp
theorem size_al (w : World) (o : Obj) : (w.alloc o).heap.size = w.heap.size + 1 := Array.size_push _
theorem hash1_any {p : Nat} {x : Int} (W : World) (hb : W.heap[b]? = some (.cells #[.int .i64 x] 3 (0, 0))) : Calls Tryz.prog 80 #[.int .i64 (p : Int), .pointer (some ⟨b, 0, none⟩)] W fun e w' => e = .returned (.bool (decide ((p : Int) = x))) ∧ W = w' := by
  have c0 : W.cell? ⟨b, 0, none⟩ = some (.int .i64 x) := (cell_block hb 0).trans rfl
  clear hb
  go_enter Tryz.func80, Tryz.ntmps80
  go_wp2
  go_ret
  exact ⟨ret_bool (by first | rfl | simp), rfl⟩
abbrev isV (b : Nat) : Value := .func (.func 80) #[] #[.pointer (some ⟨b, 0, none⟩)]
set_option maxHeartbeats 2000000 in
theorem forBlock_any (at' : Int) (y : Nat) (hy : y < 4294967296) (HH0 : ∀ W, Ix X K W → Calls Tryz.prog 52 #[tV X.h, .int .i64 at'] W (IxR X K (.int .u32 (y : Int)) W)) (d : Ix X K w) :
    Calls Tryz.prog 34 #[tV X.h, .int .i64 at'] w fun e w' => e = .returned (sV X.h (y % 224) (isV (w.heap.size + 1))) ∧ Ix X K w' ∧ Fr w.heap.size (blkM X.h) w w' ∧ w'.heap[w.heap.size + 1]? = some (.cells #[.int .i64 at'] 3 (0, 0)) ∧ ¬ blkM X.h (w.heap.size + 1) := by
  have HH := Lib.hid HH0
  have HO := Lib.hid (fun W (hW : Ix X K W) => home_any hW hy)
  obtain ⟨o, ho⟩ : ∃ o : Nat, o = y % 224 := ⟨_, rfl⟩
  rw [← ho] at HO ⊢
  obtain ⟨yy, hyy⟩ : ∃ yy : Int, yy = (y : Int) := ⟨_, rfl⟩
  rw [← hyy] at HH HO
  obtain ⟨w0, hw0⟩ : ∃ w0, w0 = ((w.alloc (.cells #[.pointer (some ⟨X.h.g, 0, none⟩), .int .i64 240, .int .i64 224] 66)).alloc (.cells #[.int .i64 at'] 3)).alloc (.cells #[.pointer none, .int .i64 0, .int .i64 0, .int .i64 0, Value.nilFunc] 71) := ⟨_, rfl⟩
  have hd : MB X K w [(w.heap.size + 1 + 1, #[.pointer none, .int .i64 0, .int .i64 0, .int .i64 0, Value.nilFunc], 71), (w.heap.size + 1, #[.int .i64 at'], 3), (w.heap.size, #[.pointer (some ⟨X.h.g, 0, none⟩), .int .i64 240, .int .i64 224], 66)] w0 := by
    have := (((MB.start d).push #[.pointer (some ⟨X.h.g, 0, none⟩), .int .i64 240, .int .i64 224] 66).push #[.int .i64 at'] 3).push #[.pointer none, .int .i64 0, .int .i64 0, .int .i64 0, Value.nilFunc] 71
    rw [size_al, size_al] at this
    rw [hw0]
    exact this
  have c0 := hd.at w.heap.size #[.pointer (some ⟨X.h.g, 0, none⟩), .int .i64 240, .int .i64 224] 66 0 (.tail _ (.tail _ (.head _))) rfl
  have c1 := hd.at w.heap.size #[.pointer (some ⟨X.h.g, 0, none⟩), .int .i64 240, .int .i64 224] 66 1 (.tail _ (.tail _ (.head _))) rfl
  have c2 := hd.at w.heap.size #[.pointer (some ⟨X.h.g, 0, none⟩), .int .i64 240, .int .i64 224] 66 2 (.tail _ (.tail _ (.head _))) rfl
  have c3 := hd.at (w.heap.size + 1) #[.int .i64 at'] 3 0 (.tail _ (.head _)) rfl
  have r0 := hd.at (w.heap.size + 1 + 1) #[.pointer none, .int .i64 0, .int .i64 0, .int .i64 0, Value.nilFunc] 71 0 (.head _) rfl
  have r1 := hd.at (w.heap.size + 1 + 1) #[.pointer none, .int .i64 0, .int .i64 0, .int .i64 0, Value.nilFunc] 71 1 (.head _) rfl
  have r2 := hd.at (w.heap.size + 1 + 1) #[.pointer none, .int .i64 0, .int .i64 0, .int .i64 0, Value.nilFunc] 71 2 (.head _) rfl
  have r3 := hd.at (w.heap.size + 1 + 1) #[.pointer none, .int .i64 0, .int .i64 0, .int .i64 0, Value.nilFunc] 71 3 (.head _) rfl
  have r4 := hd.at (w.heap.size + 1 + 1) #[.pointer none, .int .i64 0, .int .i64 0, .int .i64 0, Value.nilFunc] 71 4 (.head _) rfl
  have f0 := hd.frz (b := w.heap.size + 1 + 1) (cs := #[.pointer none, .int .i64 0, .int .i64 0, .int .i64 0, Value.nilFunc]) (t := 71) (.head _) 0
  have f1 := hd.frz (b := w.heap.size + 1 + 1) (cs := #[.pointer none, .int .i64 0, .int .i64 0, .int .i64 0, Value.nilFunc]) (t := 71) (.head _) 1
  have f2 := hd.frz (b := w.heap.size + 1 + 1) (cs := #[.pointer none, .int .i64 0, .int .i64 0, .int .i64 0, Value.nilFunc]) (t := 71) (.head _) 2
  have f3 := hd.frz (b := w.heap.size + 1 + 1) (cs := #[.pointer none, .int .i64 0, .int .i64 0, .int .i64 0, Value.nilFunc]) (t := 71) (.head _) 3
  have f4 := hd.frz (b := w.heap.size + 1 + 1) (cs := #[.pointer none, .int .i64 0, .int .i64 0, .int .i64 0, Value.nilFunc]) (t := 71) (.head _) 4
  clear d HH0 hy ho hyy
  try unfold tV at *
  unfold pV at *
  go_enter Tryz.func34, Tryz.ntmps34
  go_wp2_with fail
  rw [← hw0]
  clear hw0
  go_region_held3 (fun w' => w'.cell? ⟨w.heap.size, 0, none⟩ = some (.pointer (some ⟨X.h.g, 0, none⟩)) ∧ w'.cell? ⟨w.heap.size, 1, none⟩ = some (.int .i64 240) ∧ w'.cell? ⟨w.heap.size, 2, none⟩ = some (.int .i64 224) ∧ w'.cell? ⟨w.heap.size + 1, 0, none⟩ = some (.int .i64 at')) (first | with_reducible exact ⟨c0, c1, c2, c3⟩ | (refine ⟨?_, ?_, ?_, ?_⟩ <;> (repeat rw [World.cell?_setCell_other _ _ _ _ (ad_ne (by omega))]) <;> (first | exact c0 | exact c1 | exact c2 | exact c3)) | go_keep) ((first | (go_at_call 52; refine (HH.out _ (by first | exact hd.m | exact hd.m.drew)).mono ?_; rintro e w2 hq; obtain rfl := hq.1; replace hd := (by first | exact hd.step hq | exact hd.drew.step hq); clear hq c0 c1 c2 c3 r0 r1 r2 r3 r4 f0 f1 f2 f3 f4; have c0 := hd.at w.heap.size #[.pointer (some ⟨X.h.g, 0, none⟩), .int .i64 240, .int .i64 224] 66 0 (.tail _ (.tail _ (.head _))) rfl; have c1 := hd.at w.heap.size #[.pointer (some ⟨X.h.g, 0, none⟩), .int .i64 240, .int .i64 224] 66 1 (.tail _ (.tail _ (.head _))) rfl; have c2 := hd.at w.heap.size #[.pointer (some ⟨X.h.g, 0, none⟩), .int .i64 240, .int .i64 224] 66 2 (.tail _ (.tail _ (.head _))) rfl; have c3 := hd.at (w.heap.size + 1) #[.int .i64 at'] 3 0 (.tail _ (.head _)) rfl; have r0 := hd.at (w.heap.size + 1 + 1) #[.pointer none, .int .i64 0, .int .i64 0, .int .i64 0, Value.nilFunc] 71 0 (.head _) rfl; have r1 := hd.at (w.heap.size + 1 + 1) #[.pointer none, .int .i64 0, .int .i64 0, .int .i64 0, Value.nilFunc] 71 1 (.head _) rfl; have r2 := hd.at (w.heap.size + 1 + 1) #[.pointer none, .int .i64 0, .int .i64 0, .int .i64 0, Value.nilFunc] 71 2 (.head _) rfl; have r3 := hd.at (w.heap.size + 1 + 1) #[.pointer none, .int .i64 0, .int .i64 0, .int .i64 0, Value.nilFunc] 71 3 (.head _) rfl; have r4 := hd.at (w.heap.size + 1 + 1) #[.pointer none, .int .i64 0, .int .i64 0, .int .i64 0, Value.nilFunc] 71 4 (.head _) rfl; have f0 := hd.frz (b := w.heap.size + 1 + 1) (cs := #[.pointer none, .int .i64 0, .int .i64 0, .int .i64 0, Value.nilFunc]) (t := 71) (.head _) 0; have f1 := hd.frz (b := w.heap.size + 1 + 1) (cs := #[.pointer none, .int .i64 0, .int .i64 0, .int .i64 0, Value.nilFunc]) (t := 71) (.head _) 1; have f2 := hd.frz (b := w.heap.size + 1 + 1) (cs := #[.pointer none, .int .i64 0, .int .i64 0, .int .i64 0, Value.nilFunc]) (t := 71) (.head _) 2; have f3 := hd.frz (b := w.heap.size + 1 + 1) (cs := #[.pointer none, .int .i64 0, .int .i64 0, .int .i64 0, Value.nilFunc]) (t := 71) (.head _) 3; have f4 := hd.frz (b := w.heap.size + 1 + 1) (cs := #[.pointer none, .int .i64 0, .int .i64 0, .int .i64 0, Value.nilFunc]) (t := 71) (.head _) 4) | (go_at_call 62; refine (HO.out _ (by first | exact hd.m | exact hd.m.drew)).mono ?_; rintro e w2 hq; obtain rfl := hq.1; replace hd := (by first | exact hd.step hq | exact hd.drew.step hq); clear hq c0 c1 c2 c3 r0 r1 r2 r3 r4 f0 f1 f2 f3 f4; have c0 := hd.at w.heap.size #[.pointer (some ⟨X.h.g, 0, none⟩), .int .i64 240, .int .i64 224] 66 0 (.tail _ (.tail _ (.head _))) rfl; have c1 := hd.at w.heap.size #[.pointer (some ⟨X.h.g, 0, none⟩), .int .i64 240, .int .i64 224] 66 1 (.tail _ (.tail _ (.head _))) rfl; have c2 := hd.at w.heap.size #[.pointer (some ⟨X.h.g, 0, none⟩), .int .i64 240, .int .i64 224] 66 2 (.tail _ (.tail _ (.head _))) rfl; have c3 := hd.at (w.heap.size + 1) #[.int .i64 at'] 3 0 (.tail _ (.head _)) rfl; have r0 := hd.at (w.heap.size + 1 + 1) #[.pointer none, .int .i64 0, .int .i64 0, .int .i64 0, Value.nilFunc] 71 0 (.head _) rfl; have r1 := hd.at (w.heap.size + 1 + 1) #[.pointer none, .int .i64 0, .int .i64 0, .int .i64 0, Value.nilFunc] 71 1 (.head _) rfl; have r2 := hd.at (w.heap.size + 1 + 1) #[.pointer none, .int .i64 0, .int .i64 0, .int .i64 0, Value.nilFunc] 71 2 (.head _) rfl; have r3 := hd.at (w.heap.size + 1 + 1) #[.pointer none, .int .i64 0, .int .i64 0, .int .i64 0, Value.nilFunc] 71 3 (.head _) rfl; have r4 := hd.at (w.heap.size + 1 + 1) #[.pointer none, .int .i64 0, .int .i64 0, .int .i64 0, Value.nilFunc] 71 4 (.head _) rfl; have f0 := hd.frz (b := w.heap.size + 1 + 1) (cs := #[.pointer none, .int .i64 0, .int .i64 0, .int .i64 0, Value.nilFunc]) (t := 71) (.head _) 0; have f1 := hd.frz (b := w.heap.size + 1 + 1) (cs := #[.pointer none, .int .i64 0, .int .i64 0, .int .i64 0, Value.nilFunc]) (t := 71) (.head _) 1; have f2 := hd.frz (b := w.heap.size + 1 + 1) (cs := #[.pointer none, .int .i64 0, .int .i64 0, .int .i64 0, Value.nilFunc]) (t := 71) (.head _) 2; have f3 := hd.frz (b := w.heap.size + 1 + 1) (cs := #[.pointer none, .int .i64 0, .int .i64 0, .int .i64 0, Value.nilFunc]) (t := 71) (.head _) 3; have f4 := hd.frz (b := w.heap.size + 1 + 1) (cs := #[.pointer none, .int .i64 0, .int .i64 0, .int .i64 0, Value.nilFunc]) (t := 71) (.head _) 4)))
  all_goals
    have HS := Lib.hid (hd.set5 (ne2 (by omega) (by omega)) (.pointer (some ⟨X.h.g, 0, none⟩)) (.int .i64 240) (.int .i64 224) (.int .i64 (o : Int)) (.func (.func 80) #[] #[.pointer (some ⟨w.heap.size + 1, 0, none⟩)]))
    clear hd c0 c1 c2 c3 r0 r1 r2 r3 r4 f0 f1 f2 f3 f4
    show Exit.then _ _ _ _ (S5 w2 (w.heap.size + 1 + 1) (.pointer (some ⟨X.h.g, 0, none⟩)) (.int .i64 240) (.int .i64 224) (.int .i64 (o : Int)) (.func (.func 80) #[] #[.pointer (some ⟨w.heap.size + 1, 0, none⟩)]))
    rename_i hH
    clear hH
    generalize S5 w2 (w.heap.size + 1 + 1) (.pointer (some ⟨X.h.g, 0, none⟩)) (.int .i64 240) (.int .i64 224) (.int .i64 (o : Int)) (.func (.func 80) #[] #[.pointer (some ⟨w.heap.size + 1, 0, none⟩)]) = W3 at HS ⊢
    have q0 := HS.out.at (w.heap.size + 1 + 1) _ _ 0 (List.mem_cons_self ..) rfl
    have q1 := HS.out.at (w.heap.size + 1 + 1) _ _ 1 (List.mem_cons_self ..) rfl
    have q2 := HS.out.at (w.heap.size + 1 + 1) _ _ 2 (List.mem_cons_self ..) rfl
    have q3 := HS.out.at (w.heap.size + 1 + 1) _ _ 3 (List.mem_cons_self ..) rfl
    have q4 := HS.out.at (w.heap.size + 1 + 1) _ _ 4 (List.mem_cons_self ..) rfl
    have HB := Lib.hid (HS.out.bx (w.heap.size + 1, #[.int .i64 at'], 3) (.tail _ (.head _)))
    go_wp2
    refine bodyPost_ret (v := .agg #[.pointer (some ⟨X.h.g, 0, none⟩), .int .i64 240, .int .i64 224, .int .i64 (o : Int), .func (.func 80) #[] #[.pointer (some ⟨w.heap.size + 1, 0, none⟩)]]) (by simp [results, Tryz.results34, go_sem, q0, q1, q2, q3, q4]) rfl ⟨rfl, HS.out.m, HS.out.f, HB.out.1, HB.out.2.1⟩
end
end Go.Proofs.YtcpfnmphcndmjaaGreatDoor.Ind

namespace Go.Proofs.YtcpfnmphcndmjaaGreatDoor.Ind
open Go.RowKit Num
open Pro
open Mem (Mm MemC MRet Hm rd blkM)
open Sla (Sl St Lv pl aT pV Lo)
open Arn (wrL is64)
set_option linter.unusedVariables false
set_option maxRecDepth 100000

def slP (o : Option Nat) : Nat × Bool := match o with | some q => (q, true) | none => (0, false)
def bkP (K : Nat → Nat) (o : Option Nat) : Nat × Bool := match o with | some q => (K q, true) | none => (0, false)
section
variable {X : Fx} {l : List Int} {K K' : Nat → Nat} {r r' : Value} {w w1 w2 w' W W' : World} {e e' : Ending} {b x a : Nat} {fv : Value} {Gd : World → Prop} {F : Nat} {cp cs : Array Value} {P : Nat → Bool} {L : List (Nat × Array Value × TypeId)} {t : TypeId}
theorem slot_any (C : IsC X F cp P Gd) (d : Ix X K w) (g : Gd w) (ha : a < 224) :
    Calls Tryz.prog 51 #[sV X.h a (.func (.func F) #[] cp)] w (IxR X K (.tuple #[.int .i64 ((slP (slF 224 (hmX X) K a P)).1 : Int), .bool (slP (slF 224 (hmX X) K a P)).2]) w) := by
  have hd := SB.made d g C.keep a (.func (.func F) #[] cp)
  have HSk0 := fun W (hW : Ix X K W) (g : Gd W) => seek_any (Gd := Gd) 103 (sV X.h a (.func (.func F) #[] cp)) (fun i => hit K P i || opb 224 (hmX X) K a i) (enters_of Tryz.func103 (by kernel_rfl) rfl) C.keep (fun i W hi hW g => ends_any C hW g hi ha) hW g ha
  have hN : sk (fun s => hit K P (ps 224 a s) || opb 224 (hmX X) K a (ps 224 a s)) 224 = enK 224 (hmX X) K a P := rfl
  unfold sfR at HSk0
  simp only [hN] at HSk0
  obtain ⟨c0, c1, c2, c3, c4⟩ := hd.cells
  by_cases hlt : enK 224 (hmX X) K a P < 224
  · simp only [if_pos hlt] at HSk0
    have hq : ps 224 a (enK 224 (hmX X) K a P) < 224 := ps_lt ha (Nat.le_of_lt hlt)
    have HH := Lib.hid (fun W (hW : Ix X K W) (g : Gd W) => holds_any C hW g (a := a) hq)
    have HSk := Lib.hid HSk0
    obtain ⟨q, hq2⟩ : ∃ q, q = ps 224 a (enK 224 (hmX X) K a P) := ⟨_, rfl⟩
    rw [← hq2] at HH HSk
    cases ho : hit K P (ps 224 a (enK 224 (hmX X) K a P)) with
    | true =>
      have e1 : slP (slF 224 (hmX X) K a P) = (q, true) := by unfold slF; rw [if_pos ⟨hlt, ho⟩, hq2]; rfl
      rw [e1]
      rw [← hq2] at ho
      rw [ho] at HH
      clear d g C HSk0 hN hq hq2 ho e1
      unfold sV at *
      try unfold tV at *
      unfold pV at *
      go_enter Tryz.func51, Tryz.ntmps51
      go_wp2_with fail
      refine (HSk.out _ hd.m hd.g).mono ?_
      rintro e w2 hq
      obtain rfl := hq.1
      replace hd := hd.step hq
      clear hq c0 c1 c2 c3 c4
      obtain ⟨c0, c1, c2, c3, c4⟩ := hd.cells
      go_wp2_with fail
      refine (HH.out _ hd.m hd.g).mono ?_
      rintro e w2 hq
      obtain rfl := hq.1
      replace hd := hd.step hq
      clear hq c0 c1 c2 c3 c4
      obtain ⟨c0, c1, c2, c3, c4⟩ := hd.cells
      have HE := Lib.hid (hd.done (.tuple #[.int .i64 (q : Int), .bool true]))
      clear hd
      go_wp2
      go_ret2
      exact HE.out
    | false =>
      have e1 : slP (slF 224 (hmX X) K a P) = (0, false) := by unfold slF; rw [if_neg (fun h => by rw [ho] at h; cases h.2)]; rfl
      rw [e1]
      rw [← hq2] at ho
      rw [ho] at HH
      clear d g C HSk0 hN hq hq2 ho e1
      unfold sV at *
      try unfold tV at *
      unfold pV at *
      go_enter Tryz.func51, Tryz.ntmps51
      go_wp2_with fail
      refine (HSk.out _ hd.m hd.g).mono ?_
      rintro e w2 hq
      obtain rfl := hq.1
      replace hd := hd.step hq
      clear hq c0 c1 c2 c3 c4
      obtain ⟨c0, c1, c2, c3, c4⟩ := hd.cells
      go_wp2_with fail
      refine (HH.out _ hd.m hd.g).mono ?_
      rintro e w2 hq
      obtain rfl := hq.1
      replace hd := hd.step hq
      clear hq c0 c1 c2 c3 c4
      obtain ⟨c0, c1, c2, c3, c4⟩ := hd.cells
      have HE := Lib.hid (hd.done (.tuple #[.int .i64 0, .bool false]))
      clear hd
      go_wp2
      go_ret2
      exact HE.out
  · simp only [if_neg hlt] at HSk0
    have HSk := Lib.hid HSk0
    have e1 : slP (slF 224 (hmX X) K a P) = (0, false) := by unfold slF; rw [if_neg (fun h => hlt h.1)]; rfl
    rw [e1]
    clear d g C HSk0 hN e1
    unfold sV at *
    try unfold tV at *
    unfold pV at *
    go_enter Tryz.func51, Tryz.ntmps51
    go_wp2_with fail
    refine (HSk.out _ hd.m hd.g).mono ?_
    rintro e w2 hq
    obtain rfl := hq.1
    replace hd := hd.step hq
    clear hq c0 c1 c2 c3 c4
    obtain ⟨c0, c1, c2, c3, c4⟩ := hd.cells
    have HE := Lib.hid (hd.done (.tuple #[.int .i64 0, .bool false]))
    clear hd
    go_wp2
    go_ret2
    exact HE.out
theorem block_any (C : IsC X F cp P Gd) (d : Ix X K w) (g : Gd w) (ha : a < 224) :
    Calls Tryz.prog 63 #[sV X.h a (.func (.func F) #[] cp)] w (IxR X K (.tuple #[.int .i64 ((bkP K (slF 224 (hmX X) K a P)).1 : Int), .bool (bkP K (slF 224 (hmX X) K a P)).2]) w) := by
  have hd := SB.made d g C.keep a (.func (.func F) #[] cp)
  have HS := Lib.hid (fun W (hW : Ix X K W) (g : Gd W) => slot_any C hW g (a := a) ha)
  obtain ⟨c0, c1, c2, c3, c4⟩ := hd.cells
  cases ho : slF 224 (hmX X) K a P with
  | none =>
    rw [ho] at HS
    simp only [slP, bkP] at HS ⊢
    clear d g C ho
    unfold sV at *
    try unfold tV at *
    unfold pV at *
    go_enter Tryz.func63, Tryz.ntmps63
    go_wp2_with fail
    refine (HS.out _ hd.m hd.g).mono ?_
    rintro e w2 hq
    obtain rfl := hq.1
    replace hd := hd.step hq
    clear hq c0 c1 c2 c3 c4
    obtain ⟨c0, c1, c2, c3, c4⟩ := hd.cells
    have HE := Lib.hid (hd.done (.tuple #[.int .i64 0, .bool false]))
    clear hd
    go_wp2
    go_ret2
    exact HE.out
  | some q =>
    obtain ⟨h1, h2, h3⟩ := slF_some ha ho
    rw [ho] at HS
    simp only [slP, bkP] at HS ⊢
    have HH := Lib.hid (fun W (hW : Ix X K W) => held_any hW h1)
    generalize (K q : Int) = y at HH ⊢
    clear d g C ho h2 h3
    unfold sV at *
    try unfold tV at *
    unfold pV at *
    go_enter Tryz.func63, Tryz.ntmps63
    go_wp2_with fail
    refine (HS.out _ hd.m hd.g).mono ?_
    rintro e w2 hq
    obtain rfl := hq.1
    replace hd := hd.step hq
    clear hq c0 c1 c2 c3 c4
    obtain ⟨c0, c1, c2, c3, c4⟩ := hd.cells
    go_wp2_with fail
    refine (HH.out _ hd.m).mono ?_
    rintro e w2 hq
    obtain rfl := hq.1
    replace hd := hd.step hq
    clear hq c0 c1 c2 c3 c4
    obtain ⟨c0, c1, c2, c3, c4⟩ := hd.cells
    have HE := Lib.hid (hd.done (.tuple #[.int .i64 y, .bool true]))
    clear hd
    go_wp2
    go_ret2
    exact HE.out
/-- The test of forBlock. -/
theorem isC_block (X : Fx) (b : Nat) (at' : Int) (hb : ¬ blkM X.h b) : IsC X 80 #[.pointer (some ⟨b, 0, none⟩)] (fun p => decide ((p : Int) = at')) (fun W => W.heap[b]? = some (.cells #[.int .i64 at'] 3 (0, 0))) :=
  ⟨enters_of Tryz.func80 (by kernel_rfl) rfl, fun W W' h hf => (hf.block b (Array.getElem?_eq_some_iff.1 h).1 hb).trans h, fun K W x hx hW h => (hash1_any W h).mono fun e w' q => ⟨q.1, q.2 ▸ hW, q.2 ▸ Fr.refl _ _ _⟩⟩
theorem Place_any (at' : Int) (y : Nat) (hy : y < 4294967296) (HH0 : ∀ W, Ix X K W → Calls Tryz.prog 52 #[tV X.h, .int .i64 at'] W (IxR X K (.int .u32 (y : Int)) W)) (d : Ix X K w) :
    Calls Tryz.prog 18 #[pV X.h, .int .i64 at'] w (IxR X K (.tuple #[.int .i64 ((slP (slF 224 (hmX X) K (y % 224) (fun p => decide ((p : Int) = at')))).1 : Int), .bool (slP (slF 224 (hmX X) K (y % 224) (fun p => decide ((p : Int) = at')))).2]) w) := by
  have HT := Lib.hid (fun W (hW : Ix X K W) => slots_any hW)
  have HB := Lib.hid (fun W (hW : Ix X K W) => forBlock_any at' y hy HH0 hW)
  have HS := Lib.hid (fun W b (hb : ¬ blkM X.h b) (h : W.heap[b]? = some (.cells #[.int .i64 at'] 3 (0, 0))) (hW : Ix X K W) => slot_any (isC_block X b at' hb) hW h (a := y % 224) (Nat.mod_lt _ (by omega)))
  generalize (slP (slF 224 (hmX X) K (y % 224) (fun p => decide ((p : Int) = at')))) = R at HS ⊢
  generalize y % 224 = o at HB HS
  have HD := Lib.hid d
  clear d HH0 hy
  try unfold sV tV at *
  unfold pV at *
  go_enter Tryz.func18, Tryz.ntmps18
  go_wp2_with fail
  refine (HT.out _ HD.out).mono ?_
  rintro e w1 hq1
  obtain rfl := hq1.1
  go_wp2_with fail
  refine (HB.out _ hq1.2.1).mono ?_
  rintro e w2 ⟨rfl, hm2, hf2, hb2, hn2⟩
  have hr2 : IxR X K (.bool true) w (.returned (.bool true)) w2 := (hq1.ret (.bool true)).then ⟨rfl, hm2, hf2⟩
  have HR2 := Lib.hid hr2
  have HS2 := Lib.hid (HS.out w2 _ hn2 hb2 hm2)
  clear hr2 hm2 hf2 hb2 hn2 hq1 HT HB HD HS
  go_wp2_with fail
  refine HS2.out.mono ?_
  rintro e w3 hq
  obtain rfl := hq.1
  have HE := Lib.hid (HR2.out.then hq)
  clear hq HS2 HR2
  go_wp2
  go_ret2
  exact HE.out
end
end Go.Proofs.YtcpfnmphcndmjaaGreatDoor.Ind

namespace Go.Proofs.YtcpfnmphcndmjaaGreatDoor.Ind
open Go.RowKit Num
open Pro
open Mem (Mm MemC MRet Hm rd blkM)
open Sla (Sl St Lv pl aT pV Lo)
open Arn (wrL is64)
set_option linter.unusedVariables false
set_option maxRecDepth 100000

abbrev tC (X : Fx) : Array Value := #[.pointer (some ⟨X.h.g, 0, none⟩), .int .i64 240, .int .i64 224]
abbrev sC (X : Fx) (o : Nat) (bA : Nat) : Array Value := #[.pointer (some ⟨X.h.g, 0, none⟩), .int .i64 240, .int .i64 224, .int .i64 (o : Int), .func (.func 80) #[] #[.pointer (some ⟨bA, 0, none⟩)]]
/-- The test of one place. -/
abbrev isP (at' : Int) : Nat → Bool := fun p => decide ((p : Int) = at')
section
variable {X : Fx} {l : List Int} {K K' : Nat → Nat} {r r' : Value} {w w1 w2 w' W W' : World} {e e' : Ending} {b x a : Nat} {fv : Value} {Gd : World → Prop} {F : Nat} {cp cs : Array Value} {P : Nat → Bool} {L : List (Nat × Array Value × TypeId)} {t : TypeId}
theorem MB.add (d : MB X K w L W) (h1 : W.heap[b]? = some (.cells cs t (0, 0))) (h2 : ¬ blkM X.h b) (h3 : w.heap.size ≤ b) : MB X K w ((b, cs, t) :: L) W := by
  refine ⟨d.m, fun p hp => ?_, d.f, d.lo⟩
  rcases List.mem_cons.1 hp with rfl | hp
  · exact ⟨h1, h2, h3⟩
  · exact d.bx p hp
theorem MB.tcells (d : MB X K w L W) (hp : (b, tC X, 66) ∈ L) : W.cell? ⟨b, 0, none⟩ = some (.pointer (some ⟨X.h.g, 0, none⟩)) ∧ W.cell? ⟨b, 1, none⟩ = some (.int .i64 240) ∧ W.cell? ⟨b, 2, none⟩ = some (.int .i64 224) := ⟨d.cell hp 0, d.cell hp 1, d.cell hp 2⟩
theorem MB.scells {o bA : Nat} (d : MB X K w L W) (hp : (b, sC X o bA, 71) ∈ L) : W.cell? ⟨b, 0, none⟩ = some (.pointer (some ⟨X.h.g, 0, none⟩)) ∧ W.cell? ⟨b, 1, none⟩ = some (.int .i64 240) ∧ W.cell? ⟨b, 2, none⟩ = some (.int .i64 224) ∧ W.cell? ⟨b, 3, none⟩ = some (.int .i64 (o : Int)) ∧ W.cell? ⟨b, 4, none⟩ = some (.func (.func 80) #[] #[.pointer (some ⟨bA, 0, none⟩)]) := ⟨d.cell hp 0, d.cell hp 1, d.cell hp 2, d.cell hp 3, d.cell hp 4⟩
theorem seekHolds {o bA : Nat} {at' : Int} (hbA : ¬ blkM X.h bA) (d : Ix X K w) (hb : w.heap[bA]? = some (.cells #[.int .i64 at'] 3 (0, 0))) (ho : o < 224) :
    Calls Tryz.prog 35 #[tV X.h, .int .i64 (o : Int), .func (.func 36) #[sV X.h o (isV bA)] #[]] w (IxR X K (.tuple #[.int .i64 ((sfR (hit K (isP at')) o).1 : Int), .bool (sfR (hit K (isP at')) o).2]) w) :=
  seek_any (Gd := fun W => W.heap[bA]? = some (.cells #[.int .i64 at'] 3 (0, 0))) 36 (sV X.h o (isV bA)) (hit K (isP at')) (enters_of Tryz.func36 (by kernel_rfl) rfl) (isC_block X bA at' hbA).keep (fun i W hi hW h => holds_any (isC_block X bA at' hbA) hW h hi) d hb ho
theorem seekEmpty {o : Nat} (d : Ix X K w) (ho : o < 224) :
    Calls Tryz.prog 35 #[tV X.h, .int .i64 (o : Int), .func (.func 41) #[tV X.h] #[]] w (IxR X K (.tuple #[.int .i64 ((sfR (fun i => decide (K i = 0)) o).1 : Int), .bool (sfR (fun i => decide (K i = 0)) o).2]) w) :=
  seek_any (Gd := fun _ => True) 41 (tV X.h) (fun i => decide (K i = 0)) (enters_of Tryz.func41 (by kernel_rfl) rfl) (fun _ _ _ _ => trivial) (fun i W hi hW _ => empty_any hW hi) d trivial ho
theorem seekOpen {o : Nat} (fv : Value) (d : Ix X K w) (ho : o < 224) :
    Calls Tryz.prog 35 #[tV X.h, .int .i64 (o : Int), .func (.func 42) #[sV X.h o fv] #[]] w (IxR X K (.tuple #[.int .i64 ((sfR (opb 224 (hmX X) K o) o).1 : Int), .bool (sfR (opb 224 (hmX X) K o) o).2]) w) :=
  seek_any (Gd := fun _ => True) 42 (sV X.h o fv) (opb 224 (hmX X) K o) (enters_of Tryz.func42 (by kernel_rfl) rfl) (fun _ _ _ _ => trivial) (fun i W hi hW _ => open_any hW trivial (fun _ _ _ _ => trivial) hi ho fv) d trivial ho
theorem sfR_yes {T : Nat → Bool} {o i : Nat} (ho : o < 224) (hi : i < 224) (h : T i = true) : (sfR T o).2 = true ∧ (sfR T o).1 = ps 224 o (sk (fun s => T (ps 224 o s)) 224) ∧ sk (fun s => T (ps 224 o s)) 224 < 224 := by
  have h1 : sk (fun s => T (ps 224 o s)) 224 ≤ off 224 o i := sk_lt (off_lt ho hi) (by rw [ps_off ho hi]; exact h)
  have h2 := off_lt ho hi
  unfold sfR
  rw [if_pos (by omega)]
  exact ⟨rfl, rfl, by omega⟩
theorem sfR_no {T : Nat → Bool} {o : Nat} (ho : o < 224) (h : ∀ i, i < 224 → T i = false) : sfR T o = (0, false) := by
  unfold sfR
  rw [if_neg]
  intro q
  have := sk_yes (P := fun s => T (ps 224 o s)) (n := 224) q
  rw [h _ (ps_lt ho (Nat.le_of_lt q))] at this
  cases this
/-- Where a place is. -/
theorem sfR_at (O : Ok 224 (hmX X) K) {o i : Nat} (ho : o < 224) (hi : i < 224) (hx : x ≠ 0) (h : K i = x) : sfR (hit K (isP (x : Int))) o = (i, true) := by
  have hT : hit K (isP (x : Int)) i = true := by unfold hit isP; simp [h, hx]
  obtain ⟨h1, h2, h3⟩ := sfR_yes ho hi hT
  have h4 := sk_yes (P := fun s => hit K (isP (x : Int)) (ps 224 o s)) (n := 224) h3
  have h5 : hit K (isP (x : Int)) (ps 224 o (sk (fun s => hit K (isP (x : Int)) (ps 224 o s)) 224)) = true := h4
  unfold hit isP at h5
  rw [Bool.and_eq_true, decide_eq_true_eq, decide_eq_true_eq] at h5
  have h6 := O.one (ps_lt ho (Nat.le_of_lt h3)) hi h5.1 (by have := h5.2; rw [h]; unfold hit isP; omega)
  rw [← Prod.eta (sfR (hit K (isP (x : Int))) o), h1, h2]
  unfold hit isP at *
  rw [h6]
theorem sfR_none {o : Nat} {at' : Int} (ho : o < 224) (h : ∀ i, i < 224 → (K i : Int) ≠ at') : sfR (hit K (isP at')) o = (0, false) :=
  sfR_no ho fun i hi => by unfold hit isP; simp [h i hi]
end
end Go.Proofs.YtcpfnmphcndmjaaGreatDoor.Ind

namespace Go.Proofs.YtcpfnmphcndmjaaGreatDoor.Ind
open Go.RowKit Num
open Pro
open Mem (Mm MemC MRet Hm rd blkM)
open Sla (Sl St Lv pl aT pV Lo)
open Arn (wrL is64)
set_option linter.unusedVariables false
set_option maxRecDepth 100000

section
variable {X : Fx} {l : List Int} {K K' : Nat → Nat} {r r' : Value} {w w1 w2 w' W W' : World} {e e' : Ending} {b x a : Nat} {fv : Value} {Gd : World → Prop} {F : Nat} {cp cs : Array Value} {P : Nat → Bool} {L : List (Nat × Array Value × TypeId)} {t : TypeId}
def keyV (b : Bk) : Value := .agg #[.int .i64 b.tag, .int .u32 (b.name : Int), .int .u16 (b.typ : Int), .int .u32 (b.hash : Int)]
set_option maxHeartbeats 2000000 in
theorem key_any (d : Ix X K w) (hx : x ∈ X.E) : Calls Tryz.prog 61 #[tV X.h, .int .i64 (x : Int)] w (IxR X K (keyV (X.B x)) w) := by
  obtain ⟨h1, h2, h3, -, -, -⟩ := d.ok hx
  have hg := tag_is (X.B x)
  have HT := Lib.hid (fun W (hW : Ix X K W) => tag_any hW hx)
  have HL : Hid (∀ W (z : Int), z = 4 → Ix X K W → Calls Tryz.prog 104 #[pV X.h, .int .i64 (x : Int), .int .i64 z] W (IxR X K (.int .u64 ((X.B x).name : Int)) W)) := fun W z hz hW => hz ▸ hW.fld hx (f := 4) (by simp)
  have HM : Hid (∀ W (z : Int), z = 8 → Ix X K W → Calls Tryz.prog 104 #[pV X.h, .int .i64 (x : Int), .int .i64 z] W (IxR X K (.int .u64 ((X.B x).typ : Int)) W)) := fun W z hz hW => hz ▸ hW.fld hx (f := 8) (by simp)
  have HN : Hid (∀ W (z : Int), z = 10 → Ix X K W → Calls Tryz.prog 104 #[pV X.h, .int .i64 (x : Int), .int .i64 z] W (IxR X K (.int .u64 ((X.B x).hash : Int)) W)) := fun W z hz hW => hz ▸ hW.fld hx (f := 10) (by simp)
  unfold keyV
  generalize (X.B x).tag = g at *
  have hg0 : (g == 0) = false := by simp; omega
  obtain ⟨y1, e1⟩ : ∃ z : Int, z = ((X.B x).name : Int) := ⟨_, rfl⟩
  obtain ⟨y2, e2⟩ : ∃ z : Int, z = ((X.B x).typ : Int) := ⟨_, rfl⟩
  obtain ⟨y3, e3⟩ : ∃ z : Int, z = ((X.B x).hash : Int) := ⟨_, rfl⟩
  rw [← e1, ← e2, ← e3]
  rw [← e1] at HL
  rw [← e2] at HM
  rw [← e3] at HN
  have a1 : 0 ≤ y1 := by omega
  have a2 : y1 < 4294967296 := by omega
  have a3 : 0 ≤ y2 := by omega
  have a4 : y2 < 65536 := by omega
  have a5 : 0 ≤ y3 := by omega
  have a6 : y3 < 4294967296 := by omega
  have u1 : IntKind.u32.wrap y1 = y1 := by simp [IntKind.wrap, IntKind.bits, IntKind.signed]; omega
  have u2 : IntKind.u16.wrap y2 = y2 := by simp [IntKind.wrap, IntKind.bits, IntKind.signed]; omega
  have u3 : IntKind.u32.wrap y3 = y3 := by simp [IntKind.wrap, IntKind.bits, IntKind.signed]; omega
  obtain ⟨w0, hw0⟩ : ∃ w0, w0 = (w.alloc (.cells (tC X) 66)).alloc (.cells #[.int .i64 0, .int .u32 0, .int .u16 0, .int .u32 0] 102) := ⟨_, rfl⟩
  have hd : MB X K w [(w.heap.size + 1, #[.int .i64 0, .int .u32 0, .int .u16 0, .int .u32 0], 102), (w.heap.size, tC X, 66)] w0 := by
    have := ((MB.start d).push (tC X) 66).push #[.int .i64 0, .int .u32 0, .int .u16 0, .int .u32 0] 102
    rw [size_al] at this
    rw [hw0]
    exact this
  have c0 := hd.at w.heap.size (tC X) 66 0 (.tail _ (.head _)) rfl
  have c1 := hd.at w.heap.size (tC X) 66 1 (.tail _ (.head _)) rfl
  have c2 := hd.at w.heap.size (tC X) 66 2 (.tail _ (.head _)) rfl
  have r0 := hd.at (w.heap.size + 1) #[.int .i64 0, .int .u32 0, .int .u16 0, .int .u32 0] 102 0 (.head _) rfl
  have r1 := hd.at (w.heap.size + 1) #[.int .i64 0, .int .u32 0, .int .u16 0, .int .u32 0] 102 1 (.head _) rfl
  have r2 := hd.at (w.heap.size + 1) #[.int .i64 0, .int .u32 0, .int .u16 0, .int .u32 0] 102 2 (.head _) rfl
  have r3 := hd.at (w.heap.size + 1) #[.int .i64 0, .int .u32 0, .int .u16 0, .int .u32 0] 102 3 (.head _) rfl
  have f0 := hd.frz (b := w.heap.size + 1) (cs := #[.int .i64 0, .int .u32 0, .int .u16 0, .int .u32 0]) (t := 102) (.head _) 0
  have f1 := hd.frz (b := w.heap.size + 1) (cs := #[.int .i64 0, .int .u32 0, .int .u16 0, .int .u32 0]) (t := 102) (.head _) 1
  have f2 := hd.frz (b := w.heap.size + 1) (cs := #[.int .i64 0, .int .u32 0, .int .u16 0, .int .u32 0]) (t := 102) (.head _) 2
  have f3 := hd.frz (b := w.heap.size + 1) (cs := #[.int .i64 0, .int .u32 0, .int .u16 0, .int .u32 0]) (t := 102) (.head _) 3
  unfold tC at hw0
  clear d hx hg h1 h2 h3 e1 e2 e3
  try unfold tV at *
  unfold pV at *
  go_enter Tryz.func61, Tryz.ntmps61
  go_wp2_with fail
  rw [← hw0]
  clear hw0
  refine (HT.out _ hd.m).mono ?_
  rintro e w1 hq
  obtain rfl := hq.1
  replace hd := hd.step hq
  clear hq c0 c1 c2 r0 r1 r2 r3 f0 f1 f2 f3 HT
  have c0 := hd.at w.heap.size (tC X) 66 0 (.tail _ (.head _)) rfl
  have c1 := hd.at w.heap.size (tC X) 66 1 (.tail _ (.head _)) rfl
  have c2 := hd.at w.heap.size (tC X) 66 2 (.tail _ (.head _)) rfl
  have r0 := hd.at (w.heap.size + 1) #[.int .i64 0, .int .u32 0, .int .u16 0, .int .u32 0] 102 0 (.head _) rfl
  have r1 := hd.at (w.heap.size + 1) #[.int .i64 0, .int .u32 0, .int .u16 0, .int .u32 0] 102 1 (.head _) rfl
  have r2 := hd.at (w.heap.size + 1) #[.int .i64 0, .int .u32 0, .int .u16 0, .int .u32 0] 102 2 (.head _) rfl
  have r3 := hd.at (w.heap.size + 1) #[.int .i64 0, .int .u32 0, .int .u16 0, .int .u32 0] 102 3 (.head _) rfl
  have f0 := hd.frz (b := w.heap.size + 1) (cs := #[.int .i64 0, .int .u32 0, .int .u16 0, .int .u32 0]) (t := 102) (.head _) 0
  have f1 := hd.frz (b := w.heap.size + 1) (cs := #[.int .i64 0, .int .u32 0, .int .u16 0, .int .u32 0]) (t := 102) (.head _) 1
  have f2 := hd.frz (b := w.heap.size + 1) (cs := #[.int .i64 0, .int .u32 0, .int .u16 0, .int .u32 0]) (t := 102) (.head _) 2
  have f3 := hd.frz (b := w.heap.size + 1) (cs := #[.int .i64 0, .int .u32 0, .int .u16 0, .int .u32 0]) (t := 102) (.head _) 3
  go_wp2_with fail
  go_region_held3 (fun w' => w'.cell? ⟨w.heap.size, 0, none⟩ = some (.pointer (some ⟨X.h.g, 0, none⟩)) ∧ w'.cell? ⟨w.heap.size, 1, none⟩ = some (.int .i64 240) ∧ w'.cell? ⟨w.heap.size, 2, none⟩ = some (.int .i64 224)) (first | with_reducible exact ⟨c0, c1, c2⟩ | (refine ⟨?_, ?_, ?_⟩ <;> (repeat rw [World.cell?_setCell_other _ _ _ _ (ad_ne (by omega))]) <;> (first | exact c0 | exact c1 | exact c2)) | go_keep) ((first | (go_at_call 104; refine (HL.out _ _ (by with_reducible rfl) (by first | exact hd.m | exact hd.m.drew)).mono ?_; rintro e w2 hq; obtain rfl := hq.1; replace hd := (by first | exact hd.step hq | exact hd.drew.step hq); clear hq c0 c1 c2 r0 r1 r2 r3 f0 f1 f2 f3; have c0 := hd.at w.heap.size (tC X) 66 0 (.tail _ (.head _)) rfl; have c1 := hd.at w.heap.size (tC X) 66 1 (.tail _ (.head _)) rfl; have c2 := hd.at w.heap.size (tC X) 66 2 (.tail _ (.head _)) rfl; have r0 := hd.at (w.heap.size + 1) #[.int .i64 0, .int .u32 0, .int .u16 0, .int .u32 0] 102 0 (.head _) rfl; have r1 := hd.at (w.heap.size + 1) #[.int .i64 0, .int .u32 0, .int .u16 0, .int .u32 0] 102 1 (.head _) rfl; have r2 := hd.at (w.heap.size + 1) #[.int .i64 0, .int .u32 0, .int .u16 0, .int .u32 0] 102 2 (.head _) rfl; have r3 := hd.at (w.heap.size + 1) #[.int .i64 0, .int .u32 0, .int .u16 0, .int .u32 0] 102 3 (.head _) rfl; have f0 := hd.frz (b := w.heap.size + 1) (cs := #[.int .i64 0, .int .u32 0, .int .u16 0, .int .u32 0]) (t := 102) (.head _) 0; have f1 := hd.frz (b := w.heap.size + 1) (cs := #[.int .i64 0, .int .u32 0, .int .u16 0, .int .u32 0]) (t := 102) (.head _) 1; have f2 := hd.frz (b := w.heap.size + 1) (cs := #[.int .i64 0, .int .u32 0, .int .u16 0, .int .u32 0]) (t := 102) (.head _) 2; have f3 := hd.frz (b := w.heap.size + 1) (cs := #[.int .i64 0, .int .u32 0, .int .u16 0, .int .u32 0]) (t := 102) (.head _) 3) | (go_at_call 104; refine (HM.out _ _ (by with_reducible rfl) (by first | exact hd.m | exact hd.m.drew)).mono ?_; rintro e w2 hq; obtain rfl := hq.1; replace hd := (by first | exact hd.step hq | exact hd.drew.step hq); clear hq c0 c1 c2 r0 r1 r2 r3 f0 f1 f2 f3; have c0 := hd.at w.heap.size (tC X) 66 0 (.tail _ (.head _)) rfl; have c1 := hd.at w.heap.size (tC X) 66 1 (.tail _ (.head _)) rfl; have c2 := hd.at w.heap.size (tC X) 66 2 (.tail _ (.head _)) rfl; have r0 := hd.at (w.heap.size + 1) #[.int .i64 0, .int .u32 0, .int .u16 0, .int .u32 0] 102 0 (.head _) rfl; have r1 := hd.at (w.heap.size + 1) #[.int .i64 0, .int .u32 0, .int .u16 0, .int .u32 0] 102 1 (.head _) rfl; have r2 := hd.at (w.heap.size + 1) #[.int .i64 0, .int .u32 0, .int .u16 0, .int .u32 0] 102 2 (.head _) rfl; have r3 := hd.at (w.heap.size + 1) #[.int .i64 0, .int .u32 0, .int .u16 0, .int .u32 0] 102 3 (.head _) rfl; have f0 := hd.frz (b := w.heap.size + 1) (cs := #[.int .i64 0, .int .u32 0, .int .u16 0, .int .u32 0]) (t := 102) (.head _) 0; have f1 := hd.frz (b := w.heap.size + 1) (cs := #[.int .i64 0, .int .u32 0, .int .u16 0, .int .u32 0]) (t := 102) (.head _) 1; have f2 := hd.frz (b := w.heap.size + 1) (cs := #[.int .i64 0, .int .u32 0, .int .u16 0, .int .u32 0]) (t := 102) (.head _) 2; have f3 := hd.frz (b := w.heap.size + 1) (cs := #[.int .i64 0, .int .u32 0, .int .u16 0, .int .u32 0]) (t := 102) (.head _) 3) | (go_at_call 104; refine (HN.out _ _ (by with_reducible rfl) (by first | exact hd.m | exact hd.m.drew)).mono ?_; rintro e w2 hq; obtain rfl := hq.1; replace hd := (by first | exact hd.step hq | exact hd.drew.step hq); clear hq c0 c1 c2 r0 r1 r2 r3 f0 f1 f2 f3; have c0 := hd.at w.heap.size (tC X) 66 0 (.tail _ (.head _)) rfl; have c1 := hd.at w.heap.size (tC X) 66 1 (.tail _ (.head _)) rfl; have c2 := hd.at w.heap.size (tC X) 66 2 (.tail _ (.head _)) rfl; have r0 := hd.at (w.heap.size + 1) #[.int .i64 0, .int .u32 0, .int .u16 0, .int .u32 0] 102 0 (.head _) rfl; have r1 := hd.at (w.heap.size + 1) #[.int .i64 0, .int .u32 0, .int .u16 0, .int .u32 0] 102 1 (.head _) rfl; have r2 := hd.at (w.heap.size + 1) #[.int .i64 0, .int .u32 0, .int .u16 0, .int .u32 0] 102 2 (.head _) rfl; have r3 := hd.at (w.heap.size + 1) #[.int .i64 0, .int .u32 0, .int .u16 0, .int .u32 0] 102 3 (.head _) rfl; have f0 := hd.frz (b := w.heap.size + 1) (cs := #[.int .i64 0, .int .u32 0, .int .u16 0, .int .u32 0]) (t := 102) (.head _) 0; have f1 := hd.frz (b := w.heap.size + 1) (cs := #[.int .i64 0, .int .u32 0, .int .u16 0, .int .u32 0]) (t := 102) (.head _) 1; have f2 := hd.frz (b := w.heap.size + 1) (cs := #[.int .i64 0, .int .u32 0, .int .u16 0, .int .u32 0]) (t := 102) (.head _) 2; have f3 := hd.frz (b := w.heap.size + 1) (cs := #[.int .i64 0, .int .u32 0, .int .u16 0, .int .u32 0]) (t := 102) (.head _) 3)))
  all_goals
    have HS := Lib.hid (hd.set4 (ne1 (by omega)) (.int .i64 g) (.int .u32 y1) (.int .u16 y2) (.int .u32 y3))
    clear hd c0 c1 c2 r0 r1 r2 r3 f0 f1 f2 f3
    show Exit.then _ _ _ _ (S4 w2 (w.heap.size + 1) (.int .i64 g) (.int .u32 y1) (.int .u16 y2) (.int .u32 y3))
    rename_i hH
    clear hH
    generalize S4 w2 (w.heap.size + 1) (.int .i64 g) (.int .u32 y1) (.int .u16 y2) (.int .u32 y3) = W3 at HS ⊢
    have q0 := HS.out.at (w.heap.size + 1) _ _ 0 (List.mem_cons_self ..) rfl
    have q1 := HS.out.at (w.heap.size + 1) _ _ 1 (List.mem_cons_self ..) rfl
    have q2 := HS.out.at (w.heap.size + 1) _ _ 2 (List.mem_cons_self ..) rfl
    have q3 := HS.out.at (w.heap.size + 1) _ _ 3 (List.mem_cons_self ..) rfl
    go_wp2
    refine bodyPost_ret (v := .agg #[.int .i64 g, .int .u32 y1, .int .u16 y2, .int .u32 y3]) (by simp [results, Tryz.results61, go_sem, q0, q1, q2, q3]) rfl (HS.out.done _)
theorem eqK_run (a b c d a' b' c' d' : Int) (w : World) : (Op.equalIn 10000 102 (.agg #[.int .i64 a, .int .u32 b, .int .u16 c, .int .u32 d]) (.agg #[.int .i64 a', .int .u32 b', .int .u16 c', .int .u32 d'])).run Tryz.prog w = .ok (decide (a = a' ∧ b = b' ∧ c = c' ∧ d = d')) w := by
  rw [show (10000 : Nat) = 9999 + 1 from rfl, run_equalIn_struct w 9999 102 _ _ (by kernel_rfl) (by kernel_rfl)]
  go_simp
  by_cases h0 : a = a'
  case neg => simp [h0]
  subst h0
  by_cases h1 : b = b'
  case neg => simp [h1]
  subst h1
  by_cases h2 : c = c'
  case neg => simp [h2]
  subst h2
  by_cases h3 : d = d'
  case neg => simp [h3]
  subst h3
  simp
/-- What the tests of Entry and Node hold on to. -/
structure EG (X : Fx) (bT bK : Nat) (a b c d : Int) (W : World) : Prop where
  t : W.heap[bT]? = some (.cells (tC X) 66 (0, 0))
  k : W.heap[bK]? = some (.cells #[.int .i64 a, .int .u32 b, .int .u16 c, .int .u32 d] 102 (0, 0))
theorem EG.keep {bT bK : Nat} {a b c d : Int} (n1 : ¬ blkM X.h bT) (n2 : ¬ blkM X.h bK) (h : EG X bT bK a b c d W) (hf : Fr W.heap.size (blkM X.h) W W') : EG X bT bK a b c d W' :=
  ⟨(hf.block bT (Array.getElem?_eq_some_iff.1 h.t).1 n1).trans h.t, (hf.block bK (Array.getElem?_eq_some_iff.1 h.k).1 n2).trans h.k⟩
/-- The state within a test. -/
structure EM (X : Fx) (K : Nat → Nat) (w : World) (Gd : World → Prop) (W : World) : Prop where
  m : Ix X K W
  g : Gd W
  f : Fr w.heap.size (blkM X.h) w W
  k : ∀ W W', Gd W → Fr W.heap.size (blkM X.h) W W' → Gd W'
theorem EM.step (d : EM X K w Gd W) (hr : IxR X K r W e W') : EM X K w Gd W' := ⟨hr.2.1, d.k _ _ d.g hr.2.2, d.f.trans (hr.2.2.mono d.f.size (fun _ _ q => q)), d.k⟩
theorem EM.drew (d : EM X K w Gd W) : EM X K w Gd W.drew := d.step (d.m.only (Below.refl _ _).drew (.bool true))
theorem EM.done (d : EM X K w Gd W) (r : Value) : IxR X K r w (.returned r) W := ⟨rfl, d.m, d.f⟩
end
end Go.Proofs.YtcpfnmphcndmjaaGreatDoor.Ind

namespace Go.Proofs.YtcpfnmphcndmjaaGreatDoor.Ind
open Go.RowKit Num
open Pro
open Mem (Mm MemC MRet Hm rd blkM)
open Sla (Sl St Lv pl aT pV Lo)
open Arn (wrL is64)
set_option linter.unusedVariables false
set_option maxRecDepth 100000

section
variable {X : Fx} {l : List Int} {K K' : Nat → Nat} {r r' : Value} {w w1 w2 w' W W' : World} {e e' : Ending} {x : Nat} {fv : Value} {Gd : World → Prop} {F : Nat} {cp cs : Array Value} {P : Nat → Bool} {L : List (Nat × Array Value × TypeId)} {t : TypeId}
theorem str_eqB (s t : ByteArray) : (s.toList == t.toList) = decide (s = t) := by
  rw [Bool.eq_iff_iff, beq_iff_eq, decide_eq_true_eq]
  constructor
  · intro h
    have h2 := congrArg List.toArray h
    cases s; cases t
    simp [ByteArray.toList_eq] at h2 ⊢
    exact h2
  · rintro rfl; rfl
theorem Ix.labBytes (d : Ix X K w) (hx : x ∈ X.E) (hn : (X.B x).node = true) : ∀ i, 0 ≤ (X.B x).lab.getD i 0 ∧ (X.B x).lab.getD i 0 < 256 := by
  obtain ⟨l, h1, h2⟩ := d
  have e := (h1.bk x hx).lab.resolve_right (by rw [hn]; decide)
  rw [← e]
  exact fun i => Arn.part_bytes _ _ (Rin.st_bytes h1.st) i
theorem labelled_any (d : Ix X K w) (hx : x ∈ X.E) (hn : (X.B x).node = true) (s : ByteArray) : Calls Tryz.prog 65 #[tV X.h, .int .i64 (x : Int), .string s] w (IxR X K (.bool (decide ((X.B x).lab = bs s))) w) := by
  have hd := TB.made d
  have hfx := d.facts hx
  have h16 := (d.ok hx).lab
  have hby := d.labBytes hx hn
  have HL : Hid (∀ W, Ix X K W → Calls Tryz.prog 104 #[pV X.h, .int .i64 (x : Int), .int .i64 3] W (IxR X K (.int .u64 ((X.B x).lab.length : Int)) W)) := fun W hW => hW.fld hx (f := 3) (by simp)
  have HK := Lib.hid (fun W (hW : Ix X K W) => hW.liveR hx (n := 16 + (X.B x).lab.length) (by omega) (by omega))
  have HR := Lib.hid (fun W (hW : Ix X K W) => hW.label hx hn)
  have HSS : Hid (∀ W u, Row .u8 W u (X.B x).lab → (convert 57 9 u).run Tryz.prog W = .ok (.string (strOfNums (X.B x).lab)) W) := fun W u hr => hr.string (P := Tryz.prog) 57 9 5 Tryz.underlying57 Tryz.underlying5 Tryz.underlying9
  have ho : ((strOfNums (X.B x).lab).toList == s.toList) = decide ((X.B x).lab = bs s) := by
    rw [str_eqB, Bool.eq_iff_iff, decide_eq_true_eq, decide_eq_true_eq]
    constructor
    · intro h; rw [← h, bs_strOfNums _ hby]
    · intro h; rw [h, strOfNums_bs]
  obtain ⟨o, hoo⟩ : ∃ o, o = decide ((X.B x).lab = bs s) := ⟨_, rfl⟩
  rw [← hoo] at ho ⊢
  obtain ⟨n, en⟩ : ∃ n : Int, n = ((X.B x).lab.length : Int) := ⟨_, rfl⟩
  obtain ⟨na, ena⟩ : ∃ n : Int, n = ((16 + (X.B x).lab.length : Nat) : Int) := ⟨_, rfl⟩
  obtain ⟨xa, exa⟩ : ∃ n : Int, n = ((x + 16 : Nat) : Int) := ⟨_, rfl⟩
  rw [← en] at HL HR
  rw [← ena] at HK
  rw [← exa] at HR
  have n0 : 0 ≤ n := by omega
  have n1 : n ≤ 16 := by omega
  have w1' : IntKind.i64.wrap n = n := Ind.wrap_id (by omega) (by omega)
  have w2' : IntKind.i64.wrap (16 + n) = na := (Ind.wrap_id (by omega) (by omega)).trans (by omega)
  have w3' : IntKind.i64.wrap ((x : Int) + 16) = xa := (Ind.wrap_id (by omega) (by omega)).trans (by omega)
  generalize (X.B x).lab = lb at *
  obtain ⟨st, est⟩ : ∃ st, st = strOfNums lb := ⟨_, rfl⟩
  rw [← est] at HSS ho
  obtain ⟨c0, c1, c2⟩ := hd.cells
  clear d hx hfx h16 hby hn hoo en ena exa est
  try unfold tV at *
  unfold pV at *
  go_enter Tryz.func65, Tryz.ntmps65
  go_wp2_with fail
  refine (HL.out _ hd.m).mono ?_
  rintro e w2 hq
  obtain rfl := hq.1
  replace hd := hd.step hq
  clear hq c0 c1 c2
  obtain ⟨c0, c1, c2⟩ := hd.cells
  go_wp2_with fail
  refine (HK.out _ hd.m).mono ?_
  rintro e w2 hq
  obtain rfl := hq.1
  replace hd := hd.step hq
  clear hq c0 c1 c2
  obtain ⟨c0, c1, c2⟩ := hd.cells
  go_wp2_with fail
  refine (HR.out _ hd.m).mono ?_
  rintro e w3 ⟨u, hq, hr⟩
  obtain rfl := hq.1
  replace hd := hd.step hq
  have hcv := HSS.out w3 u hr.1
  clear hq hr c0 c1 c2 HSS HR HK HL
  obtain ⟨c0, c1, c2⟩ := hd.cells
  have HE := Lib.hid (hd.done (.bool o))
  clear hd
  go_wp2
  go_ret
  exact HE.out
/-- What a test says of a block: its key. -/
def keyB (X : Fx) (a b c dd : Int) (x : Nat) : Bool := decide ((X.B x).tag = a ∧ ((X.B x).name : Int) = b ∧ ((X.B x).typ : Int) = c ∧ ((X.B x).hash : Int) = dd)
theorem entry1_any {bT bK : Nat} {a b c dd : Int} (n1 : ¬ blkM X.h bT) (n2 : ¬ blkM X.h bK) (d : Ix X K w) (hx : x ∈ X.E) (g : EG X bT bK a b c dd w) :
    Calls Tryz.prog 60 #[.int .i64 (x : Int), .pointer (some ⟨bT, 0, none⟩), .pointer (some ⟨bK, 0, none⟩)] w (IxR X K (.bool (keyB X a b c dd x)) w) := by
  have hd : EM X K w (fun W => EG X bT bK a b c dd W) w := ⟨d, g, Fr.refl _ _ _, fun W W' h hf => h.keep n1 n2 hf⟩
  have HK : Hid (∀ kk : KM (fun V => EM X K w (fun W => EG X bT bK a b c dd W) V), Calls Tryz.prog 61 #[tV X.h, .int .i64 (x : Int)] kk.w fun e w' => e = .returned (keyV (X.B x)) ∧ EM X K w (fun W => EG X bT bK a b c dd W) w') := fun kk => (key_any kk.ok.m hx).mono fun e w' q => ⟨q.1, kk.ok.step q⟩
  have kt0 : ∀ kk : KM (fun V => EM X K w (fun W => EG X bT bK a b c dd W) V), kk.w.cell? ⟨bT, 0, none⟩ = some (.pointer (some ⟨X.h.g, 0, none⟩)) := fun kk => (cell_block kk.ok.g.t 0).trans rfl
  have kt1 : ∀ kk : KM (fun V => EM X K w (fun W => EG X bT bK a b c dd W) V), kk.w.cell? ⟨bT, 1, none⟩ = some (.int .i64 240) := fun kk => (cell_block kk.ok.g.t 1).trans rfl
  have kt2 : ∀ kk : KM (fun V => EM X K w (fun W => EG X bT bK a b c dd W) V), kk.w.cell? ⟨bT, 2, none⟩ = some (.int .i64 224) := fun kk => (cell_block kk.ok.g.t 2).trans rfl
  have kk0 : ∀ kk : KM (fun V => EM X K w (fun W => EG X bT bK a b c dd W) V), kk.w.cell? ⟨bK, 0, none⟩ = some (.int .i64 a) := fun kk => (cell_block kk.ok.g.k 0).trans rfl
  have kk1 : ∀ kk : KM (fun V => EM X K w (fun W => EG X bT bK a b c dd W) V), kk.w.cell? ⟨bK, 1, none⟩ = some (.int .u32 b) := fun kk => (cell_block kk.ok.g.k 1).trans rfl
  have kk2 : ∀ kk : KM (fun V => EM X K w (fun W => EG X bT bK a b c dd W) V), kk.w.cell? ⟨bK, 2, none⟩ = some (.int .u16 c) := fun kk => (cell_block kk.ok.g.k 2).trans rfl
  have kk3 : ∀ kk : KM (fun V => EM X K w (fun W => EG X bT bK a b c dd W) V), kk.w.cell? ⟨bK, 3, none⟩ = some (.int .u32 dd) := fun kk => (cell_block kk.ok.g.k 3).trans rfl
  have heq : ∀ W, (Op.equalIn 10000 102 (.agg #[.int .i64 (X.B x).tag, .int .u32 ((X.B x).name : Int), .int .u16 ((X.B x).typ : Int), .int .u32 ((X.B x).hash : Int)]) (.agg #[.int .i64 a, .int .u32 b, .int .u16 c, .int .u32 dd])).run Tryz.prog W = .ok (keyB X a b c dd x) W := fun W => eqK_run _ _ _ _ _ _ _ _ W
  unfold keyV at HK
  generalize keyB X a b c dd x = o at *
  generalize (X.B x).tag = y0 at *
  generalize ((X.B x).name : Int) = y1 at *
  generalize ((X.B x).typ : Int) = y2 at *
  generalize ((X.B x).hash : Int) = y3 at *
  clear d hx g n1 n2
  try unfold tV at *
  unfold pV at *
  go_enter Tryz.func60, Tryz.ntmps60
  go_wp2_with fail
  refine wp_region_km (Φ := fun V => EM X K w (fun W => EG X bT bK a b c dd W) V) (by kernel_rfl) (by kernel_rfl) (hd.drew) ?_
  intro hne
  repeat (first | (go_big_quiet_step ((go_at_call 61; exact Calls.km_of (HK.out _)))) | (quiet_step (first | rfl | (go_at_call 61; exact Calls.km_of (HK.out _)))))
  refine wpQuiet_nil ?_
  intro _ hw'
  obtain ⟨kk, rfl⟩ := hw'
  have HE := Lib.hid (kk.ok.done (.bool o))
  clear hd
  go_wp2
  go_ret
  exact HE.out
theorem isC_entry {bT bK : Nat} {a b c dd : Int} (n1 : ¬ blkM X.h bT) (n2 : ¬ blkM X.h bK) : IsC X 60 #[.pointer (some ⟨bT, 0, none⟩), .pointer (some ⟨bK, 0, none⟩)] (keyB X a b c dd) (EG X bT bK a b c dd) :=
  ⟨enters_of Tryz.func60 (by kernel_rfl) rfl, fun W W' h hf => h.keep n1 n2 hf, fun K W x hx hW h => entry1_any n1 n2 hW hx h⟩
theorem node1_any {bT bK bS : Nat} {a b c dd : Int} {s : ByteArray} (ha : a = 2) (n1 : ¬ blkM X.h bT) (n2 : ¬ blkM X.h bK) (n3 : ¬ blkM X.h bS) (d : Ix X K w) (hx : x ∈ X.E) (g : EG X bT bK a b c dd w ∧ w.heap[bS]? = some (.cells #[.string s] 9 (0, 0))) :
    Calls Tryz.prog 64 #[.int .i64 (x : Int), .pointer (some ⟨bT, 0, none⟩), .pointer (some ⟨bK, 0, none⟩), .pointer (some ⟨bS, 0, none⟩)] w (IxR X K (.bool (keyB X a b c dd x && decide ((X.B x).lab = bs s))) w) := by
  have hd : EM X K w (fun W => EG X bT bK a b c dd W ∧ W.heap[bS]? = some (.cells #[.string s] 9 (0, 0))) w := ⟨d, g, Fr.refl _ _ _, fun W W' h hf => ⟨h.1.keep n1 n2 hf, (hf.block bS (Array.getElem?_eq_some_iff.1 h.2).1 n3).trans h.2⟩⟩
  have HK : Hid (∀ kk : KM (fun V => EM X K w (fun W => EG X bT bK a b c dd W ∧ W.heap[bS]? = some (.cells #[.string s] 9 (0, 0))) V), Calls Tryz.prog 61 #[tV X.h, .int .i64 (x : Int)] kk.w fun e w' => e = .returned (keyV (X.B x)) ∧ EM X K w (fun W => EG X bT bK a b c dd W ∧ W.heap[bS]? = some (.cells #[.string s] 9 (0, 0))) w') := fun kk => (key_any kk.ok.m hx).mono fun e w' q => ⟨q.1, kk.ok.step q⟩
  have kt0 : ∀ kk : KM (fun V => EM X K w (fun W => EG X bT bK a b c dd W ∧ W.heap[bS]? = some (.cells #[.string s] 9 (0, 0))) V), kk.w.cell? ⟨bT, 0, none⟩ = some (.pointer (some ⟨X.h.g, 0, none⟩)) := fun kk => (cell_block kk.ok.g.1.t 0).trans rfl
  have kt1 : ∀ kk : KM (fun V => EM X K w (fun W => EG X bT bK a b c dd W ∧ W.heap[bS]? = some (.cells #[.string s] 9 (0, 0))) V), kk.w.cell? ⟨bT, 1, none⟩ = some (.int .i64 240) := fun kk => (cell_block kk.ok.g.1.t 1).trans rfl
  have kt2 : ∀ kk : KM (fun V => EM X K w (fun W => EG X bT bK a b c dd W ∧ W.heap[bS]? = some (.cells #[.string s] 9 (0, 0))) V), kk.w.cell? ⟨bT, 2, none⟩ = some (.int .i64 224) := fun kk => (cell_block kk.ok.g.1.t 2).trans rfl
  have kk0 : ∀ kk : KM (fun V => EM X K w (fun W => EG X bT bK a b c dd W ∧ W.heap[bS]? = some (.cells #[.string s] 9 (0, 0))) V), kk.w.cell? ⟨bK, 0, none⟩ = some (.int .i64 a) := fun kk => (cell_block kk.ok.g.1.k 0).trans rfl
  have kk1 : ∀ kk : KM (fun V => EM X K w (fun W => EG X bT bK a b c dd W ∧ W.heap[bS]? = some (.cells #[.string s] 9 (0, 0))) V), kk.w.cell? ⟨bK, 1, none⟩ = some (.int .u32 b) := fun kk => (cell_block kk.ok.g.1.k 1).trans rfl
  have kk2 : ∀ kk : KM (fun V => EM X K w (fun W => EG X bT bK a b c dd W ∧ W.heap[bS]? = some (.cells #[.string s] 9 (0, 0))) V), kk.w.cell? ⟨bK, 2, none⟩ = some (.int .u16 c) := fun kk => (cell_block kk.ok.g.1.k 2).trans rfl
  have kk3 : ∀ kk : KM (fun V => EM X K w (fun W => EG X bT bK a b c dd W ∧ W.heap[bS]? = some (.cells #[.string s] 9 (0, 0))) V), kk.w.cell? ⟨bK, 3, none⟩ = some (.int .u32 dd) := fun kk => (cell_block kk.ok.g.1.k 3).trans rfl
  have kS : ∀ kk : KM (fun V => EM X K w (fun W => EG X bT bK a b c dd W ∧ W.heap[bS]? = some (.cells #[.string s] 9 (0, 0))) V), kk.w.cell? ⟨bS, 0, none⟩ = some (.string s) := fun kk => (cell_block kk.ok.g.2 0).trans rfl
  have heq : ∀ W, (Op.equalIn 10000 102 (.agg #[.int .i64 (X.B x).tag, .int .u32 ((X.B x).name : Int), .int .u16 ((X.B x).typ : Int), .int .u32 ((X.B x).hash : Int)]) (.agg #[.int .i64 a, .int .u32 b, .int .u16 c, .int .u32 dd])).run Tryz.prog W = .ok (keyB X a b c dd x) W := fun W => eqK_run _ _ _ _ _ _ _ _ W
  unfold keyV at HK
  cases ho : keyB X a b c dd x with
  | false =>
    rw [ho] at heq
    rw [Bool.false_and]
    generalize (X.B x).tag = y0 at *
    generalize ((X.B x).name : Int) = y1 at *
    generalize ((X.B x).typ : Int) = y2 at *
    generalize ((X.B x).hash : Int) = y3 at *
    clear d hx g n1 n2 n3 ha ho
    try unfold tV at *
    unfold pV at *
    go_enter Tryz.func64, Tryz.ntmps64
    go_wp2_with fail
    refine wp_region_km (Φ := fun V => EM X K w (fun W => EG X bT bK a b c dd W ∧ W.heap[bS]? = some (.cells #[.string s] 9 (0, 0))) V) (by kernel_rfl) (by kernel_rfl) (hd.drew) ?_
    intro hne
    repeat (first | (go_big_quiet_step ((go_at_call 61; exact Calls.km_of (HK.out _)))) | (quiet_step (first | rfl | (go_at_call 61; exact Calls.km_of (HK.out _)))))
    refine wpQuiet_nil ?_
    intro _ hw'
    obtain ⟨kk, rfl⟩ := hw'
    have HE := Lib.hid (kk.ok.done (.bool false))
    clear hd
    go_wp2
    go_ret
    exact HE.out
  | true =>
    have hno : (X.B x).node = true := by
      unfold keyB at ho
      have h1 := (of_decide_eq_true ho).1
      cases hn : (X.B x).node with
      | true => rfl
      | false =>
        unfold Bk.tag at h1
        rw [hn] at h1
        simp at h1
        omega
    have HB : Hid (∀ kk : KM (fun V => EM X K w (fun W => EG X bT bK a b c dd W ∧ W.heap[bS]? = some (.cells #[.string s] 9 (0, 0))) V), Calls Tryz.prog 65 #[tV X.h, .int .i64 (x : Int), .string s] kk.w fun e w' => e = .returned (.bool (decide ((X.B x).lab = bs s))) ∧ EM X K w (fun W => EG X bT bK a b c dd W ∧ W.heap[bS]? = some (.cells #[.string s] 9 (0, 0))) w') := fun kk => (labelled_any kk.ok.m hx hno s).mono fun e w' q => ⟨q.1, kk.ok.step q⟩
    rw [ho] at heq
    rw [Bool.true_and]
    generalize decide ((X.B x).lab = bs s) = o at *
    generalize (X.B x).tag = y0 at *
    generalize ((X.B x).name : Int) = y1 at *
    generalize ((X.B x).typ : Int) = y2 at *
    generalize ((X.B x).hash : Int) = y3 at *
    clear d hx g n1 n2 n3 ha ho hno
    try unfold tV at *
    unfold pV at *
    go_enter Tryz.func64, Tryz.ntmps64
    go_wp2_with fail
    refine wp_region_km (Φ := fun V => EM X K w (fun W => EG X bT bK a b c dd W ∧ W.heap[bS]? = some (.cells #[.string s] 9 (0, 0))) V) (by kernel_rfl) (by kernel_rfl) (hd.drew) ?_
    intro hne
    repeat (first | (go_big_quiet_step ((first | (go_at_call 61; exact Calls.km_of (HK.out _)) | (go_at_call 65; exact Calls.km_of (HB.out _))))) | (quiet_step (first | rfl | (first | (go_at_call 61; exact Calls.km_of (HK.out _)) | (go_at_call 65; exact Calls.km_of (HB.out _))))))
    refine wpQuiet_nil ?_
    intro _ hw'
    obtain ⟨kk, rfl⟩ := hw'
    have HE := Lib.hid (kk.ok.done (.bool o))
    clear hd
    go_wp2
    go_ret
    exact HE.out
theorem isC_node {bT bK bS : Nat} {b c dd : Int} {s : ByteArray} (n1 : ¬ blkM X.h bT) (n2 : ¬ blkM X.h bK) (n3 : ¬ blkM X.h bS) : IsC X 64 #[.pointer (some ⟨bT, 0, none⟩), .pointer (some ⟨bK, 0, none⟩), .pointer (some ⟨bS, 0, none⟩)] (fun x => keyB X 2 b c dd x && decide ((X.B x).lab = bs s)) (fun W => EG X bT bK 2 b c dd W ∧ W.heap[bS]? = some (.cells #[.string s] 9 (0, 0))) :=
  ⟨enters_of Tryz.func64 (by kernel_rfl) rfl, fun W W' h hf => ⟨h.1.keep n1 n2 hf, (hf.block bS (Array.getElem?_eq_some_iff.1 h.2).1 n3).trans h.2⟩, fun K W x hx hW h => node1_any rfl n1 n2 n3 hW hx h⟩
end
end Go.Proofs.YtcpfnmphcndmjaaGreatDoor.Ind

namespace Go.Proofs.YtcpfnmphcndmjaaGreatDoor.Ind
open Go.RowKit Num
open Pro
open Mem (Mm MemC MRet Hm rd blkM)
open Sla (Sl St Lv pl aT pV Lo)
open Arn (wrL is64)
set_option linter.unusedVariables false
set_option maxRecDepth 100000

section
variable {X : Fx} {l : List Int} {K K' : Nat → Nat} {r r' : Value} {w w1 w2 w' W W' : World} {e e' : Ending} {x : Nat} {fv : Value} {Gd : World → Prop} {F : Nat} {cp cs : Array Value} {P : Nat → Bool} {L : List (Nat × Array Value × TypeId)} {t : TypeId}
set_option maxHeartbeats 2000000 in
theorem Entry_any (d : Ix X K w) (nm ty : Int) (hs : Nat) (hh : hs < 4294967296) : Calls Tryz.prog 24 #[pV X.h, .int .u32 nm, .int .u16 ty, .int .u32 (hs : Int)] w (IxR X K (.tuple #[.int .i64 ((bkP K (slF 224 (hmX X) K (hs % 224) (keyB X 1 nm ty (hs : Int)))).1 : Int), .bool (bkP K (slF 224 (hmX X) K (hs % 224) (keyB X 1 nm ty (hs : Int)))).2]) w) := by
  have HT := Lib.hid (fun W (hW : Ix X K W) => slots_any hW)
  have HO := Lib.hid (fun W (hW : Ix X K W) => home_any hW hh)
  have HB := Lib.hid (fun W bT bK (n1 : ¬ blkM X.h bT) (n2 : ¬ blkM X.h bK) (hW : Ix X K W) (g : EG X bT bK 1 nm ty (hs : Int) W) => block_any (isC_entry n1 n2) hW g (a := hs % 224) (Nat.mod_lt _ (by omega)))
  generalize (bkP K (slF 224 (hmX X) K (hs % 224) (keyB X 1 nm ty (hs : Int)))) = R at HB ⊢
  generalize hs % 224 = o at HO HB
  generalize (hs : Int) = y at HO HB ⊢
  have hd := MB.start d
  clear d hh
  try unfold sV tV at *
  unfold pV at *
  go_enter Tryz.func24, Tryz.ntmps24
  go_wp2_with fail
  refine (HT.out _ hd.m).mono ?_
  rintro e w1 hq
  obtain rfl := hq.1
  replace hd := (hd.step hq).push (tC X) 66
  clear hq HT
  replace hd := hd.push #[.int .i64 1, .int .u32 nm, .int .u16 ty, .int .u32 y] 102
  rw [size_al] at hd
  have hn1 := (hd.bx _ (.tail _ (.head _))).2.1
  have hn2 := (hd.bx _ (.head _)).2.1
  have HB1 := Lib.hid (fun W => HB.out W (w1.heap.size) (w1.heap.size + 1) hn1 hn2)
  clear HB hn1 hn2
  obtain ⟨c0, c1, c2⟩ := hd.tcells (.tail _ (.head _))
  go_wp2_with fail
  go_region_held3 (fun w' => w'.cell? ⟨w1.heap.size, 0, none⟩ = some (.pointer (some ⟨X.h.g, 0, none⟩)) ∧ w'.cell? ⟨w1.heap.size, 1, none⟩ = some (.int .i64 240) ∧ w'.cell? ⟨w1.heap.size, 2, none⟩ = some (.int .i64 224)) (first | exact ⟨c0, c1, c2⟩ | go_keep) ((first | (go_at_call 62; refine (HO.out _ (by first | exact hd.m | exact hd.m.drew)).mono ?_; rintro e w2 hq; obtain rfl := hq.1; replace hd := (by first | exact hd.step hq | exact hd.drew.step hq); clear hq c0 c1 c2; obtain ⟨c0, c1, c2⟩ := hd.tcells (.tail _ (.head _))) | (go_at_call 63; refine (HB1.out _ (by first | exact hd.m | exact hd.m.drew) (by first | exact ⟨(hd.bx _ (.tail _ (.head _))).1, (hd.bx _ (.head _)).1⟩ | exact ⟨(hd.drew.bx _ (.tail _ (.head _))).1, (hd.drew.bx _ (.head _)).1⟩)).mono ?_; rintro e w2 hq; obtain rfl := hq.1; replace hd := (by first | exact hd.step hq | exact hd.drew.step hq); clear hq c0 c1 c2; obtain ⟨c0, c1, c2⟩ := hd.tcells (.tail _ (.head _)))))
  all_goals
    have HE := Lib.hid (hd.done (.tuple #[.int .i64 (R.1 : Int), .bool R.2]))
    clear hd
    go_wp2
    go_ret2
    exact HE.out
set_option maxHeartbeats 2000000 in
theorem Node_any (d : Ix X K w) (nm : Int) (s : ByteArray) (hs : Nat) (hh : hs < 4294967296) : Calls Tryz.prog 25 #[pV X.h, .int .u32 nm, .string s, .int .u32 (hs : Int)] w (IxR X K (.tuple #[.int .i64 ((bkP K (slF 224 (hmX X) K (hs % 224) (fun x => keyB X 2 nm 0 (hs : Int) x && decide ((X.B x).lab = bs s)))).1 : Int), .bool (bkP K (slF 224 (hmX X) K (hs % 224) (fun x => keyB X 2 nm 0 (hs : Int) x && decide ((X.B x).lab = bs s)))).2]) w) := by
  have HT := Lib.hid (fun W (hW : Ix X K W) => slots_any hW)
  have HO := Lib.hid (fun W (hW : Ix X K W) => home_any hW hh)
  have HB := Lib.hid (fun W bT bK bS (n1 : ¬ blkM X.h bT) (n2 : ¬ blkM X.h bK) (n3 : ¬ blkM X.h bS) (hW : Ix X K W) (g : EG X bT bK 2 nm 0 (hs : Int) W ∧ W.heap[bS]? = some (.cells #[.string s] 9 (0, 0))) => block_any (isC_node n1 n2 n3) hW g (a := hs % 224) (Nat.mod_lt _ (by omega)))
  generalize (bkP K (slF 224 (hmX X) K (hs % 224) (fun x => keyB X 2 nm 0 (hs : Int) x && decide ((X.B x).lab = bs s)))) = R at HB ⊢
  generalize hs % 224 = o at HO HB
  generalize (hs : Int) = y at HO HB ⊢
  have hd := (MB.start d).push #[.string s] 9
  clear d hh
  try unfold sV tV at *
  unfold pV at *
  go_enter Tryz.func25, Tryz.ntmps25
  go_wp2_with fail
  refine (HT.out _ hd.m).mono ?_
  rintro e w1 hq
  obtain rfl := hq.1
  replace hd := (hd.step hq).push (tC X) 66
  clear hq HT
  replace hd := hd.push #[.int .i64 2, .int .u32 nm, .int .u16 0, .int .u32 y] 102
  rw [size_al] at hd
  have hn1 := (hd.bx _ (.tail _ (.head _))).2.1
  have hn2 := (hd.bx _ (.head _)).2.1
  have hn3 := (hd.bx _ (.tail _ (.tail _ (.head _)))).2.1
  have HB1 := Lib.hid (fun W => HB.out W (w1.heap.size) (w1.heap.size + 1) w.heap.size hn1 hn2 hn3)
  clear HB hn1 hn2 hn3
  obtain ⟨c0, c1, c2⟩ := hd.tcells (.tail _ (.head _))
  go_wp2_with fail
  go_region_held3 (fun w' => w'.cell? ⟨w1.heap.size, 0, none⟩ = some (.pointer (some ⟨X.h.g, 0, none⟩)) ∧ w'.cell? ⟨w1.heap.size, 1, none⟩ = some (.int .i64 240) ∧ w'.cell? ⟨w1.heap.size, 2, none⟩ = some (.int .i64 224)) (first | exact ⟨c0, c1, c2⟩ | go_keep) ((first | (go_at_call 62; refine (HO.out _ (by first | exact hd.m | exact hd.m.drew)).mono ?_; rintro e w2 hq; obtain rfl := hq.1; replace hd := (by first | exact hd.step hq | exact hd.drew.step hq); clear hq c0 c1 c2; obtain ⟨c0, c1, c2⟩ := hd.tcells (.tail _ (.head _))) | (go_at_call 63; refine (HB1.out _ (by first | exact hd.m | exact hd.m.drew) (by first | exact ⟨⟨(hd.bx _ (.tail _ (.head _))).1, (hd.bx _ (.head _)).1⟩, (hd.bx _ (.tail _ (.tail _ (.head _)))).1⟩ | exact ⟨⟨(hd.drew.bx _ (.tail _ (.head _))).1, (hd.drew.bx _ (.head _)).1⟩, (hd.drew.bx _ (.tail _ (.tail _ (.head _)))).1⟩)).mono ?_; rintro e w2 hq; obtain rfl := hq.1; replace hd := (by first | exact hd.step hq | exact hd.drew.step hq); clear hq c0 c1 c2; obtain ⟨c0, c1, c2⟩ := hd.tcells (.tail _ (.head _)))))
  all_goals
    have HE := Lib.hid (hd.done (.tuple #[.int .i64 (R.1 : Int), .bool R.2]))
    clear hd
    go_wp2
    go_ret2
    exact HE.out
theorem up_zero (i : Nat) : up (fun _ => 0) i 0 = fun _ => 0 := by
  funext q
  unfold up
  split <;> rfl
theorem Begin_any (d : Ix X (fun _ => 0) w) : Calls Tryz.prog 31 #[pV X.h] w (IxR X (fun _ => 0) (.int .i64 0) w) := by
  have HT := Lib.hid (fun W (hW : Ix X (fun _ => 0) W) => slots_any hW)
  have HM := Lib.hid (fun W (hW : Ix X (fun _ => 0) W) => tmade_any hW)
  have HS : Hid (∀ (i : Nat) W, i < 224 → Ix X (fun _ => 0) W → Calls Tryz.prog 53 #[tV X.h, .int .i64 (i : Int), .int .i64 0] W (IxR X (fun _ => 0) (.tuple #[]) W)) := fun i W hi hW => by
    have := set_any hW hi (v := 0) (.inl rfl)
    rw [up_zero] at this
    exact this
  have hd := MB.start d
  clear d
  generalize (fun _ : Nat => (0 : Nat)) = K at *
  try unfold sV tV at *
  unfold pV at *
  go_enter Tryz.func31, Tryz.ntmps31
  go_wp2_with fail
  refine (HT.out _ hd.m).mono ?_
  rintro e w1 hq
  obtain rfl := hq.1
  replace hd := (hd.step hq).push (tC X) 66
  clear hq HT
  obtain ⟨c0, c1, c2⟩ := hd.tcells (.head _)
  go_wp2_with fail
  refine (HM.out _ hd.m).mono ?_
  rintro e w2 hq
  obtain rfl := hq.1
  replace hd := hd.step hq
  clear hq
  clear c0 c1 c2
  obtain ⟨c0, c1, c2⟩ := hd.tcells (.head _)
  have HD := Lib.hid hd
  clear hd
  go_wp2
  clear c0 c1 c2
  go_loopw [12] (fun i wr => ∃ k : Nat, k ≤ 224 ∧ i = .int .i64 k ∧ Hid (MB X K w [(w1.heap.size, tC X, 66)] wr)) (fun i _ => 224 - (intOf i).toNat)
  case atStart => exact ⟨0, by omega, rfl, HD.out⟩
  case round =>
    clear HD
    obtain ⟨k, hk, rfl, HR⟩ := hrel
    have hd := HR.out
    clear HR
    obtain ⟨c0, c1, c2⟩ := hd.tcells (.head _)
    by_cases hlt : k < 224
    · have hlt1 : (k : Int) < 224 := by omega
      have HS1 := Lib.hid (fun W hW => HS.out k W hlt hW)
      go_wp2_with fail
      refine (HS1.out _ hd.m).mono ?_
      rintro e w4 hq
      obtain rfl := hq.1
      have HR2 := Lib.hid (hd.step hq)
      clear hq hd c0 c1 c2 HS1
      go_wp2
      go_roundw
      case rel => exact ⟨k + 1, by omega, by go_num, HR2.out⟩
      case measure => simp [intOf]; omega
    · obtain rfl : k = 224 := by omega
      have HE := Lib.hid (hd.done (.int .i64 0))
      clear hd
      go_wp2
      go_ret
      exact HE.out
/-- The farthest of the first slots. -/
def lonX (X : Fx) (K : Nat → Nat) : Nat → Nat
  | 0 => 0
  | j + 1 => if K j = 0 then lonX X K j else max (lonX X K j) (off 224 (hmX X (K j)) j)
theorem Longest_any (d : Ix X K w) : Calls Tryz.prog 28 #[pV X.h] w (IxR X K (.int .i64 (lonX X K 224 : Int)) w) := by
  have HT := Lib.hid (fun W (hW : Ix X K W) => slots_any hW)
  have HM := Lib.hid (fun (i : Nat) W (hi : i < 224) (hW : Ix X K W) => empty_any hW hi)
  have HF := Lib.hid (fun (i : Nat) W (hi : i < 224) (hk : K i ≠ 0) (hW : Ix X K W) => far_any hW hi hk)
  have HL : Hid (∀ j, lonX X K (j + 1) = if K j = 0 then lonX X K j else max (lonX X K j) (off 224 (hmX X (K j)) j)) := fun j => rfl
  have hd := MB.start d
  clear d
  try unfold sV tV at *
  unfold pV at *
  go_enter Tryz.func28, Tryz.ntmps28
  go_wp2_with fail
  refine (HT.out _ hd.m).mono ?_
  rintro e w1 hq
  obtain rfl := hq.1
  replace hd := (hd.step hq).push (tC X) 66
  clear hq HT
  obtain ⟨c0, c1, c2⟩ := hd.tcells (.head _)
  have HD := Lib.hid hd
  clear hd
  go_wp2
  clear c0 c1 c2
  go_loopw [4, 10] (fun m i wr => ∃ k : Nat, k ≤ 224 ∧ i = .int .i64 k ∧ m = .int .i64 (lonX X K k : Int) ∧ Hid (MB X K w [(w1.heap.size, tC X, 66)] wr)) (fun _ i _ => 224 - (intOf i).toNat)
  case atStart => exact ⟨0, by omega, rfl, rfl, HD.out⟩
  case round =>
    clear HD
    obtain ⟨k, hk, rfl, rfl, HR⟩ := hrel
    have hd := HR.out
    clear HR
    obtain ⟨c0, c1, c2⟩ := hd.tcells (.head _)
    by_cases hlt : k < 224
    · have hlt1 : (k : Int) < 224 := by omega
      have HM1 := Lib.hid (fun W hW => HM.out k W hlt hW)
      have HLk := Lib.hid (HL.out k)
      by_cases hz : K k = 0
      · rw [show decide (K k = 0) = true by simpa using hz] at HM1
        have HLn : Hid (lonX X K (k + 1) = lonX X K k) := HLk.out.trans (if_pos hz)
        clear hz HLk
        generalize lonX X K k = lk at HLn ⊢
        go_wp2_with fail
        refine (HM1.out _ hd.m).mono ?_
        rintro e w4 hq
        obtain rfl := hq.1
        have HR2 := Lib.hid (hd.step hq)
        clear hq hd c0 c1 c2 HM1
        go_wp2
        go_roundw
        case rel => exact ⟨k + 1, by omega, by go_num, by rw [HLn.out], HR2.out⟩
        case measure => simp [intOf]; omega
      · rw [show decide (K k = 0) = false by simpa using hz] at HM1
        have HF1 := Lib.hid (fun W hW => HF.out k W hlt hz hW)
        have HLn : Hid (lonX X K (k + 1) = max (lonX X K k) (off 224 (hmX X (K k)) k)) := HLk.out.trans (if_neg hz)
        clear hz HLk
        generalize lonX X K k = lk at HLn ⊢
        generalize off 224 (hmX X (K k)) k = fk at HLn HF1
        obtain ⟨mx, hmx⟩ : ∃ mx : Int, mx = max (lk : Int) (fk : Int) := ⟨_, rfl⟩
        have HMx : Hid (((max lk fk : Nat) : Int) = mx) := by
          unfold Hid
          rw [hmx]
          omega
        go_wp2_with fail
        refine (HM1.out _ hd.m).mono ?_
        rintro e w4 hq
        obtain rfl := hq.1
        replace hd := hd.step hq
        clear hq c0 c1 c2 HM1
        obtain ⟨c0, c1, c2⟩ := hd.tcells (.head _)
        go_wp2_with fail
        refine (HF1.out _ hd.m).mono ?_
        rintro e w4 hq
        obtain rfl := hq.1
        have HR2 := Lib.hid (hd.step hq)
        clear hq hd c0 c1 c2 HF1
        go_wp2
        all_goals
          go_roundw
          case rel => exact ⟨k + 1, by omega, by go_num, by rw [HLn.out, HMx.out, hmx]; first | rfl | (congr 1; omega), HR2.out⟩
          case measure => simp [intOf]; omega
    · obtain rfl : k = 224 := by omega
      have HE := Lib.hid (hd.done (.int .i64 (lonX X K 224 : Int)))
      clear hd
      go_wp2
      go_ret
      exact HE.out
end
end Go.Proofs.YtcpfnmphcndmjaaGreatDoor.Ind

namespace Go.Proofs.YtcpfnmphcndmjaaGreatDoor.Ind
open Go.RowKit Num
open Pro
open Mem (Mm MemC MRet Hm rd blkM)
open Sla (Sl St Lv pl aT pV Lo Tk Tkn Gvn Kp tkF gvF Ts mem_lt bl_in zero_v X0)
open Cls (szC blC pdC)
open Arn (wrL is64)
open Rin (st_self st_len st_bytes lv_at lv_apart)
set_option linter.unusedVariables false
set_option maxRecDepth 100000

abbrev fx (h : Hm) (T : List Sl) (E : List Nat) (B : Nat → Bk) (lb : List Int) : Fx := ⟨h, T, E, B, lb⟩
/-- One block more. -/
def upB (B : Nat → Bk) (a : Nat) (b : Bk) (y : Nat) : Bk := if y = a then b else B y
theorem upB_at (B : Nat → Bk) (a : Nat) (b : Bk) : upB B a b a = b := if_pos rfl
theorem upB_ne (B : Nat → Bk) {a y : Nat} (b : Bk) (h : y ≠ a) : upB B a b y = B y := if_neg h
def hmB (B : Nat → Bk) (x : Nat) : Nat := hom (B x)
structure Wi (w0 : World) (h : Hm) (n : Nat) (T : List Sl) (E : List Nat) (B : Nat → Bk) (lb : List Int) (K : Nat → Nat) (W : World) : Prop where
  ix : Ix (fx h T E B lb) K W
  ok : Ok 224 (hmB B) K
  b : Below w0.heap.size w0 W
  kk : ∀ k, blkM h k → w0.heap.size ≤ k
  lo : Lo h n
  nn : n ≤ W.heap.size
  n0 : w0.heap.size ≤ n
  z : h.z = false
section
variable {h : Hm} {l0 l l' lb lb' : List Int} {T T' : List Sl} {w0 w w' W W' : World} {n a x y : Nat} {E : List Nat} {B : Nat → Bk} {K K' : Nat → Nat} {b : Bk} {e : Ending} {r : Value}
theorem Wi.below (d : Wi w0 h n T E B lb K W) (hb : Below W.heap.size W W') : Wi w0 h n T E B lb K W' :=
  ⟨d.ix.below hb, d.ok, d.b.trans (hb.mono d.b.size), d.kk, d.lo, Nat.le_trans d.nn hb.size, d.n0, d.z⟩
theorem Wi.drew (d : Wi w0 h n T E B lb K W) : Wi w0 h n T E B lb K W.drew := d.below (Below.refl _ _).drew
theorem Wi.low (d : Wi w0 h n T E B lb K W) (hb : Below n W W') : Wi w0 h n T E B lb K W' :=
  ⟨d.ix.low hb d.lo, d.ok, d.b.trans (hb.mono d.n0), d.kk, d.lo, Nat.le_trans d.nn hb.size, d.n0, d.z⟩
theorem Wi.fr {lb' : List Int} {E' : List Nat} {B' : Nat → Bk} (d : Wi w0 h n T E B lb K W) (hs : Ix (fx h T' E' B' lb') K' W') (ho : Ok 224 (hmB B') K') (hf : Fr W.heap.size (blkM h) W W') : Wi w0 h n T' E' B' lb' K' W' :=
  ⟨hs, ho, d.b.trans (hf.toBelow d.b.size (fun k hk q => by have := d.kk k q; omega)), d.kk, d.lo, Nat.le_trans d.nn hf.size, d.n0, d.z⟩
/-- A call of the index. -/
theorem Wi.step (d : Wi w0 h n T E B lb K W) (hr : IxR (fx h T E B lb) K' r W e W') (ho : Ok 224 (hmB B) K') : Wi w0 h n T E B lb K' W' := d.fr hr.2.1 ho hr.2.2
theorem Wi.same (d : Wi w0 h n T E B lb K W) (hr : IxR (fx h T E B lb) K r W e W') : Wi w0 h n T E B lb K W' := d.step hr d.ok
theorem Wi.lt (d : Wi w0 h n T E B lb K W) : ∀ k, blkM h k → k < W.heap.size := d.ix.lt
theorem Wi.tk (d : Wi w0 h n T E B lb K W) : Tk 7 T := by
  obtain ⟨l, h1, h2⟩ := d.ix
  exact h1.st.tk
theorem Wi.facts (d : Wi w0 h n T E B lb K W) (hx : x ∈ E) : 128 ≤ x ∧ x % 16 = 0 ∧ x + 32 ≤ 100000 := d.ix.facts hx
/-- The bytes themselves as those that are compared with. -/
theorem Wi.self (d : Wi w0 h n T E B lb K W) : ∃ l, Wi w0 h n T E B l K W ∧ En (fx h T E B l) l K W := by
  obtain ⟨l, h1, h2⟩ := d.ix
  have h3 : En (fx h T E B l) l K W := ⟨h1.st, h1.lv, h1.bk, h1.sl, h1.kin⟩
  exact ⟨l, ⟨⟨l, h3, Nc.refl _⟩, d.ok, d.b, d.kk, d.lo, d.nn, d.n0, d.z⟩, h3⟩

/-! ### A block is taken -/
theorem st_slots (d : St h 7 224 l0 l T W) {t : Nat} (h1 : 240 ≤ t) (h2 : t < 1136) : l.getD t 0 = l0.getD t 0 := by
  obtain ⟨H, L, ⟨C, q1, q2, h3, h4, h5⟩, d2⟩ := d
  exact h5.low t (by rw [q1, q2, base7]; omega) (by rw [q1]; omega)
theorem kp_at {S N : Nat} (hk : Kp S N T T' l l') {x : Nat} (hx : Lv S N T x) (hs : ∀ j k, j < S → k ∈ (T.getD j Sl.zero).v → x = pl (aT S N j) (T.getD j Sl.zero).c k → k ∈ (T'.getD j Sl.zero).v ∧ (T'.getD j Sl.zero).c = (T.getD j Sl.zero).c) : ∀ t, x ≤ t → t < x + 32 → l'.getD t 0 = l.getD t 0 := by
  obtain ⟨j, k, hj, hk', rfl⟩ := hx
  intro t h1 h2
  obtain ⟨g1, g2⟩ := hs j k hj hk' rfl
  have hin := bl_in (mem_lt hk').1
  have := hk j k hj hk' g1 g2 (t - pl (aT S N j) (T.getD j Sl.zero).c k) (by omega)
  rw [show pl (aT S N j) (T.getD j Sl.zero).c k + (t - pl (aT S N j) (T.getD j Sl.zero).c k) = t by omega] at this
  exact this
theorem tkn_at {S N : Nat} {c : Int} {j k : Nat} (t : Tkn S N T T' c j k) : ∀ j' k', j' < S → k' ∈ (T.getD j' Sl.zero).v → k' ∈ (T'.getD j' Sl.zero).v ∧ (T'.getD j' Sl.zero).c = (T.getD j' Sl.zero).c := by
  intro j' k' hj' hk'
  by_cases hjj : j' = j
  · subst hjj
    refine ⟨(t.mem k').2 (.inr hk'), ?_⟩
    rcases t.old with q | q
    · have := t.cls; omega
    · rw [zero_v q] at hk'; cases hk'
  · rw [t.oth j' hjj]
    exact ⟨hk', rfl⟩
theorem sls_same {l l' : List Int} (h : Sls l K) (hl : l'.length = l.length) (hs : ∀ t, 240 ≤ t → t < 1136 → l'.getD t 0 = l.getD t 0) : Sls l' K := fun i hi => by
  rw [← h i hi]
  exact Sla.rd_agree hl (fun t q1 q2 => hs t (by omega) (by omega))
theorem Wi.take (d : Wi w0 h n T E B lb K W) : Calls Tryz.prog 54 #[pV h, .int .i64 1] W fun e W' =>
    (∃ x er, er ≠ 0 ∧ (tkF 7 224 T 1).1.2 = er ∧ e = .returned (.tuple #[.int .i64 x, .int .i64 er]) ∧ (∃ lb', Wi w0 h n T E B lb' K W') ∧ Fr W.heap.size (blkM h) W W') ∨
    (∃ a : Nat, (tkF 7 224 T 1).1 = ((a : Int), 0) ∧ e = .returned (.tuple #[.int .i64 (a : Int), .int .i64 0]) ∧ a ∉ E ∧ (∃ lb', Lv 7 224 (tkF 7 224 T 1).2 a ∧ Wi w0 h n (tkF 7 224 T 1).2 E B lb' K W') ∧ Fr W.heap.size (blkM h) W W') := by
  obtain ⟨l, h1, h2⟩ := id d.ix
  refine (h1.st.take 1).mono ?_
  rintro e W' ⟨l', he, hs, hf, hk, hz⟩
  have hlen : l'.length = l.length := (st_len hs).1.trans (st_len h1.st).1.symm
  have hsl := sls_same h1.sl hlen (fun t q1 q2 => st_slots hs q1 q2)
  rcases Sla.tk_spec (N := 224) d.tk 1 with ⟨q1, q2⟩ | ⟨q1, j, k, q2, q3⟩
  · rw [q2] at hs hk
    refine .inl ⟨_, _, q1, rfl, he, ⟨l', d.fr ⟨l', ⟨st_self hs, h1.lv, fun x hx => (h1.bk x hx).same hlen (kp_at hk (h1.lv x hx) (fun j k _ hk' _ => ⟨hk', rfl⟩)), hsl, h1.kin⟩, Nc.refl _⟩ d.ok hf⟩, hf⟩
  · have hlv := fun x hx => (q3.lv h1.st.tk x).2 (.inr (h1.lv x hx))
    refine .inr ⟨_, ?_, ?_, fun q => q3.fresh (h1.lv _ q), ⟨l', (q3.lv h1.st.tk _).2 (.inl rfl), d.fr ⟨l', ⟨st_self hs, hlv, fun x hx => (h1.bk x hx).same hlen (kp_at hk (h1.lv x hx) (fun j' k' hj' hk' _ => tkn_at q3 j' k' hj' hk')), hsl, h1.kin⟩, Nc.refl _⟩ d.ok hf⟩, hf⟩
    · rw [← q2, ← q1]
    · rw [he, q1, q2]
theorem lv_high (hx : Lv 7 224 T x) : 1136 ≤ x := by
  obtain ⟨j, k, hj, hk, e⟩ := hx
  have := base7
  unfold pl aT at e
  omega
/-- A head is put into a new block. -/
theorem Wi.put (d : Wi w0 h n T E B lb K W) (ha : a ∉ E) (hlv : Lv 7 224 T a) (hb : b.Ok) :
    Calls Tryz.prog 55 #[pV h, .int .i64 (a : Int), b.blk.agg] W fun e W' => e = .returned (.int .i64 0) ∧ (∃ lb', (lb'.drop a).take (Hea.encL b.blk).length = Hea.encL b.blk ∧ Wi w0 h n T E B lb' K W') ∧ Fr W.heap.size (blkM h) W W' := by
  obtain ⟨l, h1, h2⟩ := id d.ix
  have hlen := st_len h1.st
  have hat := lv_at h1.st hlv
  have hhi := lv_high hlv
  have he := enc_len hb
  have he2 : (Hea.encL b.blk).length ≤ 32 := by rw [he]; split <;> omega
  have hget := fun t => Mem.wr_get l (Hea.encL b.blk) a t (by omega)
  have hl' : (wrL l a (Hea.encL b.blk)).length = l.length := Arn.wrL_length _ _ _ (by omega)
  refine (st_putBk h1.st hlv hb).mono ?_
  rintro e W' ⟨rfl, hs, hf⟩
  refine ⟨rfl, ⟨_, Mem.wr_part l (Hea.encL b.blk) a (by omega), d.fr ⟨_, ⟨hs, h1.lv, fun x hx => (h1.bk x hx).same hl' (fun t q1 q2 => ?_), sls_same h1.sl hl' (fun t q1 q2 => ?_), h1.kin⟩, Nc.refl _⟩ d.ok hf⟩, hf⟩
  · have := lv_apart (h1.lv x hx) hlv (by rintro rfl; exact ha hx)
    rw [hget, if_neg (by omega)]
  · rw [hget, if_neg (by omega)]
theorem ok_upB (O : Ok 224 (hmB B) K) (hk : ∀ i, i < 224 → K i ≠ 0 → K i ≠ a) (b : Bk) : Ok 224 (hmB (upB B a b)) K :=
  ok_congr O (fun _ _ => rfl) (fun i hi h => by unfold hmB; rw [upB_ne _ _ (hk i hi h)])
/-- An entry is whole with its head. -/
theorem Wi.adopt (d : Wi w0 h n T E B lb K W) (ha : a ∉ E) (hlv : Lv 7 224 T a) (hb : b.Ok) (hn : b.node = false) (hp : (lb.drop a).take (Hea.encL b.blk).length = Hea.encL b.blk) : Wi w0 h n T (a :: E) (upB B a b) lb K W := by
  obtain ⟨l, h1, h2⟩ := id d.ix
  have hhi := lv_high hlv
  have he2 : (Hea.encL b.blk).length ≤ 32 := by rw [enc_len hb]; split <;> omega
  have hne : ∀ x ∈ E, x ≠ a := by rintro x hx rfl; exact ha hx
  refine ⟨⟨l, ⟨h1.st, fun x hx => ?_, fun x hx => ?_, h1.sl, fun i hi hk => List.mem_cons_of_mem _ (h1.kin i hi hk)⟩, h2⟩, ok_upB d.ok (fun i hi hk => hne _ (h1.kin i hi hk)) b, d.b, d.kk, d.lo, d.nn, d.n0, d.z⟩
  · rcases List.mem_cons.1 hx with rfl | hx
    · exact hlv
    · exact h1.lv x hx
  · rcases List.mem_cons.1 hx with rfl | hx
    · show BAt l x (upB B x b x)
      rw [upB_at]
      refine ⟨hb, ?_, .inr hn⟩
      rw [part_agree h2.len (fun t q1 q2 => h2.out t (by omega))]
      exact hp
    · show BAt l x (upB B a b x)
      rw [upB_ne _ _ (hne x hx)]
      exact h1.bk x hx
/-- A node's label is written. -/
theorem Wi.label (d : Wi w0 h n T E B lb K W) (ha : a ∉ E) (hlv : Lv 7 224 T a) (hb : b.Ok) (hn : b.node = true) (hp : (lb.drop a).take (Hea.encL b.blk).length = Hea.encL b.blk) {u : Value} (hu : Row .u8 W u b.lab) (hub : ∀ k, u.ownBlock = some k → ¬ blkM h k) :
    Calls Tryz.prog 56 #[pV h, .int .i64 ((a + 16 : Nat) : Int), u, .int .i64 5] W fun e W' => e = .returned (.bool true) ∧ (∃ lb', Wi w0 h n T (a :: E) (upB B a b) lb' K W') ∧ Fr W.heap.size (blkM h) W W' := by
  obtain ⟨l, h1, h2⟩ := id d.ix
  have hlen := st_len h1.st
  have hat := lv_at h1.st hlv
  have hhi := lv_high hlv
  have he := enc_len hb
  rw [hn, if_pos rfl] at he
  have h16 := hb.lab
  have hget := fun t => Mem.wr_get l b.lab (a + 16) t (by omega)
  have hl' : (wrL l (a + 16) b.lab).length = l.length := Arn.wrL_length _ _ _ (by omega)
  have hne : ∀ x ∈ E, x ≠ a := by rintro x hx rfl; exact ha hx
  refine (st_writeAt h1.st hlv (o := 16) (by omega) hu hub).mono ?_
  rintro e W' ⟨rfl, hs, hf⟩
  refine ⟨rfl, ⟨_, d.fr ⟨_, ⟨hs, fun x hx => ?_, fun x hx => ?_, sls_same h1.sl hl' (fun t q1 q2 => by rw [hget, if_neg (by omega)]), fun i hi hk => List.mem_cons_of_mem _ (h1.kin i hi hk)⟩, Nc.refl _⟩ (ok_upB d.ok (fun i hi hk => hne _ (h1.kin i hi hk)) b) hf⟩, hf⟩
  · rcases List.mem_cons.1 hx with rfl | hx
    · exact hlv
    · exact h1.lv x hx
  · rcases List.mem_cons.1 hx with rfl | hx
    · show BAt _ x (upB B x b x)
      rw [upB_at]
      refine ⟨hb, ?_, .inl (Mem.wr_part l b.lab (x + 16) (by omega))⟩
      rw [part_agree hl' (fun t q1 q2 => by rw [hget, if_neg (by omega)]), part_agree h2.len (fun t q1 q2 => h2.out t (by omega))]
      exact hp
    · show BAt _ x (upB B a b x)
      rw [upB_ne _ _ (hne x hx)]
      refine (h1.bk x hx).same hl' (fun t q1 q2 => ?_)
      have := lv_apart (h1.lv x hx) hlv (hne x hx)
      rw [hget, if_neg (by omega)]
end
end Go.Proofs.YtcpfnmphcndmjaaGreatDoor.Ind
