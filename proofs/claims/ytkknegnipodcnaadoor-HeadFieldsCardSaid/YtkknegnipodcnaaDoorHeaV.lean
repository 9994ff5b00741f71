/- The landed head: the fields of a header, in their order. -/
import Derived.Test.YtkknegnipodcnaaDoorHeaU
import Derived.Test.YtkknegnipodcnaaDoorWatA
import Derived.Test.YtkknegnipodcnaaDoorKit11
namespace Go.Proofs.YtkknegnipodcnaaDoor.Hea
open Go.RowKit Go.Shelf Num
set_option linter.unusedVariables false
attribute [local go_sem] Oper.semAt_some

def ordN : List Nat := [0, 1, 2, 3, 4, 5, 6, 7, 8, 9, 11, 10]
def hasF (t : Int) (f : Nat) : Bool := !((whF t f).1 == 0 && (whF t f).2 == 0)
/-- The fields of a header among the first p of the order. -/
def fl (t : Int) (p : Nat) : List Nat := (ordN.take p).filter (hasF t)
theorem ordN_at {p : Nat} (h : p < 12) : ordN[p]? = some (ordN.getD p 0) := by
  have all : ∀ p : Fin 12, ordN[p.val]? = some (ordN.getD p.val 0) := by decide
  exact all ⟨p, h⟩
theorem ordI_at {p : Nat} (h : p < 12) : ordI.getD p 0 = ((ordN.getD p 0 : Nat) : Int) := by
  have all : ∀ p : Fin 12, ordI.getD p.val 0 = ((ordN.getD p.val 0 : Nat) : Int) := by decide
  exact all ⟨p, h⟩
theorem ordN_lt {p : Nat} (h : p < 12) : ordN.getD p 0 < 12 := by
  have all : ∀ p : Fin 12, ordN.getD p.val 0 < 12 := by decide
  exact all ⟨p, h⟩
theorem fl_yes {t : Int} {p : Nat} (h : p < 12) (hh : hasF t (ordN.getD p 0) = true) : fl t (p + 1) = fl t p ++ [ordN.getD p 0] := by
  unfold fl
  rw [List.take_add_one, List.filter_append, ordN_at h, Option.toList_some, List.filter_cons, hh]
  simp
theorem fl_no {t : Int} {p : Nat} (h : p < 12) (hh : hasF t (ordN.getD p 0) = false) : fl t (p + 1) = fl t p := by
  unfold fl
  rw [List.take_add_one, List.filter_append, ordN_at h, Option.toList_some, List.filter_cons, hh]
  simp
theorem fl_less {t : Int} {p : Nat} (h : p < 12) (hh : hasF t (ordN.getD p 0) = true) : (fl t p).length < (fl t 12).length := by
  have h1 : (fl t (p + 1)).length ≤ (fl t 12).length := ((List.take_sublist (p + 1) ordN).filter _).length_le
  rw [fl_yes h hh] at h1
  simp at h1
  omega
theorem fl_len (t : Int) : (fl t 12).length ≤ 12 := Nat.le_trans (List.length_filter_le _ _) (by simp [ordN])

/-- A field of a header with this tag. -/
structure FT (t : Int) where
  f : Nat
  lt : f < 12
  has : hasF t f = true
/-- The fields of a header among the first p of the order. -/
def flT (t : Int) (p : Nat) : List (FT t) := (ordN.take p).filterMap fun f => if h : f < 12 ∧ hasF t f = true then some ⟨f, h.1, h.2⟩ else none
theorem flT_yes {t : Int} {p : Nat} (h : p < 12) {f : Nat} (hf : f = ordN.getD p 0) (hh : hasF t f = true) : ∃ h1 h2, flT t (p + 1) = flT t p ++ [⟨f, h1, h2⟩] := by
  subst hf
  refine ⟨ordN_lt h, hh, ?_⟩
  unfold flT
  rw [List.take_add_one, List.filterMap_append, ordN_at h, Option.toList_some, List.filterMap_cons_some (b := ⟨ordN.getD p 0, ordN_lt h, hh⟩) (by rw [dif_pos ⟨ordN_lt h, hh⟩])]
  rfl
theorem flT_no {t : Int} {p : Nat} (h : p < 12) (hh : hasF t (ordN.getD p 0) = false) : flT t (p + 1) = flT t p := by
  unfold flT
  rw [List.take_add_one, List.filterMap_append, ordN_at h, Option.toList_some, List.filterMap_cons_none (by rw [dif_neg (by rw [hh]; simp)])]
  simp
theorem flT_less {t : Int} {p : Nat} (h : p < 12) (hh : hasF t (ordN.getD p 0) = true) : (flT t p).length < (flT t 12).length := by
  have h1 : (flT t (p + 1)).length ≤ (flT t 12).length := ((List.take_sublist (p + 1) ordN).filterMap _).length_le
  obtain ⟨_, _, h2⟩ := flT_yes h rfl hh
  rw [h2] at h1
  simp at h1
  omega
theorem flT_map (t : Int) : (flT t 12).map FT.f = fl t 12 := by
  have : ∀ l : List Nat, (∀ f ∈ l, f < 12) → (l.filterMap fun f => if h : f < 12 ∧ hasF t f = true then some (⟨f, h.1, h.2⟩ : FT t) else none).map FT.f = l.filter (hasF t) := by
    intro l
    induction l with
    | nil => intro _; rfl
    | cons f l ih =>
      intro hl
      have ih := ih (fun g hg => hl g (by simp [hg]))
      have hf := hl f (by simp)
      by_cases h : hasF t f = true
      · rw [List.filterMap_cons_some (b := ⟨f, hf, h⟩) (by rw [dif_pos ⟨hf, h⟩]), List.filter_cons, if_pos h, List.map_cons, ih]
      · rw [List.filterMap_cons_none (by rw [dif_neg (fun e => h e.2)]), List.filter_cons, if_neg h, ih]
  exact this _ (by decide)

/-- What a round that goes on keeps: the blocks of S. -/
def KpS (S : Nat → Prop) (W W' : World) : Prop := W.heap.size ≤ W'.heap.size ∧ ∀ k, S k → W'.heap[k]? = W.heap[k]?
theorem KpS.refl (S : Nat → Prop) (W : World) : KpS S W W := ⟨Nat.le_refl _, fun _ _ => rfl⟩
theorem KpS.trans {S : Nat → Prop} {A B C : World} (h : KpS S A B) (k : KpS S B C) : KpS S A C := ⟨Nat.le_trans h.1 k.1, fun i hi => (k.2 i hi).trans (h.2 i hi)⟩
theorem KpS.below {S : Nat → Prop} {W W' : World} (h : Below W.heap.size W W') (hS : ∀ k, S k → k < W.heap.size) : KpS S W W' := ⟨h.size, fun k hk => h.block k (hS k hk)⟩
theorem KpS.setCell {S : Nat → Prop} {W W' : World} (h : KpS S W W') {p : Addr} (hp : ¬ S p.block) (v : Value) : KpS S W (W'.setCell p v) :=
  ⟨by simpa using h.1, fun k hk => (Below.heap_setCell _ _ _ _ (by rintro rfl; exact hp hk)).trans (h.2 k hk)⟩
theorem KpS.alloc {S : Nat → Prop} {W W' : World} (h : KpS S W W') (hS : ∀ k, S k → k < W'.heap.size) (o : Obj) : KpS S W (W'.alloc o) :=
  ⟨Nat.le_trans h.1 (by simp), fun k hk => (Below.heap_alloc _ _ _ (hS k hk)).trans (h.2 k hk)⟩
theorem KpS.fr {S T : Nat → Prop} {N : Nat} {W W' : World} (h : Fr N T W W') (hS : ∀ k, S k → k < N ∧ ¬ T k) : KpS S W W' := ⟨h.size, fun k hk => h.block k (hS k hk).1 (hS k hk).2⟩
theorem KpS.put {S : Nat → Prop} {n : Nat} (hS : ∀ k, S k → k < n) (W : World) (l : Nat) (o o' : Obj) (hl : n ≤ l) (h : W.heap[l]? = some o) (_ : o.isCells = false) (_ : o.isWalk = false) : KpS S W (W.putObj l o') :=
  ⟨by simp, fun k hk => World.putObj_heap_other (by have := hS k hk; omega)⟩
/-- What the fields lean on: the tag's box, the two tables. -/
def SF (Bn k : Nat) : Prop := k = Bn ∨ k = 0 ∨ k = 1
theorem tabIs_block {name : String} {k : IntKind} {zs : List Int} {g : Nat} {W W' : World} (hg : Tryd.prog.globalNamed name = some g) (hb : W'.heap[g]? = W.heap[g]?) (h : Lib.TabIs Tryd.prog W name k zs) : Lib.TabIs Tryd.prog W' name k zs := by
  unfold Lib.TabIs World.var? at h ⊢
  obtain ⟨g', hg', hc⟩ := Option.bind_eq_some_iff.1 h
  obtain rfl := Option.some.inj (hg.symm.trans hg')
  rw [hg', Option.bind_some, hb]
  exact hc
theorem Tab.keepS {Bn : Nat} {W W' : World} (hk : KpS (SF Bn) W W') (h : Tab W) : Tab W' := by
  refine ⟨tabIs_block (g := 0) (by kernel_rfl) (hk.2 _ (.inr (.inl rfl))) h.ord, fun p q hp hq => ?_⟩
  have hb := hk.2 _ (.inr (.inr rfl))
  have := h.pl p q hp hq
  simp only [World.cell?, hb]
  simpa only [World.cell?] using this
theorem Tab.lt {W : World} (h : Tab W) : 0 < W.heap.size ∧ 1 < W.heap.size := by
  have lt : ∀ {b o : Nat} {v : Value}, W.cell? ⟨b, o, none⟩ = some v → b < W.heap.size := fun {b o v} hc => by
    rcases Nat.lt_or_ge b W.heap.size with h1 | h1
    · exact h1
    · rw [World.cell?, Array.getElem?_eq_none h1] at hc
      simp at hc
  exact ⟨lt (h.at 0 (by omega)), lt (h.pl 0 0 (by omega) (by omega)).1⟩
theorem SF.lt {Bn : Nat} {W : World} (h : Tab W) (hB : Bn < W.heap.size) : ∀ k, SF Bn k → k < W.heap.size := by
  rintro k (rfl | rfl | rfl)
  · exact hB
  · exact h.lt.1
  · exact h.lt.2

def ordV : Value := .agg #[.int .i64 0, .int .i64 1, .int .i64 2, .int .i64 3, .int .i64 4, .int .i64 5, .int .i64 6, .int .i64 7, .int .i64 8, .int .i64 9, .int .i64 11, .int .i64 10]
theorem index_ord {p : Nat} (hp : p < 12) (w : World) : (Instr.index 94 (.agg #[.int .i64 0, .int .i64 1, .int .i64 2, .int .i64 3, .int .i64 4, .int .i64 5, .int .i64 6, .int .i64 7, .int .i64 8, .int .i64 9, .int .i64 11, .int .i64 10]) (.int .i64 (p : Int))).run Tryd.prog w = .ok (.int .i64 ((ordN.getD p 0 : Nat) : Int)) w := by
  rcases (show p = 0 ∨ p = 1 ∨ p = 2 ∨ p = 3 ∨ p = 4 ∨ p = 5 ∨ p = 6 ∨ p = 7 ∨ p = 8 ∨ p = 9 ∨ p = 10 ∨ p = 11 by omega) with rfl | rfl | rfl | rfl | rfl | rfl | rfl | rfl | rfl | rfl | rfl | rfl <;> kernel_rfl
theorem eq_place (a b x y : Int) (w : World) : (Op.equalIn 10000 72 (.agg #[.int .i64 a, .int .i64 b]) (.agg #[.int .i64 x, .int .i64 y])).run Tryd.prog w = .ok (a == x && b == y) w := by
  have u3 := Tryd.underlying3
  have a3 := Tryd.isAgg3
  have z3 := Tryd.sizeOf3
  rw [show (10000 : Nat) = 9999 + 1 from rfl, run_equalIn_array 9999 72 3 1 2 _ _ Tryd.underlying72 z3]
  simp only [List.range'_succ, List.range'_zero, eqElems]
  go_simp
  by_cases h1 : a = x <;> by_cases h2 : b = y <;> simp [h1, h2]

set_option maxRecDepth 100000 in
set_option maxHeartbeats 4000000 in
theorem fields1_in (n : Nat) (hn : 1 ≤ n) (l Bn : Nat) (t : Int) (J Jx : List (FT t) → World → Prop)
    (hJ : ∀ s W W', J s W → Below W.heap.size W W' → J s W')
    (hY : ∀ pre (f : FT t) W, J pre W → pre.length < (flT t 12).length → YieldAt Fence.wide (n - 1) Tryd.prog l #[.int .i64 (f.f : Int)] W fun e W' =>
      (e = .returned (.bool true) ∧ J (pre ++ [f]) W' ∧ KpS (SF Bn) W W') ∨ (e = .returned (.bool false) ∧ Jx (pre ++ [f]) W'))
    (W : World) (hBn : W.cell? ⟨Bn, 0, none⟩ = some (.int .i64 t)) (hBs : Bn < W.heap.size) (htb : Tab W) (h0 : J [] W) :
    CallsIn Fence.wide n Tryd.prog 52 #[.func (.yield l) #[] #[], .pointer (some ⟨Bn, 0, none⟩)] W fun e W' => (∃ v, e = .returned v) ∧
      ((∃ ys, ys = flT t 12 ∧ J ys W') ∨ (∃ pre, (∃ p, p ≤ 12 ∧ pre = flT t p) ∧ Jx pre W')) := by
  have HY := Lib.hid hY
  have HJ0 := Lib.hid hJ
  have HTB := Lib.hid htb
  have HBs := Lib.hid hBs
  have H0 := Lib.hid h0
  have HBn := Lib.hid hBn
  have o0 := htb.at 0 (by omega)
  have o1 := htb.at 1 (by omega)
  have o2 := htb.at 2 (by omega)
  have o3 := htb.at 3 (by omega)
  have o4 := htb.at 4 (by omega)
  have o5 := htb.at 5 (by omega)
  have o6 := htb.at 6 (by omega)
  have o7 := htb.at 7 (by omega)
  have o8 := htb.at 8 (by omega)
  have o9 := htb.at 9 (by omega)
  have o10 := htb.at 10 (by omega)
  have o11 := htb.at 11 (by omega)
  simp only [ordI, List.getD_cons_zero, List.getD_cons_succ] at o0 o1 o2 o3 o4 o5 o6 o7 o8 o9 o10 o11
  clear hY hJ htb hBs h0 hBn
  refine callsIn_of_wp Tryd.func52 rfl trivial ?_ rfl
  simp only [Tryd.ntmps52, List.size_toArray, List.length_cons, List.length_nil, Nat.reduceAdd, Nat.reduceSub, Array.replicate_succ, Array.replicate_zero, List.push_toArray, List.append_toArray, List.nil_append, List.cons_append]
  gi_wp2
  clear o0 o1 o2 o3 o4 o5 o6 o7 o8 o9 o10 o11
  gi_loopw [6] (fun i wr => ∃ p : Nat, p ≤ 12 ∧ i = .int .i64 p ∧ Hid (J (flT t p) wr) ∧ Hid (KpS (SF Bn) W wr)) (fun i _ => 12 - (intOf i).toNat)
  case atStart => exact ⟨0, Nat.zero_le _, rfl, H0.out, KpS.refl _ _⟩
  case round =>
    obtain ⟨p, hp, rfl, HJ, HKp⟩ := hrel
    by_cases hlt : p < 12
    · have hlt1 : (p : Int) < 12 := by omega
      have hlt0 : (0 : Int) ≤ (p : Int) := by omega
      have hix := fun u => index_ord hlt u
      obtain ⟨f, hf⟩ : ∃ f : Nat, f = ordN.getD p 0 := ⟨_, rfl⟩
      rw [← hf] at hix
      have HF := Lib.hid hf
      have hBlk : wr.heap[Bn]? = W.heap[Bn]? := HKp.out.2 Bn (.inl rfl)
      have hbn : wr.cell? ⟨Bn, 0, none⟩ = some (.int .i64 t) := by
        have := HBn.out
        simp only [World.cell?, hBlk] at this ⊢
        exact this
      have HT := Lib.hid (HTB.out.keepS HKp.out)
      have HSl := Lib.hid (SF.lt HT.out (Nat.lt_of_lt_of_le HBs.out HKp.out.1))
      have HPl := Lib.hid (placeOf_any t f wr HT.out)
      clear hBlk hf
      by_cases hh : hasF t f = true
      · obtain ⟨k1, k2, hfy⟩ := flT_yes hlt HF.out hh
        have hfl := flT_less hlt (by rw [← HF.out]; exact hh)
        have HFy := Lib.hid hfy
        have hne : ((whF t f).1 == 0 && (whF t f).2 == 0) = false := by unfold hasF at hh; simpa only [Bool.not_eq_true'] using hh
        obtain ⟨x, y, hxy⟩ : ∃ x y, whF t f = (x, y) := ⟨_, _, rfl⟩
        rw [hxy] at HPl hne
        have heq : ∀ W, (Op.equalIn 10000 72 (.agg #[.int .i64 x, .int .i64 y]) (.agg #[.int .i64 0, .int .i64 0])).run Tryd.prog W = .ok false W := fun W => by rw [eq_place]; exact congrArg (Result.ok · W) hne
        have HYy := Lib.hid (fun W' (hb : Below wr.heap.size wr W') => HY.out (flT t p) ⟨f, k1, k2⟩ W' (HJ0.out _ _ _ HJ.out hb) hfl)
        clear hfy hfl hne hxy hh
        gi_wp2_with (refine ⟨trivial, ?_⟩; gi_at_call 36; refine (callsIn_wide.2 HPl.out).mono ?_; rintro e w1 ⟨rfl, hb1⟩; obtain ⟨fn, tmps, assign, body, hyy, hR⟩ := HYy.out _ hb1)
        refine hR.mono ?_
        rintro e W3 (⟨rfl, hJ3, hk3⟩ | ⟨rfl, hJx3⟩)
        · have HB3 := Lib.hid (HKp.out.trans ((KpS.below hb1 HSl.out).trans hk3))
          have HJ3 := Lib.hid hJ3
          clear hJ3 hk3 hR hyy hb1
          gi_wp2
          go_roundw
          case rel => exact ⟨p + 1, by omega, by go_num, by rw [HFy.out]; exact HJ3.out, HB3.out⟩
          case measure => simp [intOf]; omega
        · clear hR hyy
          gi_wp2
          refine bodyPost_ret (results_none rfl _ _ _) rfl ?_
          exact ⟨⟨_, rfl⟩, .inr ⟨flT t p ++ [⟨f, k1, k2⟩], ⟨p + 1, by omega, HFy.out.symm⟩, hJx3⟩⟩
      · have hh' : hasF t f = false := by simpa using hh
        have hfn := flT_no hlt (by rw [← HF.out]; exact hh')
        have HFn := Lib.hid hfn
        have hne : ((whF t f).1 == 0 && (whF t f).2 == 0) = true := by unfold hasF at hh'; simpa only [Bool.not_eq_false'] using hh'
        obtain ⟨x, y, hxy⟩ : ∃ x y, whF t f = (x, y) := ⟨_, _, rfl⟩
        rw [hxy] at HPl hne
        have heq : ∀ W, (Op.equalIn 10000 72 (.agg #[.int .i64 x, .int .i64 y]) (.agg #[.int .i64 0, .int .i64 0])).run Tryd.prog W = .ok true W := fun W => by rw [eq_place]; exact congrArg (Result.ok · W) hne
        clear hfn hne hxy hh hh'
        gi_wp2_with (refine ⟨trivial, ?_⟩; gi_at_call 36; refine (callsIn_wide.2 HPl.out).mono ?_; rintro e w1 ⟨rfl, hb1⟩; have HB3 := Lib.hid (HKp.out.trans (KpS.below hb1 HSl.out)); have HJ3 := Lib.hid (HJ0.out _ _ _ HJ.out hb1); clear hb1)
        refine ⟨fun _ h => (by cases h), ?_⟩
        gi_wp2
        go_roundw
        case rel => exact ⟨p + 1, by omega, by go_num, by rw [HFn.out]; exact HJ3.out, HB3.out⟩
        case measure => simp [intOf]; omega
    · obtain rfl : p = 12 := by omega
      gi_wp2
      go_end0
      exact ⟨⟨_, rfl⟩, .inl ⟨_, rfl, HJ.out⟩⟩

theorem below_grown {A B : World} {row : Option Nat} (h : A.grownBy B row) (hr : row = none) : Below A.heap.size A B := by
  subst hr
  exact ⟨h.os, h.tape, h.output, h.size, fun k hk => h.block k hk (by simp)⟩
theorem grown_below {A B : World} (h : Below A.heap.size A B) : A.grownBy B none := ⟨h.os, h.tape, h.output, h.size, fun k hk _ => h.block k hk⟩
/-- The function that fields hands back, as whoever ranges over it may see it. -/
theorem fields_stops (n : Nat) (hn : 1 ≤ n) (Bn : Nat) (t : Int) (w : World) (hBs : Bn < w.heap.size) (hBn : w.cell? ⟨Bn, 0, none⟩ = some (.int .i64 t)) (htb : Tab w) :
    SeqStopsK Fence.wide n Tryd.prog 52 #[.pointer (some ⟨Bn, 0, none⟩)] (fun f : FT t => #[.int .i64 (f.f : Int)]) (KpS (SF Bn)) (fun ys => ys = flT t 12) (fun pre => ∃ p, p ≤ 12 ∧ pre = flT t p) (flT t 12).length w :=
  fun l J Jx W hW hJ _ hY h0 => fields1_in n hn l Bn t J Jx (fun s A B hs hb => hJ s A B none hs (grown_below hb) (fun r e => by cases e)) hY W ((hW.cell (p := ⟨Bn, 0, none⟩) hBs).trans hBn) (Nat.lt_of_lt_of_le hBs hW.size) (htb.keep hW) h0
theorem fields_any (t : Int) (w : World) : Calls Tryd.prog 27 #[.int .i64 t] w fun e w' => e = .returned (.func (.func 52) #[] #[.pointer (some ⟨w.heap.size, 0, none⟩)]) ∧ w' = w.alloc (.cells #[.int .i64 t] 3) := by
  go_enter Tryd.func27, Tryd.ntmps27
  go_wp2
  go_ret
  exact ⟨rfl, rfl⟩
end Go.Proofs.YtkknegnipodcnaaDoor.Hea
