/- Contract of wire's Put; the map of suffixes as it is read. -/
import Derived.Test.YtjhmjimfehanbaaWireR
import Derived.Maps.OwnSet
namespace Go.Proofs.Ytjhmjimfehanbaa.Wire
open Go.RowKit Fold Name
set_option linter.unusedVariables false

/-- A name's bytes but for the last one. -/
def putP : List ByteArray → List Int
  | [] => []
  | s :: l => (s.size : Int) :: bs (lowS s) ++ putP l
theorem putL_eq (l : List ByteArray) : putL l = putP l ++ [0] := by
  induction l with
  | nil => rfl
  | cons s l ih => simp [putL, putP, ih]
theorem putP_append (a b : List ByteArray) : putP (a ++ b) = putP a ++ putP b := by
  induction a with
  | nil => rfl
  | cons s l ih => simp [putP, ih]
theorem putP_length (l : List ByteArray) : (putP l).length + 1 = wire l := by
  have := putL_length l
  rw [putL_eq, List.length_append, List.length_singleton] at this
  exact this
theorem putP_take_succ (l : List ByteArray) (k : Nat) (h : k < l.length) : putP (l.take (k + 1)) = putP (l.take k) ++ [((l.getD k ByteArray.empty).size : Int)] ++ bs (lowS (l.getD k ByteArray.empty)) := by
  have e : l.getD k ByteArray.empty = l[k] := by simp [List.getD, h]
  rw [List.take_succ_eq_append_getElem h, putP_append, e]
  simp [putP]
theorem allLab_get {l : List ByteArray} (h : allLab l = true) (k : Nat) (hk : k < l.length) : labS (l.getD k ByteArray.empty) = 0 := by
  have e : l.getD k ByteArray.empty = l[k] := by simp [List.getD, hk]
  unfold allLab at h
  rw [List.all_eq_true] at h
  rw [e]
  simpa using h _ (List.getElem_mem hk)
theorem madeU1 (w : World) (x : Int) (h1 : 0 ≤ x) (h2 : x < 256) : Row .u8 (w.alloc (.cells #[.int .u8 x] 5)) (.slice (some ⟨w.heap.size, 0, none⟩) 1 1) [x] :=
  Row.made w [x] 5 _ rfl (fun i hi => by
    match i, hi with
    | 0, _ => exact WalkArith.wf_u8 (show 0 ≤ x ∧ x ≤ 255 by omega)) (by simp)
theorem madeU2 (w : World) (x y : Int) (h1 : 0 ≤ x) (h2 : x < 256) (h3 : 0 ≤ y) (h4 : y < 256) : Row .u8 (w.alloc (.cells #[.int .u8 x, .int .u8 y] 5)) (.slice (some ⟨w.heap.size, 0, none⟩) 2 2) [x, y] :=
  Row.made w [x, y] 5 _ rfl (fun i hi => by
    match i, hi with
    | 0, _ => exact WalkArith.wf_u8 (show 0 ≤ x ∧ x ≤ 255 by omega)
    | 1, _ => exact WalkArith.wf_u8 (show 0 ≤ y ∧ y ≤ 255 by omega)) (by simp)
theorem bs_mem (s : ByteArray) : ∀ x ∈ bs s, 0 ≤ x ∧ x < 256 := by
  intro x hx
  unfold bs at hx
  simp only [List.mem_map] at hx
  obtain ⟨c, -, rfl⟩ := hx
  have := c.toNat_lt
  omega
theorem putL_mem {l : List ByteArray} (h : allLab l = true) : ∀ x ∈ putL l, 0 ≤ x ∧ x < 256 := by
  induction l with
  | nil => intro x hx; simp [putL] at hx; omega
  | cons s l ih =>
    have hh : labS s = 0 ∧ allLab l = true := by
      unfold allLab at h ⊢
      simp only [List.all_cons, Bool.and_eq_true, beq_iff_eq] at h
      exact h
    have hz := labS_size hh.1
    intro x hx
    simp only [putL, List.cons_append, List.mem_cons, List.mem_append] at hx
    rcases hx with rfl | hx | hx
    · omega
    · exact bs_mem _ x hx
    · exact ih hh.2 x hx
theorem getD_mem {l : List Int} (h : ∀ x ∈ l, 0 ≤ x ∧ x < 256) (i : Nat) : 0 ≤ l.getD i 0 ∧ l.getD i 0 < 256 := by
  by_cases hi : i < l.length
  · have e : l.getD i 0 = l[i] := by simp [List.getD, hi]
    rw [e]
    exact h _ (List.getElem_mem hi)
  · simp [List.getD, List.getElem?_eq_none (show l.length ≤ i by omega)]
theorem putL_bd {l : List ByteArray} (h : allLab l = true) (i : Nat) : 0 ≤ (putL l).getD i 0 ∧ (putL l).getD i 0 < 256 := getD_mem (putL_mem h) i
theorem putL_inj {l m : List ByteArray} (hl : allLab l = true) (hm : allLab m = true) (h : putL l = putL m) : l.map lowS = m.map lowS := by
  induction l generalizing m with
  | nil =>
    cases m with
    | nil => rfl
    | cons t m =>
      have hz := labS_size (s := t) (by unfold allLab at hm; simp only [List.all_cons, Bool.and_eq_true, beq_iff_eq] at hm; exact hm.1)
      simp [putL] at h
      omega
  | cons s l ih =>
    have hs : labS s = 0 ∧ allLab l = true := by unfold allLab at hl ⊢; simp only [List.all_cons, Bool.and_eq_true, beq_iff_eq] at hl; exact hl
    have hz := labS_size hs.1
    cases m with
    | nil =>
      have e : (s.size : Int) = 0 := by
        have := congrArg (fun L => L.getD 0 0) h
        exact this
      omega
    | cons t m =>
      have ht : labS t = 0 ∧ allLab m = true := by unfold allLab at hm ⊢; simp only [List.all_cons, Bool.and_eq_true, beq_iff_eq] at hm; exact hm
      simp only [putL, List.cons_append, List.cons.injEq] at h
      obtain ⟨h1, h2⟩ := h
      have h3 := List.append_inj h2 (by rw [bs_length, bs_length, lowS_size, lowS_size]; omega)
      rw [List.map_cons, List.map_cons, bs_inj h3.1, ih hs.2 ht.2 h3.2]

/-- A suffix's bytes as a text: the key under which it is laid. -/
def keyS (l : List ByteArray) : ByteArray := strOfNums (putL l)
theorem bs_keyS {l : List ByteArray} (h : allLab l = true) : bs (keyS l) = putL l := bs_strOfNums _ (putL_bd h)
theorem keyS_size (l : List ByteArray) : (keyS l).size = wire l := by rw [keyS, strOfNums_size, putL_length]
theorem keyS_inj {l m : List ByteArray} (hl : allLab l = true) (hm : allLab m = true) (h : keyS l = keyS m) : l.map lowS = m.map lowS :=
  putL_inj hl hm (by rw [← bs_keyS hl, ← bs_keyS hm, h])
theorem keyS_low {l m : List ByteArray} (h : l.map lowS = m.map lowS) : keyS l = keyS m := by
  have e : ∀ l : List ByteArray, putL l = putL (l.map lowS) := by
    intro l
    induction l with
    | nil => rfl
    | cons s l ih => simp only [putL, List.map_cons, lowS_size, lowS_lowS, ← ih]
  rw [keyS, keyS, e l, e m, h]
def klS (l : List ByteArray) : Lit := .string (keyS l).data.toList
theorem klS_key (l : List ByteArray) : WideAt.IsKeyLit (klS l) := by unfold klS; trivial
theorem klS_eq {l m : List ByteArray} (h : klS l = klS m) : keyS l = keyS m := by
  unfold klS at h
  injection h with h
  exact WideShapes.bytes_inj h
theorem fnd_snoc (t : List (List ByteArray × Nat)) (x : List ByteArray) (p : Nat) (l : List ByteArray) : fnd (t ++ [(x, p)]) l = match fnd t l with | some q => some q | none => if x = l then some p else none := by
  induction t with
  | nil => simp [fnd]
  | cons y t ih =>
    obtain ⟨y, q⟩ := y
    simp only [List.cons_append, fnd]
    split
    · rfl
    · exact ih
/-- The map holds just the suffixes that were laid, each at its place. -/
def MapOk (D : DataW Unit) (t : List (List ByteArray × Nat)) : Prop :=
  Maps.IsMap D ∧ ∀ l, allLab l = true → (∀ p, fnd t (l.map lowS) = some p → Maps.has D (klS l) = true ∧ D.atKey (klS l) (.lit (.int .i64 0)) = .lit (.int .i64 p)) ∧ (fnd t (l.map lowS) = none → Maps.has D (klS l) = false)
theorem MapOk.nil : MapOk (.map []) [] := ⟨Maps.isMap_empty, fun l _ => ⟨fun p h => by simp [fnd] at h, fun _ => rfl⟩⟩
theorem MapOk.put {D : DataW Unit} {t : List (List ByteArray × Nat)} {l0 : List ByteArray} {n : Nat} (h : MapOk D t) (h0 : allLab l0 = true) (hn : fnd t (l0.map lowS) = none) : MapOk (D.put (klS l0) (.lit (.int .i64 (n : Int)))) (t ++ [(l0.map lowS, n)]) := by
  refine ⟨h.1.put _ _, fun l hl => ?_⟩
  obtain ⟨h1, h2⟩ := h.2 l hl
  by_cases e : l0.map lowS = l.map lowS
  · have ek : klS l = klS l0 := by unfold klS; rw [keyS_low e]
    rw [fnd_snoc, ← e, hn, ek]
    refine ⟨fun p hp => ?_, fun hp => by simp at hp⟩
    simp at hp
    subst hp
    exact ⟨Maps.has_put_same h.1 (klS_key _) _, Maps.atKey_put_same h.1 (klS_key _) _ _⟩
  · have ek : klS l ≠ klS l0 := fun x => e (keyS_inj h0 hl (klS_eq x).symm)
    rw [fnd_snoc, Maps.has_put_other ek, Maps.atKey_put_other ek]
    refine ⟨fun p hp => h1 p ?_, fun hp => h2 ?_⟩
    · split at hp
      · rename_i q hq; rw [hq]; exact hp
      · simp [e] at hp
    · split at hp
      · simp at hp
      · rename_i hq; exact hq

/-- What Put answers: new memory. -/
def PutNew (w : World) (l : List ByteArray) (e : Ending) (w' : World) : Prop :=
  ∃ u, e = .returned (.tuple #[u, .int .i64 (chk l)]) ∧ Below w.heap.size w w' ∧ Row .u8 w' u (putB l) ∧ ∀ k, u.ownBlock = some k → w.heap.size ≤ k
theorem putGot_no {w w' : World} {l : List ByteArray} (h : ¬ chk l = 0) (hb : Below w.heap.size w w') : PutNew w l (.returned (.tuple #[.slice none 0 0, .int .i64 (chk l)])) w' := by
  refine ⟨_, rfl, hb, ?_, fun k hk => by simp [Value.ownBlock] at hk⟩
  rw [putB, if_neg h]
  exact Row.nil _ _
theorem putGot_yes {w w' : World} {l : List ByteArray} {u : Value} (h : chk l = 0) (hb : Below w.heap.size w w') (hu : Row .u8 w' u (putP l ++ [0])) (hk : ∀ k, u.ownBlock = some k → w.heap.size ≤ k) : PutNew w l (.returned (.tuple #[u, .int .i64 0])) w' := by
  refine ⟨u, by rw [h], hb, ?_, hk⟩
  rw [putB, if_pos h, putL_eq]
  exact hu

set_option maxRecDepth 100000 in
theorem put_new (v : Value) (l : List ByteArray) (w : World) (hr : SRow w v l) (hw : wire l ≤ 1000000) : Calls Try.prog 16 #[v] w (PutNew w l) := by
  have HC := Lib.hid (check_any v l w hr (by omega))
  have HR := Lib.hid hr
  by_cases hc : chk l = 0
  · obtain ⟨ha, hwl⟩ := chk_zero hc
    have HE : Hid (∀ w' u, Below w.heap.size w w' → Row .u8 w' u (putP l ++ [0]) → (∀ k, u.ownBlock = some k → w.heap.size ≤ k) → PutNew w l (.returned (.tuple #[u, .int .i64 0])) w') := fun _ _ => putGot_yes hc
    rw [hc] at HC
    have HA := Lib.hid ha
    obtain ⟨ad, cap, rfl, q2, q3, q4, q5⟩ := hr
    have HC2 := Lib.hid q5
    have hlw := putP_length l
    have HL := Lib.hid hlw
    clear q4 q5 hc ha hlw
    go_enter Try.func16, Try.ntmps16
    go_wp2_with fail
    refine HC.out.mono ?_
    rintro e w1 ⟨rfl, hb1⟩
    go_wp2
    go_loopw [5, 15] (fun u i wr => ∃ k : Nat, k ≤ l.length ∧ i = .int .i64 k ∧ Hid (wr.ownsRow w.heap.size 5 1 u (putP (l.take k)).length (vals (putP (l.take k)))) ∧ Below w.heap.size w wr) (fun _ i _ => l.length - (intOf i).toNat)
    case atStart => exact ⟨0, Nat.zero_le _, rfl, by simpa [putP, vals, Hid] using World.ownsRow_nil _ _ _ _, hb1⟩
    case round =>
      obtain ⟨k, hk, rfl, HO, hbel⟩ := hrel
      have hsz := hbel.size
      clear hb1
      by_cases hlt : k < l.length
      · have hlt1 : (k : Int) < (l.length : Int) := by omega
        obtain ⟨b, off, rfl, hlb, hcc⟩ := HC2.out (by rintro rfl; simp at hlt)
        have hcell := (hbel.cell (p := ⟨b, off + k, none⟩) hlb).trans (hcc k hlt)
        have HPT := Lib.hid (putP_take_succ l k hlt)
        have hz := labS_size (allLab_get HA.out k hlt)
        have hpl := putP_length (l.take (k + 1))
        have hwt := wire_take_le l (k + 1)
        rw [HPT.out] at hpl
        obtain ⟨s, hs⟩ : ∃ s, s = l.getD k ByteArray.empty := ⟨_, rfl⟩
        rw [← hs] at hcell hz hpl HPT
        simp only [List.length_append, List.length_singleton, bs_length, lowS_size] at hpl
        have hs256 : (s.size : Int) < 256 := by omega
        have HLow := Lib.hid (fun u => lower_any s u (by omega))
        have hxs := lowS_size s
        obtain ⟨X, hX⟩ : ∃ X, X = lowS s := ⟨_, rfl⟩
        rw [← hX] at HLow HPT hxs
        obtain ⟨P0, hP0⟩ : ∃ P0, P0 = putP (l.take k) := ⟨_, rfl⟩
        rw [← hP0] at HO HPT hpl
        have hp0 : P0.length ≤ 300 := by omega
        have HM := Lib.hid (madeU1 wr (s.size : Int) (by omega) hs256)
        have hX63 : X.size ≤ 63 := by omega
        clear hcc hs hX hP0 hpl hwt
        go_wp2_with fail
        refine (with_any w.heap.size _ _ P0 _ _ (HO.out.alloc _) HM.out (by simp; omega) (le_alloc _ hsz)).mono ?_
        rintro e w2 ⟨v2, rfl, hown2, hg2, -⟩
        have hb2 := (hbel.alloc hsz _).grown hg2 (le_alloc _ hsz) (fun r hr => (HO.out.lt r hr).1)
        have HO2 := Lib.hid hown2
        have hsz2 := hb2.size
        clear hown2 hg2 HO HM
        go_wp2_with fail
        refine (HLow.out _).mono ?_
        rintro e w3 ⟨rfl, hb3⟩
        have HO3 := Lib.hid (ownsRow_stays HO2.out hb3)
        have hb3' := hb2.trans (hb3.mono hsz2)
        have hsz3 := hb3'.size
        obtain ⟨v4, W, hconv, hbel4, hsz4, hrow, -⟩ := bytes_row (P := Try.prog) w3 9 22 5 X Try.underlying9 Try.underlying22 Try.underlying5 (by omega)
        have HO4 := Lib.hid (ownsRow_stays HO3.out hbel4)
        have HX4 := Lib.hid hrow
        have hb4 := hb3'.trans (hbel4.mono hsz3)
        have hsz4' := hb4.size
        clear hrow hbel4 hsz4 hb3 hb3' HO2 HO3
        go_wp2_with fail
        refine (with_any w.heap.size _ _ _ _ _ HO4.out HX4.out (by rw [bs_length]; simp; omega) hsz4').mono ?_
        rintro e w5 ⟨v5, rfl, hown5, hg5, -⟩
        have hb5 := hb4.grown hg5 hsz4' (fun r hr => (HO4.out.lt r hr).1)
        have HO5 : Hid (w5.ownsRow w.heap.size 5 1 v5 (putP (l.take (k + 1))).length (vals (putP (l.take (k + 1))))) := by
          unfold Hid
          rw [HPT.out]
          exact hown5
        clear hown5 hg5
        go_wp2
        go_roundw
        case rel => exact ⟨k + 1, by omega, by go_num, HO5, hb5⟩
        case measure => simp [intOf]; omega
      · obtain rfl : k = l.length := by omega
        have HO1 := HO.out
        rw [List.take_length] at HO1
        have HO2 := Lib.hid HO1
        have HM := Lib.hid (madeU1 wr 0 (by omega) (by omega))
        have hp0 : (putP l).length ≤ 300 := by have := HL.out; omega
        have HPM : Hid (∀ i, 0 ≤ (putP l ++ [0]).getD i 0 ∧ (putP l ++ [0]).getD i 0 < 256) := by
          unfold Hid
          rw [← putL_eq]
          exact putL_bd HA.out
        obtain ⟨P0, hP0⟩ : ∃ P0, P0 = putP l := ⟨_, rfl⟩
        rw [← hP0] at HO2 hp0 HE HPM
        clear HO1 hP0 HO HL
        go_wp2_with fail
        refine (with_any w.heap.size _ _ P0 _ _ (HO2.out.alloc _) HM.out (by simp; omega) (le_alloc _ hsz)).mono ?_
        rintro e w2 ⟨v2, rfl, hown2, hg2, -⟩
        have hb2 := (hbel.alloc hsz _).grown hg2 (le_alloc _ hsz) (fun r hr => (HO2.out.lt r hr).1)
        have HR2 := Lib.hid (row_of_owns hown2 rfl HPM.out)
        have HK2 := Lib.hid (fun r hr => (hown2.lt r hr).1)
        clear hown2 hg2
        go_wp2
        go_ret2
        exact HE.out _ _ hb2 HR2.out HK2.out
  · have HE : Hid (∀ w', Below w.heap.size w w' → PutNew w l (.returned (.tuple #[.slice none 0 0, .int .i64 (chk l)])) w') := fun _ => putGot_no hc
    have hc2 : (chk l != 0) = true := by simpa using hc
    generalize chk l = c at HC HE hc2
    clear hc hr
    go_enter Try.func16, Try.ntmps16
    go_wp2_with fail
    refine HC.out.mono ?_
    rintro e w1 ⟨rfl, hb1⟩
    go_wp2
    go_ret2
    exact HE.out _ hb1
theorem put_any (v : Value) (l : List ByteArray) (w : World) (hr : SRow w v l) (hw : wire l ≤ 1000000) : Calls Try.prog 16 #[v] w (PutGot w l) :=
  (put_new v l w hr hw).mono fun _ _ ⟨u, h1, h2, h3, _⟩ => ⟨u, h1, h2, h3⟩
end Go.Proofs.Ytjhmjimfehanbaa.Wire
