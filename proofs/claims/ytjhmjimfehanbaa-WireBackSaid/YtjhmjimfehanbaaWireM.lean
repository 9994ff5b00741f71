/- Plain mathematics of names as bytes: what is read at a place, and what packed bytes are. -/
import Derived.Test.YtjhmjimfehanbaaNameM
namespace Go.Proofs.Ytjhmjimfehanbaa.Wire
open Go.RowKit Fold Name

/-- What is read from place at on, in a part that began at bg; nx: where the name ended, 0 if it isn't known yet; acc: the labels so far. -/
def getW (b : List Int) (at_ bg nx : Nat) (acc : List ByteArray) : List ByteArray × Nat × Int :=
  if at_ < b.length then
    if b.getD at_ 0 = 0 then (acc, if nx = 0 then at_ + 1 else nx, 0)
    else if 64 ≤ b.getD at_ 0 ∧ b.getD at_ 0 < 192 then ([], 0, 4)
    else if 192 ≤ b.getD at_ 0 then
      if at_ + 1 < b.length then
        if ((b.getD at_ 0 - 192) * 256 + b.getD (at_ + 1) 0).toNat < bg then
          getW b ((b.getD at_ 0 - 192) * 256 + b.getD (at_ + 1) 0).toNat ((b.getD at_ 0 - 192) * 256 + b.getD (at_ + 1) 0).toNat (if nx = 0 then at_ + 2 else nx) acc
        else ([], 0, 4)
      else ([], 0, 3)
    else if at_ + 1 + (b.getD at_ 0).toNat ≤ b.length then
      if labS (strOfNums ((b.drop (at_ + 1)).take (b.getD at_ 0).toNat)) = 0 then
        if 255 < wire (acc ++ [lowS (strOfNums ((b.drop (at_ + 1)).take (b.getD at_ 0).toNat))]) then ([], 0, 21)
        else getW b (at_ + 1 + (b.getD at_ 0).toNat) bg nx (acc ++ [lowS (strOfNums ((b.drop (at_ + 1)).take (b.getD at_ 0).toNat))])
      else ([], 0, 4)
    else ([], 0, 3)
  else ([], 0, 3)
termination_by (bg, b.length - at_)
decreasing_by
  all_goals simp_wf
  · exact Prod.Lex.left _ _ (by assumption)
  · exact Prod.Lex.right _ (by omega)

/-- Labels that stand at a place, in a part that began at bg, and where their part ends: each pointer leads to a part that ended ahead of where this one began. -/
inductive Enc (b : List Int) : Nat → Nat → List ByteArray → Nat → Prop
  | zero {bg at_ : Nat} (h : at_ < b.length) (h0 : b.getD at_ 0 = 0) : Enc b bg at_ [] (at_ + 1)
  | label {bg at_ e : Nat} {s : ByteArray} {l : List ByteArray} (hs : labS s = 0) (hl : lowS s = s) (h : at_ + 1 + s.size ≤ b.length) (h0 : b.getD at_ 0 = s.size) (hb : (b.drop (at_ + 1)).take s.size = bs s) (t : Enc b bg (at_ + 1 + s.size) l e) : Enc b bg at_ (s :: l) e
  | ptr {bg at_ to e : Nat} {l : List ByteArray} (h : at_ + 1 < b.length) (ht : to < bg) (h16 : to < 16384) (h0 : b.getD at_ 0 = 192 + (to : Int) / 256) (h1 : b.getD (at_ + 1) 0 = (to : Int) % 256) (he : e ≤ bg) (t : Enc b to to l e) : Enc b bg at_ l (at_ + 2)

theorem labS_size {s : ByteArray} (h : labS s = 0) : 1 ≤ s.size ∧ s.size ≤ 63 := by
  unfold labS lab at h
  rw [bs_length] at h
  split at h
  · rename_i g; exact ⟨g.1, g.2.1⟩
  · omega
theorem Enc.end_gt {b : List Int} {bg at_ e : Nat} {l : List ByteArray} (h : Enc b bg at_ l e) : at_ < e ∧ e ≤ b.length := by
  induction h with
  | zero h _ => omega
  | label hs _ h _ _ _ ih => omega
  | ptr h _ _ _ _ _ _ _ => omega
theorem Enc.mono {b : List Int} {bg bg' at_ e : Nat} {l : List ByteArray} (h : Enc b bg at_ l e) (hb : bg ≤ bg') : Enc b bg' at_ l e := by
  induction h with
  | zero h h0 => exact .zero h h0
  | label hs hl h h0 hb' _ ih => exact .label hs hl h h0 hb' (ih hb)
  | ptr h ht h16 h0 h1 he t _ => exact .ptr h (by omega) h16 h0 h1 (by omega) t
theorem getD_append_left (a c : List Int) (i : Nat) (h : i < a.length) : (a ++ c).getD i 0 = a.getD i 0 := by
  simp [List.getD, List.getElem?_append_left h]
theorem Enc.append {b : List Int} {bg at_ e : Nat} {l : List ByteArray} (h : Enc b bg at_ l e) (c : List Int) : Enc (b ++ c) bg at_ l e := by
  induction h with
  | zero h h0 => exact .zero (by rw [List.length_append]; omega) (by rw [getD_append_left _ _ _ h]; exact h0)
  | @label bg at_ e s l hs hl h h0 hb _ ih =>
    refine .label hs hl (by rw [List.length_append]; omega) (by rw [getD_append_left _ _ _ (by omega)]; exact h0) ?_ ih
    rw [List.drop_append_of_le_length (by omega), List.take_append_of_le_length (by rw [List.length_drop]; omega), hb]
  | ptr h ht h16 h0 h1 he _ ih =>
    exact .ptr (by rw [List.length_append]; omega) ht h16 (by rw [getD_append_left _ _ _ (by omega)]; exact h0) (by rw [getD_append_left _ _ _ h]; exact h1) he ih
theorem getD_take (a : List Int) (i k : Nat) (h : i < k) : (a.take k).getD i 0 = a.getD i 0 := by
  simp [List.getD, List.getElem?_take_of_lt h]
/-- What ends ahead of k stands there still if the bytes are cut at k. -/
theorem Enc.take {b : List Int} {bg at_ e : Nat} {l : List ByteArray} (h : Enc b bg at_ l e) (k : Nat) (hk : e ≤ k) (hbg : bg ≤ at_) : Enc (b.take k) bg at_ l e := by
  induction h with
  | zero h h0 => exact .zero (by rw [List.length_take]; omega) (by rw [getD_take _ _ _ (by omega)]; exact h0)
  | @label bg at_ e s l hs hl h h0 hb t ih =>
    have := t.end_gt
    refine .label hs hl (by rw [List.length_take]; omega) (by rw [getD_take _ _ _ (by omega)]; exact h0) ?_ (ih hk (by omega))
    rw [List.drop_take, List.take_take, show min s.size (k - (at_ + 1)) = s.size by omega, hb]
  | ptr h ht h16 h0 h1 he t ih =>
    exact .ptr (by rw [List.length_take]; omega) ht h16 (by rw [getD_take _ _ _ (by omega)]; exact h0) (by rw [getD_take _ _ _ (by omega)]; exact h1) he (ih (by omega) (Nat.le_refl _))

theorem wire_le_append (a b : List ByteArray) : wire a ≤ wire (a ++ b) := by
  have := wire_append a b
  have := wire_pos b
  omega
theorem ptr_to {to : Nat} {x y : Int} (h0 : x = 192 + (to : Int) / 256) (h1 : y = (to : Int) % 256) : ((x - 192) * 256 + y).toNat = to := by omega

/-- What stands there is read. -/
theorem getW_enc {b : List Int} {bg at_ e : Nat} {l : List ByteArray} (h : Enc b bg at_ l e) (nx : Nat) (acc : List ByteArray) (hw : wire (acc ++ l) ≤ 255) :
    getW b at_ bg nx acc = (acc ++ l, if nx = 0 then e else nx, 0) := by
  induction h generalizing nx acc with
  | zero h h0 =>
    rw [getW, if_pos h, if_pos h0, List.append_nil]
  | @label bg at_ e s l hs hl h h0 hb t ih =>
    have hz := labS_size hs
    have hn : (b.getD at_ 0).toNat = s.size := by omega
    rw [getW, if_pos (by omega), if_neg (by omega), if_neg (by omega), if_neg (by omega), hn, if_pos h, hb, strOfNums_bs, hl, if_pos hs]
    have e1 : acc ++ s :: l = (acc ++ [s]) ++ l := by simp
    rw [e1] at hw ⊢
    have := wire_le_append (acc ++ [s]) l
    rw [if_neg (by omega), ih nx (acc ++ [s]) hw]
  | @ptr bg at_ to e l h ht h16 h0 h1 he t ih =>
    have hto := ptr_to h0 h1
    rw [getW, if_pos (by omega), if_neg (by omega), if_neg (by omega), if_pos (by omega), if_pos h, hto, if_pos ht, ih _ acc hw]
    by_cases hx : nx = 0
    · simp [hx]
    · simp [hx]

/-- What is cut short is not read. -/
theorem getW_cut {b : List Int} {bg at_ e : Nat} {l : List ByteArray} (h : Enc b bg at_ l e) (nx k : Nat) (acc : List ByteArray) (hw : wire (acc ++ l) ≤ 255) (h1 : at_ ≤ k) (h2 : k < e) :
    getW (b.take k) at_ bg nx acc = ([], 0, 3) := by
  induction h generalizing nx acc with
  | @zero bg at_ h h0 =>
    rw [getW, if_neg (by rw [List.length_take]; omega)]
  | @label bg at_ e s l hs hl h h0 hb t ih =>
    have hz := labS_size hs
    by_cases hk : at_ < k
    · have hg : (b.take k).getD at_ 0 = s.size := by rw [getD_take _ _ _ hk]; exact h0
      have hlen : (b.take k).length = min k b.length := List.length_take
      rw [getW, if_pos (by rw [hlen]; omega), hg, if_neg (by omega), if_neg (by omega), if_neg (by omega), Int.toNat_natCast]
      by_cases hk2 : at_ + 1 + s.size ≤ k
      · have e1 : acc ++ s :: l = (acc ++ [s]) ++ l := by simp
        rw [e1] at hw
        have := wire_le_append (acc ++ [s]) l
        rw [if_pos (by rw [hlen]; omega), List.drop_take, List.take_take, show min s.size (k - (at_ + 1)) = s.size by omega, hb, strOfNums_bs, hl, if_pos hs, if_neg (by omega), ih nx (acc ++ [s]) hw hk2 h2]
      · rw [if_neg (by rw [hlen]; omega)]
    · rw [getW, if_neg (by rw [List.length_take]; omega)]
  | @ptr bg at_ to e l h ht h16 h0 h1' he t ih =>
    have hlen : (b.take k).length = min k b.length := List.length_take
    by_cases hk : at_ < k
    · have hg : (b.take k).getD at_ 0 = b.getD at_ 0 := getD_take _ _ _ hk
      rw [getW, if_pos (by rw [hlen]; omega), hg, if_neg (by omega), if_neg (by omega), if_pos (by omega), if_neg (by rw [hlen]; omega)]
    · rw [getW, if_neg (by rw [hlen]; omega)]

/-- Where a suffix (its letters small) was laid first. -/
def fnd : List (List ByteArray × Nat) → List ByteArray → Option Nat
  | [], _ => none
  | (x, p) :: t, l => if x = l then some p else fnd t l
theorem fnd_mem {t : List (List ByteArray × Nat)} {l : List ByteArray} {p : Nat} (h : fnd t l = some p) : (l, p) ∈ t := by
  induction t with
  | nil => cases h
  | cons x t ih =>
    obtain ⟨y, q⟩ := x
    unfold fnd at h
    split at h
    · rename_i e; cases h; subst e; simp
    · exact List.mem_cons_of_mem _ (ih h)

/-- A name's bytes, behind b; and the suffixes that are laid then. -/
def encN (t : List (List ByteArray × Nat)) (b : List Int) : List ByteArray → List Int × List (List ByteArray × Nat)
  | [] => (b ++ [0], t)
  | s :: l => match fnd t ((s :: l).map lowS) with
    | some to => (b ++ [192 + (to : Int) / 256, (to : Int) % 256], t)
    | none => encN (t ++ [((s :: l).map lowS, b.length)]) (b ++ ((s.size : Int) :: bs (lowS s))) l

/-- All suffixes that were laid stand where they were laid. -/
def Good (b : List Int) (t : List (List ByteArray × Nat)) : Prop := ∀ l p, (l, p) ∈ t → p < 16384 ∧ p < b.length ∧ ∃ e, e ≤ b.length ∧ Enc b p p l e

theorem encN_len (t : List (List ByteArray × Nat)) (b : List Int) (l : List ByteArray) (hl : allLab l = true) : b.length < (encN t b l).1.length ∧ (encN t b l).1.length ≤ b.length + wire l := by
  induction l generalizing t b with
  | nil => simp [encN, wire]
  | cons s l ih =>
    have h1 : labS s = 0 ∧ allLab l = true := by
      unfold allLab at hl ⊢
      simp only [List.all_cons, Bool.and_eq_true, beq_iff_eq] at hl
      exact hl
    have hz := labS_size h1.1
    have hw := wire_pos l
    unfold encN
    split
    · simp [wire]; omega
    · have := ih (t ++ [((s :: l).map lowS, b.length)]) (b ++ ((s.size : Int) :: bs (lowS s))) h1.2
      simp only [List.length_append, List.length_cons, bs_length, lowS_size] at this
      simp only [wire]
      omega
theorem encN_pre (t : List (List ByteArray × Nat)) (b : List Int) (l : List ByteArray) : ∃ c, (encN t b l).1 = b ++ c := by
  induction l generalizing t b with
  | nil => exact ⟨_, rfl⟩
  | cons s l ih =>
    unfold encN
    split
    · exact ⟨_, rfl⟩
    · obtain ⟨c, hc⟩ := ih (t ++ [((s :: l).map lowS, b.length)]) (b ++ ((s.size : Int) :: bs (lowS s)))
      exact ⟨(s.size : Int) :: bs (lowS s) ++ c, by rw [hc]; simp⟩

/-- The name stands there, and all suffixes, those that are new too. t0: the suffixes that were there when the name began, at p. -/
theorem encN_enc (t0 t1 : List (List ByteArray × Nat)) (p : Nat) (b : List Int) (l : List ByteArray) (hl : allLab l = true) (hp : p ≤ b.length) (hb : b.length + wire l ≤ 16384)
    (h0 : ∀ x q, (x, q) ∈ t0 → q < 16384 ∧ q < p ∧ ∃ e, e ≤ p ∧ Enc b q q x e) (h1 : ∀ x q, (x, q) ∈ t1 → l.length < x.length) :
    Enc (encN (t0 ++ t1) b l).1 p b.length (l.map lowS) (encN (t0 ++ t1) b l).1.length ∧
      ∀ x q, (x, q) ∈ (encN (t0 ++ t1) b l).2 → (x, q) ∈ t0 ++ t1 ∨ (b.length ≤ q ∧ q < 16384 ∧ Enc (encN (t0 ++ t1) b l).1 p q x (encN (t0 ++ t1) b l).1.length) := by
  induction l generalizing t1 b with
  | nil =>
    constructor
    · have : Enc (b ++ [0]) p b.length [] (b.length + 1) := .zero (by simp) (by simp [List.getD])
      simpa [encN] using this
    · intro x q hx; exact .inl (by simpa [encN] using hx)
  | cons s l ih =>
    have hh : labS s = 0 ∧ allLab l = true := by
      unfold allLab at hl ⊢
      simp only [List.all_cons, Bool.and_eq_true, beq_iff_eq] at hl
      exact hl
    have hz := labS_size hh.1
    have hw := wire_pos l
    simp only [wire] at hb
    unfold encN
    cases hf : fnd (t0 ++ t1) ((s :: l).map lowS) with
    | some to =>
      have hm : ((s :: l).map lowS, to) ∈ t0 := by
        rcases List.mem_append.1 (fnd_mem hf) with h | h
        · exact h
        · have := h1 _ _ h; simp at this
      obtain ⟨g1, g2, e, he, hE⟩ := h0 _ _ hm
      constructor
      · have hE2 := hE.append [192 + (to : Int) / 256, (to : Int) % 256]
        have : Enc (b ++ [192 + (to : Int) / 256, (to : Int) % 256]) p b.length ((s :: l).map lowS) (b.length + 2) :=
          .ptr (by simp) g2 g1 (by simp [List.getD]) (by simp [List.getD]) he hE2
        simpa using this
      · intro x q hx; exact .inl hx
    | none =>
      have e1 : (t0 ++ t1) ++ [((s :: l).map lowS, b.length)] = t0 ++ (t1 ++ [((s :: l).map lowS, b.length)]) := by simp
      have hblen : (b ++ ((s.size : Int) :: bs (lowS s))).length = b.length + 1 + s.size := by simp [bs_length, lowS_size]; omega
      simp only []
      rw [e1]
      obtain ⟨i1, i2⟩ := ih (t1 ++ [((s :: l).map lowS, b.length)]) (b ++ ((s.size : Int) :: bs (lowS s))) hh.2 (by rw [hblen]; omega) (by rw [hblen]; omega)
        (fun x q hx => by
          obtain ⟨g1, g2, e, he, hE⟩ := h0 x q hx
          exact ⟨g1, g2, e, he, hE.append _⟩)
        (fun x q hx => by
          rcases List.mem_append.1 hx with h | h
          · have := h1 x q h; simp at this; omega
          · simp at h; rw [h.1]; simp)
      obtain ⟨c, hc⟩ := encN_pre (t0 ++ (t1 ++ [((s :: l).map lowS, b.length)])) (b ++ ((s.size : Int) :: bs (lowS s))) l
      obtain ⟨R, hR⟩ : ∃ R, R = encN (t0 ++ (t1 ++ [((s :: l).map lowS, b.length)])) (b ++ ((s.size : Int) :: bs (lowS s))) l := ⟨_, rfl⟩
      rw [← hR] at i1 i2 hc ⊢
      have hself : Enc R.1 p b.length ((s :: l).map lowS) R.1.length := by
        rw [hblen] at i1
        rw [List.map_cons]
        have hR1 : R.1 = b ++ ((s.size : Int) :: bs (lowS s) ++ c) := by rw [hc]; simp
        refine .label (by rw [labS_lowS]; exact hh.1) (lowS_lowS s) ?_ ?_ ?_ (by rw [lowS_size]; exact i1)
        · rw [hR1]; simp [bs_length, lowS_size]; omega
        · rw [hR1, lowS_size]; simp [List.getD]
        · rw [hR1, List.drop_append, List.drop_eq_nil_of_le (by omega), List.nil_append, show b.length + 1 - b.length = 1 by omega]
          simp only [List.cons_append, List.drop_succ_cons, List.drop_zero]
          rw [List.take_append_of_le_length (by rw [bs_length]; exact Nat.le_refl _), List.take_of_length_le (by rw [bs_length]; exact Nat.le_refl _)]
      refine ⟨hself, fun x q hx => ?_⟩
      rcases i2 x q hx with h | ⟨h2, h3, h4⟩
      · rcases List.mem_append.1 h with h | h
        · exact .inl (List.mem_append.2 (.inl h))
        · rcases List.mem_append.1 h with h | h
          · exact .inl (List.mem_append.2 (.inr h))
          · simp at h
            obtain ⟨rfl, rfl⟩ := h
            exact .inr ⟨Nat.le_refl _, by omega, hself⟩
      · exact .inr ⟨by omega, h3, h4⟩
end Go.Proofs.Ytjhmjimfehanbaa.Wire
