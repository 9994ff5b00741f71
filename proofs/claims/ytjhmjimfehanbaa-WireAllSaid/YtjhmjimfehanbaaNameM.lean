/- Plain mathematics of names: texts cut at dots, joined by dots. -/
import Derived.Lib.SplitLaws
import Derived.Lib.Join
import Derived.Lib.Strings
import Derived.Test.YtjhmjimfehanbaaFoldD
namespace Go.Proofs.Ytjhmjimfehanbaa.Name
open Go.RowKit

/-- What comes of the bytes, if acc stands ahead of them since the last dot. -/
def cutA : List Int → List Int → List (List Int)
  | acc, [] => [acc]
  | acc, c :: l => if c = 46 then acc :: cutA [] l else cutA (acc ++ [c]) l
def pre (acc : List Int) : List (List Int) → List (List Int)
  | [] => [acc]
  | p :: r => (acc ++ p) :: r
theorem cutA_ne (acc l : List Int) : cutA acc l ≠ [] := by
  induction l generalizing acc with
  | nil => simp [cutA]
  | cons c l ih => unfold cutA; split <;> simp_all
theorem pre_pre (a b : List Int) (L : List (List Int)) (h : L ≠ []) : pre a (pre b L) = pre (a ++ b) L := by
  cases L with
  | nil => exact absurd rfl h
  | cons p r => simp [pre]
theorem cutA_pre (acc l : List Int) : cutA acc l = pre acc (cutA [] l) := by
  induction l generalizing acc with
  | nil => simp [cutA, pre]
  | cons c l ih =>
    by_cases h : c = 46
    · simp [cutA, h, pre]
    · rw [cutA, if_neg h, cutA, if_neg h, ih (acc ++ [c]), ih ([] ++ [c]), pre_pre _ _ _ (cutA_ne _ _)]
      rfl
theorem cutA_cons (c : Int) (l : List Int) (h : ¬ c = 46) : cutA [] (c :: l) = pre [c] (cutA [] l) := by
  rw [cutA, if_neg h, cutA_pre]
  rfl

def joinI : List (List Int) → List Int
  | [] => []
  | [p] => p
  | p :: q :: r => p ++ 46 :: joinI (q :: r)
theorem joinI_cons (p : List Int) (r : List (List Int)) (h : r ≠ []) : joinI (p :: r) = p ++ 46 :: joinI r := by
  cases r with
  | nil => exact absurd rfl h
  | cons q r => rfl
theorem joinI_pre (a : List Int) (L : List (List Int)) (h : L ≠ []) : joinI (pre a L) = a ++ joinI L := by
  cases L with
  | nil => exact absurd rfl h
  | cons p r =>
    cases r with
    | nil => rfl
    | cons q r => simp [pre, joinI]
/-- What is cut is joined again. -/
theorem joinI_cut (l : List Int) : joinI (cutA [] l) = l := by
  induction l with
  | nil => rfl
  | cons c l ih =>
    by_cases h : c = 46
    · rw [cutA, if_pos h, joinI_cons _ _ (cutA_ne _ _), ih, h]
      rfl
    · rw [cutA_cons c l h, joinI_pre _ _ (cutA_ne _ _), ih]
      rfl
theorem cut_noDot (p l : List Int) (h : ∀ c ∈ p, ¬ c = 46) : cutA [] (p ++ l) = pre p (cutA [] l) := by
  induction p with
  | nil =>
    have : cutA [] l ≠ [] := cutA_ne _ _
    cases e : cutA [] l with
    | nil => exact absurd e this
    | cons a b => simp [pre, e]
  | cons c p ih =>
    rw [List.cons_append, cutA_cons _ _ (h c (by simp)), ih fun x hx => h x (by simp [hx]), pre_pre _ _ _ (cutA_ne _ _)]
    rfl
/-- What is joined is cut again. -/
theorem cut_joinI (P : List (List Int)) (hne : P ≠ []) (h : ∀ p ∈ P, ∀ c ∈ p, ¬ c = 46) : cutA [] (joinI P) = P := by
  induction P with
  | nil => exact absurd rfl hne
  | cons p r ih =>
    cases r with
    | nil =>
      have := cut_noDot p [] (h p (by simp))
      rw [List.append_nil] at this
      rw [joinI, this]
      simp [cutA, pre]
    | cons q r =>
      rw [joinI, cut_noDot p _ (h p (by simp)), cutA, if_pos rfl, ih (by simp) fun x hx => h x (by simp_all)]
      simp [pre]
theorem cutA_last (acc l : List Int) : cutA acc (l ++ [46]) = cutA acc l ++ [[]] := by
  induction l generalizing acc with
  | nil => simp [cutA]
  | cons c l ih =>
    rw [List.cons_append, cutA, cutA]
    split
    · rw [ih]; rfl
    · rw [ih]

/-- Without one dot at the end. -/
def trim (l : List Int) : List Int := if l.getLast? = some 46 then l.dropLast else l
theorem trim_noEnd (P : List (List Int)) (hne : P ≠ []) (h : ∀ p ∈ P, p ≠ [] ∧ ∀ c ∈ p, ¬ c = 46) : trim (joinI P) = joinI P := by
  unfold trim
  rw [if_neg]
  intro he
  obtain ⟨ys, h1⟩ := List.getLast?_eq_some_iff.1 he
  have h2 := cut_joinI P hne fun p hp => (h p hp).2
  rw [h1, cutA_last] at h2
  exact (h [] (by rw [← h2]; simp)).1 rfl
theorem trim_length (l : List Int) : (trim l).length ≤ l.length := by
  unfold trim
  split
  · rw [List.length_dropLast]; omega
  · omega

open Fold in
theorem lw_dot (c : Int) : lw c = 46 ↔ c = 46 := by
  unfold lw
  split <;> omega
open Fold in
theorem low_append (a b : List Int) : low (a ++ b) = low a ++ low b := by simp [low]
open Fold in
theorem cutA_low (acc l : List Int) : cutA (low acc) (low l) = (cutA acc l).map low := by
  induction l generalizing acc with
  | nil => rfl
  | cons c l ih =>
    rw [show low (c :: l) = lw c :: low l from rfl, cutA, cutA]
    by_cases h : c = 46
    · rw [if_pos ((lw_dot c).2 h), if_pos h, List.map_cons, ← ih []]
      rfl
    · rw [if_neg (fun e => h ((lw_dot c).1 e)), if_neg h, ← ih, low_append]
      rfl
open Fold in
theorem trim_low (l : List Int) : trim (low l) = low (trim l) := by
  unfold trim
  rw [show (low l).getLast? = l.getLast?.map lw from List.getLast?_map]
  cases e : l.getLast? with
  | none => simp
  | some x =>
    simp only [Option.map_some, Option.some.injEq, lw_dot]
    split
    · unfold low; rw [List.map_dropLast]
    · rfl
open Fold in
theorem low_joinI (P : List (List Int)) : low (joinI P) = joinI (P.map low) := by
  induction P with
  | nil => rfl
  | cons p r ih =>
    cases r with
    | nil => rfl
    | cons q r =>
      rw [joinI, low_append, show low (46 :: joinI (q :: r)) = 46 :: low (joinI (q :: r)) from rfl, ih]
      rfl

/-- The library's words. -/
def dotB : ByteArray := ⟨#[46]⟩
theorem splitK_cut (s : List UInt8) : (Lib.splitK [46] 0 (Lib.count s [46]) s).map (·.map fun c => (c.toNat : Int)) = cutA [] (s.map fun c => (c.toNat : Int)) := by
  induction s with
  | nil => rw [Lib.count_miss (by simp [Lib.index])]; rfl
  | cons c l ih =>
    by_cases h : c = 46
    · subst h
      have hx : Lib.index (46 :: l) [46] = ((0 : Nat) : Int) := by rw [Lib.index]; simp [List.isPrefixOf]
      rw [Lib.count_cons_eq, Nat.add_comm, Lib.splitK, if_neg (by rw [hx]; decide), hx]
      simp only [Int.toNat_natCast, List.length_singleton, Nat.zero_add, List.drop_succ_cons, List.drop_zero, Nat.add_zero, List.take_zero, List.map_cons, List.map_nil]
      rw [ih]
      rfl
    · have hp : ([46] : List UInt8).isPrefixOf (c :: l) = false := by simp [List.isPrefixOf, Ne.symm h]
      have hix : Lib.index (c :: l) [46] = if Lib.index l [46] == -1 then -1 else Lib.index l [46] + 1 := by rw [Lib.index, hp]; simp
      have hc : ¬ (c.toNat : Int) = 46 := by
        intro e
        apply h
        apply UInt8.toNat_inj.1
        have : (46 : UInt8).toNat = 46 := rfl
        omega
      rw [Lib.count_cons_ne c 46 l h, List.map_cons, cutA_cons _ _ hc, ← ih]
      by_cases hm : Lib.index l [46] = -1
      · rw [Lib.count_miss hm]
        rfl
      · have hge := Lib.index_ge l [46]
        obtain ⟨j, hj⟩ : ∃ j : Nat, Lib.index l [46] = j := ⟨(Lib.index l [46]).toNat, by omega⟩
        have hix' : Lib.index (c :: l) [46] = ((j + 1 : Nat) : Int) := by rw [hix, if_neg (fun e => hm (beq_iff_eq.1 e)), hj]; omega
        rw [Lib.count_hit (by simp) hj, Nat.add_comm 1, Lib.splitK, Lib.splitK, if_neg (by rw [hix', beq_iff_eq]; omega), if_neg (by rw [hj, beq_iff_eq]; omega), hix', hj]
        simp [pre]
theorem splitB_cut (s : ByteArray) : (Lib.splitB dotB 0 (Lib.countB s dotB) s).map bs = cutA [] (bs s) := by
  have h := splitK_cut s.data.toList
  have h2 := Lib.splitB_data dotB 0 (Lib.countB s dotB) s
  rw [← show dotB.data.toList = [46] from rfl] at h
  rw [show Lib.countB s dotB = Lib.count s.data.toList dotB.data.toList from rfl] at h2 ⊢
  rw [← h2, List.map_map] at h
  exact h

theorem map_inj_bs {a b : List ByteArray} (h : a.map bs = b.map bs) : a = b := by
  induction a generalizing b with
  | nil => cases b <;> simp_all
  | cons x a ih =>
    cases b with
    | nil => simp at h
    | cons y b =>
      simp only [List.map_cons, List.cons.injEq] at h
      rw [bs_inj h.1, ih h.2]

/-- A name's number of bytes. -/
def wire : List ByteArray → Nat
  | [] => 1
  | s :: l => s.size + 1 + wire l
theorem wire_append (a b : List ByteArray) : wire (a ++ b) + 1 = wire a + wire b := by
  induction a with
  | nil => simp [wire]; omega
  | cons x a ih => simp only [List.cons_append, wire]; omega
theorem wire_take_succ (l : List ByteArray) (k : Nat) (h : k < l.length) : wire (l.take (k + 1)) = wire (l.take k) + (l.getD k ByteArray.empty).size + 1 := by
  have e : l.getD k ByteArray.empty = l[k] := by simp [List.getD, h]
  rw [e, List.take_succ_eq_append_getElem h]
  have := wire_append (l.take k) [l[k]]
  simp only [wire] at this
  omega
theorem wire_take_le (l : List ByteArray) (k : Nat) : wire (l.take k) ≤ wire l := by
  have := wire_append (l.take k) (l.drop k)
  rw [List.take_append_drop] at this
  have h2 : 1 ≤ wire (l.drop k) := by cases l.drop k <;> simp [wire]; omega
  omega
theorem wire_pos (l : List ByteArray) : 1 ≤ wire l := by cases l <;> simp [wire]; omega
theorem wire_get (l : List ByteArray) (k : Nat) (h : k < l.length) : (l.getD k ByteArray.empty).size < wire l := by
  have h1 := wire_take_succ l k h
  have h2 := wire_take_le l (k + 1)
  omega
theorem wire_len (l : List ByteArray) : l.length < wire l := by
  induction l with
  | nil => simp [wire]
  | cons x l ih => simp only [wire, List.length_cons]; omega

/-- The text of labels. -/
def tx (l : List ByteArray) : ByteArray := ⟨(Lib.join (l.map (·.data.toList)) [46]).toArray⟩
theorem bs_mk (l : List UInt8) : bs ⟨l.toArray⟩ = l.map fun c => (c.toNat : Int) := by simp [bs]
theorem bs_tx (l : List ByteArray) : bs (tx l) = joinI (l.map bs) := by
  unfold tx
  rw [bs_mk]
  cases l with
  | nil => rfl
  | cons x l =>
    rw [List.map_cons, Lib.join_cons]
    induction l generalizing x with
    | nil => simp [Lib.joinTail, joinI, bs]
    | cons y l ih =>
      have h := ih y
      rw [List.map_cons, List.map_cons, List.map_cons, joinI, ← List.map_cons, ← h]
      simp [Lib.joinTail, bs]
theorem tx_one (x : ByteArray) : tx [x] = x := by apply bs_inj; rw [bs_tx]; rfl
theorem bs_appendB (a b : ByteArray) : bs (a ++ b) = bs a ++ bs b := by simp [bs]
theorem joinI_snoc (P : List (List Int)) (p : List Int) (h : P ≠ []) : joinI (P ++ [p]) = joinI P ++ 46 :: p := by
  induction P with
  | nil => exact absurd rfl h
  | cons q r ih =>
    cases r with
    | nil => rfl
    | cons t r =>
      rw [show (q :: t :: r) ++ [p] = q :: ((t :: r) ++ [p]) from rfl, joinI_cons q _ (by simp), ih (by simp), joinI_cons q (t :: r) (by simp)]
      simp
theorem tx_snoc (l : List ByteArray) (x : ByteArray) (h : l ≠ []) : tx (l ++ [x]) = tx l ++ dotB ++ x := by
  apply bs_inj
  rw [bs_tx, List.map_append, List.map_cons, List.map_nil, joinI_snoc _ _ (by simpa using h), bs_appendB, bs_appendB, bs_tx]
  simp [bs, dotB]
theorem tx_size (l : List ByteArray) (h : l ≠ []) : (tx l).size + 2 = wire l := by
  rw [← bs_length, bs_tx]
  induction l with
  | nil => exact absurd rfl h
  | cons x l ih =>
    cases l with
    | nil => simp [joinI, wire, bs_length]
    | cons y l =>
      have := ih (by simp)
      rw [List.map_cons, joinI_cons _ _ (by simp), List.length_append, List.length_cons, wire, bs_length]
      omega

open Fold
/-- Is each a label? -/
def allLab (l : List ByteArray) : Bool := l.all fun s => labS s == 0
def chk (l : List ByteArray) : Int := if allLab l then (if 255 < wire l then 21 else 0) else 20
theorem chk_zero {l : List ByteArray} (h : chk l = 0) : allLab l = true ∧ wire l ≤ 255 := by
  unfold chk at h
  cases e : allLab l with
  | false => rw [e] at h; simp at h
  | true =>
    rw [e] at h
    simp only [if_true] at h
    split at h
    · omega
    · exact ⟨rfl, by omega⟩
theorem chk_cases (l : List ByteArray) : chk l = 0 ∨ chk l = 20 ∨ chk l = 21 := by
  unfold chk
  split
  · split <;> simp
  · simp
theorem lab_zero {l : List Int} (h : lab l = 0) : l ≠ [] ∧ ∀ c ∈ l, ¬ c = 46 := by
  unfold lab at h
  split at h
  · rename_i g
    refine ⟨by rintro rfl; simp at g, fun c hc e => ?_⟩
    have := List.all_eq_true.1 g.2.2 c hc
    simp [good, e] at this
  · omega
theorem allLab_parts {l : List ByteArray} (h : allLab l = true) : ∀ p ∈ l.map bs, p ≠ [] ∧ ∀ c ∈ p, ¬ c = 46 := by
  intro p hp
  obtain ⟨s, hs, rfl⟩ := List.mem_map.1 hp
  have := List.all_eq_true.1 h s hs
  exact lab_zero (beq_iff_eq.1 this)

/-- The labels that a text is cut into. -/
def prs (s : ByteArray) : List ByteArray := (cutA [] (trim (low (bs s)))).map strOfNums
theorem low_bd' {l : List Int} (h : ∀ c ∈ l, 0 ≤ c ∧ c < 256) : ∀ c ∈ low l, 0 ≤ c ∧ c < 256 := by
  intro c hc
  obtain ⟨x, hx, rfl⟩ := List.mem_map.1 hc
  have := h x hx
  exact lw_bd x this.1 this.2
theorem bs_mem (s : ByteArray) : ∀ c ∈ bs s, 0 ≤ c ∧ c < 256 := by
  intro c hc
  obtain ⟨x, hx, rfl⟩ := List.mem_map.1 hc
  have := x.toNat_lt
  omega
theorem bs_str {l : List Int} (h : ∀ c ∈ l, 0 ≤ c ∧ c < 256) : bs (strOfNums l) = l := by
  apply bs_strOfNums
  intro i
  by_cases hi : i < l.length
  · have := h _ (List.getElem_mem hi)
    simpa [List.getD, hi] using this
  · simp [List.getD, List.getElem?_eq_none (show l.length ≤ i by omega)]
theorem trim_mem {l : List Int} {c : Int} (h : c ∈ trim l) : c ∈ l := by
  unfold trim at h
  split at h
  · exact (List.dropLast_sublist _).subset h
  · exact h
theorem cutA_mem (acc l : List Int) : ∀ p ∈ cutA acc l, ∀ c ∈ p, c ∈ acc ∨ c ∈ l := by
  induction l generalizing acc with
  | nil => intro p hp c hc; simp [cutA] at hp; subst hp; exact .inl hc
  | cons x l ih =>
    intro p hp c hc
    unfold cutA at hp
    split at hp
    · rcases List.mem_cons.1 hp with rfl | hp
      · exact .inl hc
      · rcases ih [] p hp c hc with h | h
        · simp at h
        · exact .inr (by simp [h])
    · rcases ih (acc ++ [x]) p hp c hc with h | h
      · rcases List.mem_append.1 h with h | h
        · exact .inl h
        · exact .inr (by simp at h; simp [h])
      · exact .inr (by simp [h])
theorem prs_bs (s : ByteArray) : (prs s).map bs = cutA [] (trim (low (bs s))) := by
  unfold prs
  rw [List.map_map]
  conv => rhs; rw [← List.map_id (cutA [] (trim (low (bs s))))]
  apply List.map_congr_left
  intro p hp
  apply bs_str
  intro c hc
  rcases cutA_mem [] _ p hp c hc with h | h
  · simp at h
  · exact low_bd' (bs_mem s) c (trim_mem h)
/-- As the library does it. -/
theorem bs_trimB (s : ByteArray) : bs ⟨(Lib.trimSuffix s.data.toList [46]).toArray⟩ = trim (bs s) := by
  rw [bs_mk]
  unfold Lib.trimSuffix trim
  have hb : bs s = s.data.toList.map fun c => (c.toNat : Int) := rfl
  rw [hb, List.getLast?_map]
  generalize s.data.toList = l
  have hs : Lib.hasSuffix l [46] = true ↔ l.getLast? = some 46 := by
    unfold Lib.hasSuffix
    rw [List.isSuffixOf_iff_suffix, List.getLast?_eq_some_iff]
    constructor
    · rintro ⟨t, ht⟩; exact ⟨t, ht.symm⟩
    · rintro ⟨t, ht⟩; exact ⟨t, ht.symm⟩
  have hg : (l.getLast?.map fun c : UInt8 => (c.toNat : Int)) = some 46 ↔ l.getLast? = some 46 := by
    cases l.getLast? with
    | none => simp
    | some x =>
      simp only [Option.map_some, Option.some.injEq]
      constructor
      · intro e; apply UInt8.toNat_inj.1; have : (46 : UInt8).toNat = 46 := rfl; omega
      · rintro rfl; rfl
  by_cases h : l.getLast? = some 46
  · rw [if_pos (hs.2 h), if_pos (hg.2 h), List.dropLast_eq_take, List.map_take]
    simp
  · rw [if_neg (fun e => h (hs.1 e)), if_neg (fun e => h (hg.1 e))]
theorem prs_lib (s : ByteArray) : Lib.splitB dotB 0 (Lib.countB ⟨(Lib.trimSuffix (lowS s).data.toList [46]).toArray⟩ dotB) ⟨(Lib.trimSuffix (lowS s).data.toList [46]).toArray⟩ = prs s := by
  apply map_inj_bs
  rw [splitB_cut, bs_trimB, bs_lowS, prs_bs]
theorem prs_ref (s : ByteArray) : (cutA [] (trim (bs s))).map (fun p => strOfNums (low p)) = prs s := by
  unfold prs
  rw [trim_low, ← show low [] = [] from rfl, cutA_low, List.map_map]
  rfl
theorem prs_ne (s : ByteArray) : prs s ≠ [] := by
  unfold prs
  have := cutA_ne [] (trim (low (bs s)))
  simpa using this

theorem lowS_bs (s : ByteArray) : bs (lowS s) = low (bs s) := bs_lowS s
theorem map_lowS_bs (l : List ByteArray) : (l.map lowS).map bs = (l.map bs).map low := by
  rw [List.map_map, List.map_map]
  apply List.map_congr_left
  intro s _
  exact bs_lowS s
theorem labS_lowS (s : ByteArray) : labS (lowS s) = labS s := by unfold labS; rw [bs_lowS, lab_low]
theorem allLab_low (l : List ByteArray) : allLab (l.map lowS) = allLab l := by
  unfold allLab
  rw [List.all_map]
  congr 1
  funext s
  simp [labS_lowS]
theorem wire_low (l : List ByteArray) : wire (l.map lowS) = wire l := by
  induction l with
  | nil => rfl
  | cons x l ih => simp only [List.map_cons, wire, ih, lowS_size]
theorem chk_low (l : List ByteArray) : chk (l.map lowS) = chk l := by unfold chk; rw [allLab_low, wire_low]

/-- The text of a name that isn't the root is parsed as the name, its letters small. -/
theorem prs_tx (l : List ByteArray) (hne : l ≠ []) (h : allLab l = true) : prs (tx l) = l.map lowS ∧ tx l ≠ dotB := by
  have hP := allLab_parts h
  have hl : ∀ p ∈ (l.map lowS).map bs, p ≠ [] ∧ ∀ c ∈ p, ¬ c = 46 := allLab_parts (by rw [allLab_low]; exact h)
  constructor
  · apply map_inj_bs
    rw [prs_bs, bs_tx, low_joinI, ← map_lowS_bs, trim_noEnd _ (by simpa using hne) hl, cut_joinI _ (by simpa using hne) fun p hp => (hl p hp).2]
  · intro e
    have h1 := congrArg bs e
    rw [bs_tx] at h1
    have h2 := cut_joinI (l.map bs) (by simpa using hne) fun p hp => (hP p hp).2
    rw [h1, show cutA [] (bs dotB) = [[], []] from rfl] at h2
    exact (hP [] (by rw [← h2]; simp)).1 rfl
/-- What is parsed has small letters. -/
theorem prs_small (s : ByteArray) : (prs s).map lowS = prs s := by
  apply map_inj_bs
  rw [map_lowS_bs, prs_bs, trim_low, ← show low [] = [] from rfl, cutA_low, List.map_map]
  apply List.map_congr_left
  intro p _
  exact low_low p
theorem prs_tx_size (s : ByteArray) : (tx (prs s)).size ≤ s.size := by
  rw [← bs_length, ← bs_length, bs_tx, prs_bs, joinI_cut]
  have := trim_length (low (bs s))
  rw [low_length] at this
  exact this
theorem wire_prs (s : ByteArray) : wire (prs s) ≤ s.size + 2 := by
  have h1 := tx_size (prs s) (prs_ne s)
  have h2 := prs_tx_size s
  omega
end Go.Proofs.Ytjhmjimfehanbaa.Name
