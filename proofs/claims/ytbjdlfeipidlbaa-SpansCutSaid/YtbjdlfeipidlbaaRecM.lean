/- Plain mathematics of records: what they are as bytes, and back. -/
import Derived.Test.YtbjdlfeipidlbaaKit8
namespace Go.Proofs.Ytbjdlfeipidlbaa.Rec
open Go.RowKit

/-- How many bytes records need. -/
def dat (L : List (List Int)) : Nat := (L.map List.length).sum
def szL (L : List (List Int)) : Nat := 2 + 2 * L.length + dat L
def szE (L : List (List Int)) : Int := if L.length < 1 ∨ 16 < L.length then 2 else if 480 < szL L then 22 else 0
def szN (L : List (List Int)) : Nat := if szE L = 0 then szL L else 0
theorem dat_cons (l : List Int) (L : List (List Int)) : dat (l :: L) = l.length + dat L := by simp [dat]
theorem dat_append (a b : List (List Int)) : dat (a ++ b) = dat a + dat b := by simp [dat]
theorem dat_take_succ (L : List (List Int)) (k : Nat) (h : k < L.length) : dat (L.take (k + 1)) = dat (L.take k) + (L.getD k []).length := by
  have e : L.getD k [] = L[k] := by simp [List.getD, h]
  rw [e, List.take_succ_eq_append_getElem h, dat_append]
  simp [dat]
theorem dat_take_le (L : List (List Int)) (k : Nat) : dat (L.take k) ≤ dat L := by
  have := dat_append (L.take k) (L.drop k)
  rw [List.take_append_drop] at this
  omega
theorem dat_get (L : List (List Int)) (k : Nat) (h : k < L.length) : (L.getD k []).length ≤ dat L := by
  have h1 := dat_take_succ L k h
  have h2 := dat_take_le L (k + 1)
  omega
theorem dat_flatten (L : List (List Int)) : L.flatten.length = dat L := by simp [dat, List.length_flatten]

/-- The ends, each in two bytes. -/
def hdr (n : Nat) : List (List Int) → List Int
  | [] => []
  | l :: r => (((n + l.length) % 256 : Nat) : Int) :: (((n + l.length) / 256 : Nat) : Int) :: hdr (n + l.length) r
theorem hdr_length (n : Nat) (L : List (List Int)) : (hdr n L).length = 2 * L.length := by
  induction L generalizing n with
  | nil => rfl
  | cons l r ih => simp only [hdr, List.length_cons, ih]; omega
theorem hdr_snoc (n : Nat) (L : List (List Int)) (l : List Int) : hdr n (L ++ [l]) = hdr n L ++ [(((n + dat L + l.length) % 256 : Nat) : Int), (((n + dat L + l.length) / 256 : Nat) : Int)] := by
  induction L generalizing n with
  | nil => simp [hdr, dat]
  | cons x r ih =>
    simp only [List.cons_append, hdr, ih, dat_cons]
    rw [show n + x.length + dat r + l.length = n + (x.length + dat r) + l.length by omega]
def packL (L : List (List Int)) : List Int := ((L.length : Int) :: 0 :: hdr 0 L) ++ L.flatten
theorem packL_length (L : List (List Int)) : (packL L).length = szL L := by
  simp only [packL, szL, List.length_append, List.length_cons, hdr_length, dat_flatten]; omega
def pckB (L : List (List Int)) : List Int := if szE L = 0 then packL L else []

/-- The records between ends, the first of which begins at n. -/
def cutP (d : List Int) (n : Nat) : List Nat → List (List Int)
  | [] => []
  | e :: r => (d.drop n).take (e - n) :: cutP d e r
/-- Do numbers rise, from n on? -/
def rises (n : Nat) : List Nat → Bool
  | [] => true
  | e :: r => decide (n ≤ e) && rises e r
def endAt (b : List Int) (i : Nat) : Nat := (b.getD (2 + 2 * i) 0 + 256 * b.getD (3 + 2 * i) 0).toNat
def endsOf (b : List Int) (n : Nat) : List Nat := (List.range n).map (endAt b)
/-- Unpack. -/
def unpV (b : List Int) : List (List Int) × Int :=
  if b.length < 2 then ([], 3)
  else if b.getD 0 0 = 0 ∨ 16 < b.getD 0 0 ∨ ¬ b.getD 1 0 = 0 then ([], 4)
  else if b.length < 2 + 2 * (b.getD 0 0).toNat then ([], 3)
  else if rises 0 (endsOf b (b.getD 0 0).toNat) = false then ([], 4)
  else if b.length < 2 + 2 * (b.getD 0 0).toNat + endAt b ((b.getD 0 0).toNat - 1) then ([], 3)
  else if 2 + 2 * (b.getD 0 0).toNat + endAt b ((b.getD 0 0).toNat - 1) < b.length ∨ 480 < b.length then ([], 4)
  else (cutP (b.drop (2 + 2 * (b.getD 0 0).toNat)) 0 (endsOf b (b.getD 0 0).toNat), 0)

/-- The ends of records. -/
def sums (n : Nat) : List (List Int) → List Nat
  | [] => []
  | l :: r => (n + l.length) :: sums (n + l.length) r
theorem sums_rise (n : Nat) (L : List (List Int)) : rises n (sums n L) = true := by
  induction L generalizing n with
  | nil => rfl
  | cons l r ih => simp [sums, rises, ih]
theorem cut_sums (n : Nat) (L : List (List Int)) (p : List Int) (hp : p.length = n) : cutP (p ++ L.flatten) n (sums n L) = L := by
  induction L generalizing n p with
  | nil => rfl
  | cons l r ih =>
    have h1 : ((p ++ (l :: r).flatten).drop n).take (n + l.length - n) = l := by
      rw [List.drop_append, List.drop_eq_nil_of_le (by omega), List.nil_append, hp, Nat.sub_self, List.drop_zero, List.flatten_cons, show n + l.length - n = l.length by omega, List.take_left]
    have h2 : p ++ (l :: r).flatten = (p ++ l) ++ r.flatten := by simp
    rw [sums, cutP, h1, h2, ih (n + l.length) (p ++ l) (by simp [hp])]
theorem sums_length (n : Nat) (L : List (List Int)) : (sums n L).length = L.length := by
  induction L generalizing n with
  | nil => rfl
  | cons l r ih => simp [sums, ih]
theorem sums_last (n : Nat) (L : List (List Int)) (h : L ≠ []) : (sums n L).getD (L.length - 1) 0 = n + dat L := by
  induction L generalizing n with
  | nil => exact absurd rfl h
  | cons l r ih =>
    cases r with
    | nil => simp [sums, dat]
    | cons x r =>
      have := ih (n + l.length) (by simp)
      simp only [List.length_cons, Nat.add_sub_cancel] at this ⊢
      have h2 := dat_cons l (x :: r)
      rw [sums, List.getD_cons_succ, this]
      omega
theorem hdr_get (n : Nat) (L : List (List Int)) (i : Nat) (h : i < L.length) : ((hdr n L).getD (2 * i) 0 + 256 * (hdr n L).getD (2 * i + 1) 0).toNat = (sums n L).getD i 0 := by
  induction L generalizing n i with
  | nil => simp at h
  | cons l r ih =>
    cases i with
    | zero => simp [hdr, sums, List.getD]; omega
    | succ i =>
      have := ih (n + l.length) i (by simpa using h)
      rw [hdr, sums, show 2 * (i + 1) = 2 * i + 1 + 1 by omega, show 2 * i + 1 + 1 + 1 = (2 * i + 1) + 1 + 1 by omega]
      simp only [List.getD_cons_succ]
      exact this
theorem getD_app_left (a c : List Int) (i : Nat) (h : i < a.length) : (a ++ c).getD i 0 = a.getD i 0 := by
  simp [List.getD, List.getElem?_append_left h]
theorem endsOf_pack (L : List (List Int)) : endsOf (packL L) L.length = sums 0 L := by
  apply List.ext_getElem
  · simp [endsOf, sums_length]
  · intro i h1 h2
    simp only [endsOf, List.getElem_map, List.getElem_range]
    rw [sums_length] at h2
    have h := hdr_get 0 L i h2
    have hl := hdr_length 0 L
    unfold endAt packL
    rw [getD_app_left _ _ _ (by simp [hl]; omega), getD_app_left _ _ _ (by simp [hl]; omega), show 2 + 2 * i = 2 * i + 1 + 1 by omega, show 3 + 2 * i = 2 * i + 1 + 1 + 1 by omega]
    simp only [List.getD_cons_succ]
    rw [h]
    simp [List.getD, sums_length, h2]
/-- What is packed is unpacked. -/
theorem unp_pack (L : List (List Int)) (h : szE L = 0) : unpV (packL L) = (L, 0) := by
  have hn : 1 ≤ L.length ∧ L.length ≤ 16 ∧ szL L ≤ 480 := by
    unfold szE at h
    split at h
    · omega
    · split at h <;> omega
  have h0 : (packL L).getD 0 0 = L.length := by simp [packL, List.getD]
  have h1 : (packL L).getD 1 0 = 0 := by simp [packL, List.getD]
  have hl := packL_length L
  have he := endsOf_pack L
  have hne : L ≠ [] := by rintro rfl; simp at hn
  have hlast : endAt (packL L) (L.length - 1) = dat L := by
    have : (endsOf (packL L) L.length).getD (L.length - 1) 0 = (sums 0 L).getD (L.length - 1) 0 := by rw [he]
    rw [sums_last 0 L hne] at this
    rw [← show (endsOf (packL L) L.length).getD (L.length - 1) 0 = endAt (packL L) (L.length - 1) by simp [endsOf, List.getD, show L.length - 1 < L.length by omega], this]
    omega
  unfold unpV
  rw [h0, h1, Int.toNat_natCast, hl, he, sums_rise, hlast]
  unfold szL at hn ⊢
  rw [if_neg (by omega), if_neg (by omega), if_neg (by omega), if_neg (by simp), if_neg (by omega), if_neg (by omega)]
  have hd : (packL L).drop (2 + 2 * L.length) = L.flatten := by
    unfold packL
    have e0 : ((L.length : Int) :: 0 :: hdr 0 L).length = 2 + 2 * L.length := by simp only [List.length_cons, hdr_length]; omega
    rw [List.drop_append, List.drop_eq_nil_of_le (by omega), List.nil_append, e0, Nat.sub_self, List.drop_zero]
  rw [hd]
  have := cut_sums 0 L [] rfl
  rw [List.nil_append] at this
  rw [this]

theorem unp_fail (b : List Int) (h : ¬ (unpV b).2 = 0) : (unpV b).1 = [] := by
  revert h
  unfold unpV
  (repeat' split) <;> simp
theorem hdr_sums (n : Nat) (L : List (List Int)) : hdr n L = (sums n L).flatMap fun e => [((e % 256 : Nat) : Int), ((e / 256 : Nat) : Int)] := by
  induction L generalizing n with
  | nil => rfl
  | cons l r ih => simp only [hdr, sums, List.flatMap_cons, ih]; rfl
theorem rises_ge {n : Nat} {E : List Nat} (h : rises n E = true) : ∀ e ∈ E, n ≤ e := by
  induction E generalizing n with
  | nil => intro e he; simp at he
  | cons x r ih =>
    simp only [rises, Bool.and_eq_true, decide_eq_true_eq] at h
    intro e he
    rcases List.mem_cons.1 he with rfl | he
    · exact h.1
    · have := ih h.2 e he; omega
theorem rises_last {n : Nat} {E : List Nat} (h : rises n E = true) : ∀ e ∈ E, e ≤ E.getLastD n := by
  induction E generalizing n with
  | nil => intro e he; simp at he
  | cons x r ih =>
    simp only [rises, Bool.and_eq_true, decide_eq_true_eq] at h
    intro e he
    rw [List.getLastD_cons]
    rcases List.mem_cons.1 he with rfl | he
    · cases r with
      | nil => simp
      | cons y r => exact Nat.le_trans (rises_ge h.2 y (by simp)) (ih h.2 y (by simp))
    · exact ih h.2 e he
theorem cut_ends (d : List Int) (n : Nat) (E : List Nat) (h : rises n E = true) (hd : ∀ e ∈ E, e ≤ d.length) : sums n (cutP d n E) = E := by
  induction E generalizing n with
  | nil => rfl
  | cons x r ih =>
    simp only [rises, Bool.and_eq_true, decide_eq_true_eq] at h
    have hx := hd x (by simp)
    have hl : ((d.drop n).take (x - n)).length = x - n := by rw [List.length_take, List.length_drop]; omega
    rw [cutP, sums, hl, show n + (x - n) = x by omega, ih x h.2 fun e he => hd e (by simp [he])]
theorem cut_flatten (d : List Int) (n : Nat) (E : List Nat) (h : rises n E = true) : (cutP d n E).flatten = (d.drop n).take (E.getLastD n - n) := by
  induction E generalizing n with
  | nil => simp [cutP]
  | cons x r ih =>
    have hl := rises_last h x (by simp)
    simp only [rises, Bool.and_eq_true, decide_eq_true_eq] at h
    rw [List.getLastD_cons] at hl ⊢
    rw [cutP, List.flatten_cons, ih x h.2]
    obtain ⟨L, hL⟩ : ∃ L, L = r.getLastD x := ⟨_, rfl⟩
    rw [← hL] at hl ⊢
    rw [show L - n = (x - n) + (L - x) by omega, List.take_add, List.drop_drop, show n + (x - n) = x by omega]
theorem cut_length (d : List Int) (n : Nat) (E : List Nat) : (cutP d n E).length = E.length := by
  induction E generalizing n with
  | nil => rfl
  | cons x r ih => simp [cutP, ih]
theorem take_two (b : List Int) (n : Nat) (h : n + 2 ≤ b.length) : b.take (n + 2) = b.take n ++ [b.getD n 0, b.getD (n + 1) 0] := by
  have e1 : b.getD n 0 = b[n] := by simp [List.getD, show n < b.length by omega]
  have e2 : b.getD (n + 1) 0 = b[n + 1] := by simp [List.getD, show n + 1 < b.length by omega]
  have e3 : b.take (n + 1 + 1) = b.take (n + 1) ++ [b[n + 1]] := List.take_succ_eq_append_getElem (by omega)
  have e4 : b.take (n + 1) = b.take n ++ [b[n]] := List.take_succ_eq_append_getElem (by omega)
  rw [e1, e2]
  exact e3.trans (by rw [e4, List.append_assoc]; rfl)
theorem ends_bytes (b : List Int) (hb : ∀ i, 0 ≤ b.getD i 0 ∧ b.getD i 0 < 256) (n : Nat) (h : 2 + 2 * n ≤ b.length) : b.take 2 ++ ((endsOf b n).flatMap fun e => [((e % 256 : Nat) : Int), ((e / 256 : Nat) : Int)]) = b.take (2 + 2 * n) := by
  induction n with
  | zero => simp [endsOf]
  | succ n ih =>
    have hs : endsOf b (n + 1) = endsOf b n ++ [endAt b n] := by simp [endsOf, List.range_succ]
    rw [hs, List.flatMap_append, ← List.append_assoc, ih (by omega), show 2 + 2 * (n + 1) = (2 + 2 * n) + 2 by omega, take_two b (2 + 2 * n) (by omega)]
    have h1 := hb (2 + 2 * n)
    have h2 := hb (2 + 2 * n + 1)
    have e : endAt b n = (b.getD (2 + 2 * n) 0 + 256 * b.getD (2 + 2 * n + 1) 0).toNat := by unfold endAt; rw [show 3 + 2 * n = 2 + 2 * n + 1 by omega]
    congr 1
    simp only [List.flatMap_cons, List.flatMap_nil, List.append_nil, List.cons.injEq, and_true]
    rw [e]
    omega
/-- What is unpacked is packed to the same bytes. -/
theorem pack_unp (b : List Int) (hb : ∀ i, 0 ≤ b.getD i 0 ∧ b.getD i 0 < 256) (h : (unpV b).2 = 0) : packL (unpV b).1 = b ∧ szE (unpV b).1 = 0 := by
  revert h
  unfold unpV
  split
  · intro h; simp at h
  split
  · intro h; simp at h
  rename_i h1 h2
  have hb0 := hb 0
  obtain ⟨n, hn⟩ := Int.eq_ofNat_of_zero_le hb0.1
  rw [hn, Int.toNat_natCast]
  rw [hn] at h2
  split
  · intro h; simp at h
  split
  · intro h; simp at h
  split
  · intro h; simp at h
  split
  · intro h; simp at h
  rename_i h3 h4 h5 h6
  intro _
  simp only []
  have hn1 : 1 ≤ n ∧ n ≤ 16 ∧ b.getD 1 0 = 0 := by
    refine ⟨by omega, by omega, ?_⟩
    exact Decidable.byContradiction fun e => h2 (.inr (.inr e))
  have hris : rises 0 (endsOf b n) = true := by simpa using h4
  have hlen : (endsOf b n).length = n := by simp [endsOf]
  have hlast : (endsOf b n).getLastD 0 = endAt b (n - 1) := by
    obtain ⟨m, rfl⟩ : ∃ m, n = m + 1 := ⟨n - 1, by omega⟩
    simp [endsOf, List.range_succ]
  have hd : (b.drop (2 + 2 * n)).length = endAt b (n - 1) := by rw [List.length_drop]; omega
  have hle : ∀ e ∈ endsOf b n, e ≤ (b.drop (2 + 2 * n)).length := by
    intro e he
    rw [hd, ← hlast]
    exact rises_last hris e he
  have hsum := cut_ends (b.drop (2 + 2 * n)) 0 (endsOf b n) hris hle
  have hfl := cut_flatten (b.drop (2 + 2 * n)) 0 (endsOf b n) hris
  rw [hlast, ← hd, List.drop_zero, Nat.sub_zero, List.take_length] at hfl
  have hcl := cut_length (b.drop (2 + 2 * n)) 0 (endsOf b n)
  rw [hlen] at hcl
  have hpk : packL (cutP (b.drop (2 + 2 * n)) 0 (endsOf b n)) = b := by
    unfold packL
    rw [hcl, hfl, hdr_sums, hsum]
    have e2 : b.take 2 = [(n : Int), 0] := by
      have := take_two b 0 (by omega)
      rw [Nat.zero_add, hn, hn1.2.2] at this
      simpa using this
    have h7 := ends_bytes b hb n (by omega)
    rw [e2] at h7
    have h8 : (n : Int) :: 0 :: (endsOf b n).flatMap (fun e => [((e % 256 : Nat) : Int), ((e / 256 : Nat) : Int)]) = b.take (2 + 2 * n) := h7
    rw [h8, List.take_append_drop]
  refine ⟨hpk, ?_⟩
  have hz := packL_length (cutP (b.drop (2 + 2 * n)) 0 (endsOf b n))
  rw [hpk] at hz
  unfold szE
  rw [hcl, if_neg (by omega), if_neg (by omega)]
end Go.Proofs.Ytbjdlfeipidlbaa.Rec
