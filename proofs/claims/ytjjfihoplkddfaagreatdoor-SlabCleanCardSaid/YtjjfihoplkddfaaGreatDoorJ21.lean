/- Plain mathematics of the words of free blocks: those that a memory's runs name, how many of them begin a block. -/
import Derived.Test.YtjjfihoplkddfaaGreatDoorJ19
import Derived.Test.YtjjfihoplkddfaaGreatDoorJ20
namespace Go.Proofs.YtjjfihoplkddfaaGreatDoor.Reg
open Go.RowKit
open Cls (szC blC pdC)
open Sla (pl aT lk Sl St Wd Ts pV SlabOk bl_in bl_apart lvF rmF)
open Wat (Rn)
open Mem (blkM Hm)
set_option linter.unusedVariables false

/-- The words of a run of free bytes. -/
def f1 (r : RZ) : List Nat := if r.2.2 = 6 then (List.range (r.2.1.toNat / 8)).map fun i => r.1.toNat + 8 * i else []
def fF (P : List RZ) : List Nat := P.flatMap f1
theorem fF_app (P Q : List RZ) : fF (P ++ Q) = fF P ++ fF Q := by simp [fF]
theorem fF_one (r : RZ) : fF [r] = f1 r := by simp [fF]
/-- Runs of free bytes are whole words. -/
def A8 (P : List RZ) : Prop := ∀ r ∈ P, r.2.2 = 6 → ∃ a n : Nat, r.1 = (a : Int) ∧ r.2.1 = (n : Int) ∧ n % 8 = 0
theorem A8.app {P Q : List RZ} (h1 : A8 P) (h2 : A8 Q) : A8 (P ++ Q) := fun r hr => (List.mem_append.1 hr).elim (h1 r) (h2 r)
theorem A8.jn {P : List RZ} {r : RZ} (h1 : A8 P) (h2 : A8 [r]) : A8 (jnZ P r) ∧ fF (jnZ P r) = fF P ++ fF [r] := by
  rcases List.eq_nil_or_concat P with rfl | ⟨M, q, rfl⟩
  · rw [jnZ_nil]; exact ⟨h2, by simp [fF]⟩
  · rw [List.concat_eq_append] at *
    rw [jnZ_snoc]
    split
    · rename_i hc
      obtain ⟨-, -, c3, c4⟩ := cnZ_iff.1 hc
      by_cases h6 : q.2.2 = 6
      · obtain ⟨a, n, e1, e2, e3⟩ := h1 q (by simp) h6
        obtain ⟨b, m, f1', f2, f3⟩ := h2 r (by simp) (by omega)
        refine ⟨A8.app (fun x hx => h1 x (by simp [hx])) (fun x hx _ => ?_), ?_⟩
        · obtain rfl := List.mem_singleton.1 hx
          exact ⟨a, n + m, e1, by simp only [e2, f2]; omega, by omega⟩
        · rw [fF_app, fF_app, fF_one, fF_one, fF_one, List.append_assoc]
          congr 1
          unfold f1
          rw [if_pos h6, if_pos h6, if_pos (show r.2.2 = 6 by omega)]
          have k1 : (q.2.1 + r.2.1).toNat / 8 = q.2.1.toNat / 8 + r.2.1.toNat / 8 := by omega
          rw [k1, List.range_add, List.map_append, List.map_map]
          congr 1
          refine List.map_congr_left (fun i _ => ?_)
          show q.1.toNat + 8 * (q.2.1.toNat / 8 + i) = r.1.toNat + 8 * i
          omega
      · have h6' : r.2.2 ≠ 6 := by omega
        refine ⟨A8.app (fun x hx => h1 x (by simp [hx])) (fun x hx hk => ?_), ?_⟩
        · obtain rfl := List.mem_singleton.1 hx
          exact absurd hk h6
        · rw [fF_app, fF_app, fF_one, fF_one, fF_one]
          unfold f1
          rw [if_neg h6, if_neg h6, if_neg h6', List.append_nil, List.append_nil]
    · exact ⟨h1.app h2, fF_app _ _⟩
theorem A8.join {P : List RZ} (h : A8 P) : A8 (joinZ P) ∧ fF (joinZ P) = fF P := by
  have key : ∀ (P Q : List RZ), A8 Q → A8 P → A8 (P.foldl jnZ Q) ∧ fF (P.foldl jnZ Q) = fF Q ++ fF P := by
    intro P
    induction P with
    | nil => intro Q hQ _; exact ⟨hQ, by simp [fF]⟩
    | cons r P ih =>
      intro Q hQ hP
      obtain ⟨g1, g2⟩ := A8.jn hQ (r := r) (fun x hx => hP x (by simp at hx; simp [hx]))
      obtain ⟨g3, g4⟩ := ih _ g1 (fun x hx => hP x (by simp [hx]))
      refine ⟨g3, ?_⟩
      show fF (P.foldl jnZ (jnZ Q r)) = _
      rw [g4, g2, List.append_assoc, ← fF_app]
      rfl
  obtain ⟨g1, g2⟩ := key P [] (fun _ h => by cases h) h
  exact ⟨g1, by rw [joinZ, g2]; rfl⟩
theorem sz8 (c : Int) : szC c % 8 = 0 := by
  unfold szC
  split
  · rename_i h
    rcases (show c = 1 ∨ c = 2 ∨ c = 3 ∨ c = 4 ∨ c = 5 ∨ c = 6 ∨ c = 7 ∨ c = 8 ∨ c = 9 by omega) with rfl | rfl | rfl | rfl | rfl | rfl | rfl | rfl | rfl <;> decide
  · rfl
theorem sz_pos {c : Int} (h : 0 < blC c) : 32 ≤ szC c := by
  unfold blC at h
  unfold szC
  split
  · rename_i h
    rcases (show c = 1 ∨ c = 2 ∨ c = 3 ∨ c = 4 ∨ c = 5 ∨ c = 6 ∨ c = 7 ∨ c = 8 ∨ c = 9 by omega) with rfl | rfl | rfl | rfl | rfl | rfl | rfl | rfl | rfl <;> decide
  · rename_i h2
    exfalso
    unfold szC at h
    rw [if_neg h2] at h
    simp at h
theorem head_none (S N : Nat) : ∀ r ∈ headR S N, r.2.2 ≠ 6 := by
  intro r hr
  unfold headR at hr
  obtain ⟨q, hq, rfl⟩ := List.mem_map.1 hr
  have h2 := List.dropLast_subset _ hq
  unfold Lay.runsT at h2
  split at h2 <;> simp at h2
  · rcases h2 with rfl | rfl | rfl | rfl | rfl <;> simp
  · rcases h2 with rfl | rfl | rfl | rfl | rfl | rfl <;> simp
theorem slab_a8 (A : Nat) (s : Sl) : A8 (slT A s) := by
  intro r hr h6
  unfold slT at hr
  split at hr
  · simp at hr
    subst hr
    simp at h6
  · unfold dvR at hr
    rcases List.mem_append.1 hr with hr | hr
    · obtain ⟨k, -, rfl⟩ := List.mem_map.1 hr
      exact ⟨_, _, rfl, rfl, sz8 _⟩
    · unfold padR at hr
      split at hr
      · simp at hr
        subst hr
        simp at h6
      · cases hr
theorem all_a8 (S N : Nat) (T : List Sl) : ∀ j, A8 (allT S N T j)
  | 0 => fun r hr => by cases hr
  | j + 1 => (all_a8 S N T j).app (slab_a8 _ _)
theorem fF_none {P : List RZ} (h : ∀ r ∈ P, r.2.2 ≠ 6) : fF P = [] := by
  unfold fF
  rw [List.flatMap_eq_nil_iff]
  intro r hr
  unfold f1
  rw [if_neg (h r hr)]
/-- The words of a slab's free blocks. -/
theorem slab_fF (A : Nat) {s : Sl} (h : s.Ok) : fF (slT A s) = (List.range (blC s.c)).flatMap fun k => if k ∈ s.f then (List.range (szC s.c / 8)).map fun i => pl A s.c k + 8 * i else [] := by
  unfold slT
  split
  · rename_i h0
    have hb : blC (s.c : Int) = 0 := by rw [h0]; decide
    rw [hb, fF_one]
    rfl
  · unfold dvR
    rw [fF_app, fF_none (P := padR A s.c) (by
      intro r hr
      unfold padR at hr
      split at hr
      · simp at hr
        subst hr
        simp
      · cases hr), List.append_nil]
    unfold fF
    rw [List.flatMap_map]
    congr 1
    funext k
    unfold f1 blkR
    simp only [List.mem_reverse]
    by_cases hk : k ∈ s.f
    · rw [if_pos hk, if_pos hk, if_pos rfl]
      rfl
    · rw [if_neg hk, if_neg hk, if_neg (by decide)]
/-- Is it where a free block begins? -/
def stB (S N : Nat) (T : List Sl) (x : Nat) : Bool := (List.range S).any fun j => (T.getD j Sl.zero).f.any fun k => pl (aT S N j) (T.getD j Sl.zero).c k == x
theorem stB_iff {S N : Nat} {T : List Sl} {x : Nat} : stB S N T x = true ↔ ∃ j k, j < S ∧ k ∈ (T.getD j Sl.zero).f ∧ pl (aT S N j) (T.getD j Sl.zero).c k = x := by
  unfold stB
  simp
/-- How many free blocks the first slabs have. -/
def frF (T : List Sl) : Nat → Nat
  | 0 => 0
  | k + 1 => frF T k + (T.getD k Sl.zero).f.length
theorem countP_flat {α β} (p : β → Bool) (g : α → List β) : ∀ L : List α, (L.flatMap g).countP p = (L.map fun a => (g a).countP p).sum
  | [] => rfl
  | a :: L => by rw [List.flatMap_cons, List.countP_append, countP_flat p g L, List.map_cons, List.sum_cons]
theorem sum_if {f : List Nat} (hn : f.Nodup) : ∀ n, (∀ k ∈ f, k < n) → ((List.range n).map fun k => if k ∈ f then 1 else 0).sum = f.length := by
  intro n hl
  have e : ((List.range n).map fun k => if k ∈ f then 1 else 0).sum = ((List.range n).filter fun k => decide (k ∈ f)).length := by
    generalize List.range n = R
    induction R with
    | nil => rfl
    | cons r R ih =>
      rw [List.map_cons, List.sum_cons, ih, List.filter_cons]
      by_cases h : r ∈ f
      · simp [h]; omega
      · simp [h]
  rw [e]
  refine List.Perm.length_eq ((List.perm_ext_iff_of_nodup (List.nodup_range.sublist List.filter_sublist) hn).2 (fun k => ?_))
  simp
  exact fun h => hl k h
/-- Two places of free blocks in slabs: where the one begins is within the other only if they are one. -/
theorem pl_word {S N : Nat} {T : List Sl} (hT : ∀ j, j < S → (T.getD j Sl.zero).Ok) {j k i : Nat} (hj : j < S) (hk : k ∈ (T.getD j Sl.zero).f) (hi : 8 * i < szC (T.getD j Sl.zero).c) : stB S N T (pl (aT S N j) (T.getD j Sl.zero).c k + 8 * i) = decide (i = 0) := by
  rw [Bool.eq_iff_iff, stB_iff, decide_eq_true_iff]
  constructor
  · rintro ⟨j2, k2, h1, h2, h3⟩
    have q1 := bl_in ((hT j hj).lt k hk)
    have q2 := bl_in ((hT j2 h1).lt k2 h2)
    have hjj : j = j2 := by
      unfold pl aT at h3
      omega
    subst hjj
    by_cases hkk : k = k2
    · subst hkk; omega
    · exfalso
      unfold pl at h3
      rcases Nat.lt_or_gt_of_ne hkk with h | h
      · have := Nat.mul_le_mul_right (szC ((T.getD j Sl.zero).c : Int)) (show k + 1 ≤ k2 from h)
        rw [Nat.succ_mul] at this
        omega
      · have := Nat.mul_le_mul_right (szC ((T.getD j Sl.zero).c : Int)) (show k2 + 1 ≤ k from h)
        rw [Nat.succ_mul] at this
        omega
  · rintro rfl
    exact ⟨j, k, hj, hk, rfl⟩
theorem all_count {S N : Nat} {T : List Sl} (hT : ∀ j, j < S → (T.getD j Sl.zero).Ok) : ∀ m, m ≤ S → (fF (allT S N T m)).countP (stB S N T) = frF T m
  | 0, _ => rfl
  | m + 1, hm => by
    rw [allT, fF_app, List.countP_append, all_count hT m (by omega), frF, slab_fF _ (hT m (by omega)), countP_flat]
    congr 1
    have hk := hT m (by omega)
    rw [← sum_if hk.nd (blC (T.getD m Sl.zero).c) hk.lt]
    congr 1
    refine List.map_congr_left (fun k hkr => ?_)
    by_cases h : k ∈ (T.getD m Sl.zero).f
    · rw [if_pos h, if_pos h]
      have h32 := sz_pos (c := (T.getD m Sl.zero).c) (by have := hk.lt k h; omega)
      obtain ⟨n, hn⟩ : ∃ n, szC (T.getD m Sl.zero).c / 8 = n + 1 := ⟨szC (T.getD m Sl.zero).c / 8 - 1, by omega⟩
      rw [hn, List.range_succ_eq_map, List.map_cons, List.countP_cons, List.map_map]
      rw [show (stB S N T (pl (aT S N m) (T.getD m Sl.zero).c k + 8 * 0)) = true from by rw [pl_word hT (by omega) h (by omega)]; rfl, if_pos rfl]
      rw [List.countP_eq_zero.2 (fun x hx => by
        obtain ⟨i, hi, rfl⟩ := List.mem_map.1 hx
        have hi2 : i < n := List.mem_range.1 hi
        show ¬ stB S N T (pl (aT S N m) (T.getD m Sl.zero).c k + 8 * (i + 1)) = true
        rw [pl_word hT (by omega) h (by omega)]
        simp)]
    · rw [if_neg h, if_neg h]; rfl
theorem all_word {S N : Nat} {T : List Sl} (hT : ∀ j, j < S → (T.getD j Sl.zero).Ok) : ∀ m, m ≤ S → ∀ x ∈ fF (allT S N T m), ∃ j k i, j < S ∧ k ∈ (T.getD j Sl.zero).f ∧ 8 * i < szC (T.getD j Sl.zero).c ∧ x = pl (aT S N j) (T.getD j Sl.zero).c k + 8 * i
  | 0, _, x, hx => by cases hx
  | m + 1, hm, x, hx => by
    rw [allT, fF_app] at hx
    rcases List.mem_append.1 hx with hx | hx
    · exact all_word hT m (by omega) x hx
    · rw [slab_fF _ (hT m (by omega))] at hx
      obtain ⟨k, hk, hx⟩ := List.mem_flatMap.1 hx
      by_cases h : k ∈ (T.getD m Sl.zero).f
      · rw [if_pos h] at hx
        obtain ⟨i, hi, rfl⟩ := List.mem_map.1 hx
        have := List.mem_range.1 hi
        exact ⟨m, k, i, by omega, h, by omega, rfl⟩
      · rw [if_neg h] at hx
        cases hx
/-- The words of the runs that a memory tells. -/
theorem stJ_facts {S N : Nat} {T : List Sl} (hT : ∀ j, j < S → (T.getD j Sl.zero).Ok) : A8 (stJ S N T) ∧ (fF (stJ S N T)).countP (stB S N T) = frF T S ∧ ∀ x ∈ fF (stJ S N T), ∃ j k i, j < S ∧ k ∈ (T.getD j Sl.zero).f ∧ 8 * i < szC (T.getD j Sl.zero).c ∧ x = pl (aT S N j) (T.getD j Sl.zero).c k + 8 * i := by
  have hA : A8 (headR S N ++ allT S N T S) := A8.app (fun r hr h6 => absurd h6 (head_none S N r hr)) (all_a8 S N T S)
  obtain ⟨g1, g2⟩ := hA.join
  have e : fF (stJ S N T) = fF (allT S N T S) := by
    unfold stJ
    rw [g2, fF_app, fF_none (head_none S N)]
    rfl
  rw [e]
  exact ⟨g1, all_count hT S (Nat.le_refl _), all_word hT S (Nat.le_refl _)⟩
/-- All classes' free blocks are all free blocks. -/
def caF (T : List Sl) (S : Nat) : Nat → Nat
  | 0 => 0
  | c + 1 => caF T S c + rmF T ((c + 1 : Nat) : Int) S
theorem caF_zero (T : List Sl) : ∀ c, caF T 0 c = 0
  | 0 => rfl
  | c + 1 => by rw [caF, caF_zero T c]; rfl
theorem caF_succ (T : List Sl) (S : Nat) : ∀ c, caF T (S + 1) c = caF T S c + if 1 ≤ (T.getD S Sl.zero).c ∧ (T.getD S Sl.zero).c ≤ c then (T.getD S Sl.zero).f.length else 0
  | 0 => by rw [if_neg (by omega)]; rfl
  | c + 1 => by
    rw [caF, caF, caF_succ T S c, rmF]
    by_cases h : (T.getD S Sl.zero).c = c + 1
    · rw [if_neg (by omega), if_pos (by omega), if_pos (by omega)]; omega
    · by_cases h2 : 1 ≤ (T.getD S Sl.zero).c ∧ (T.getD S Sl.zero).c ≤ c
      · rw [if_pos h2, if_neg (by omega), if_pos (by omega)]; omega
      · rw [if_neg h2, if_neg (by omega), if_neg (by omega)]; omega
theorem caF_all {T : List Sl} : ∀ {S : Nat}, (∀ j, j < S → (T.getD j Sl.zero).Ok) → caF T S 9 = frF T S
  | 0, _ => caF_zero T 9
  | S + 1, hT => by
    rw [caF_succ, frF, caF_all (fun j hj => hT j (by omega))]
    have h := hT S (by omega)
    have h9 := h.c
    by_cases h0 : (T.getD S Sl.zero).c = 0
    · have hb : blC ((T.getD S Sl.zero).c : Int) = 0 := by rw [h0]; decide
      have hf : (T.getD S Sl.zero).f = [] := by
        cases hf : (T.getD S Sl.zero).f with
        | nil => rfl
        | cons k r =>
          have := h.lt k (by rw [hf]; simp)
          omega
      rw [if_neg (by omega), hf]
      rfl
    · rw [if_pos (by omega)]
end Go.Proofs.YtjjfihoplkddfaaGreatDoor.Reg
