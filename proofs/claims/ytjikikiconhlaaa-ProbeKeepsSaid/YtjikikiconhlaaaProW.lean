/- Plain: a table, and the list of what was put in and not taken out. -/
import Derived.Test.YtjikikiconhlaaaProV
import Derived.Test.YtjikikiconhlaaaProO
namespace Go.Proofs.Ytjikikiconhlaaa.Pro
open Go.RowKit
set_option linter.unusedVariables false

structure KI (n : Nat) (T A : List Cel) : Prop where
  len : T.length = n
  rt : RTf n (gt T)
  free : ∃ z, z < n ∧ ((gt T z).1 = 0 ∨ frf n (gt T) z = 0)
  nd : (A.map (·.1)).Nodup
  nz : ∀ c ∈ A, c.1 ≠ 0
  mem : ∀ c : Cel, c.1 ≠ 0 → ((∃ q, q < n ∧ gt T q = c) ↔ c ∈ A)
  wuT : WU T
  wuA : WU A
theorem gt_replicate (n i : Nat) : gt (List.replicate n (0, 0)) i = (0, 0) := by
  unfold gt
  by_cases h : i < n
  · simp [List.getD, h]
  · simp [List.getD, h]
theorem KI.new {n : Nat} (h0 : 0 < n) : KI n (List.replicate n (0, 0)) [] := by
  refine ⟨List.length_replicate, ⟨h0, fun i hi _ => by rw [gt_replicate], fun i hi h => absurd (by rw [gt_replicate]) h, fun i k hi hk _ h => absurd (by rw [gt_replicate]) h, fun i hi h => absurd (by rw [gt_replicate]) h⟩, ⟨0, h0, .inl (by rw [gt_replicate])⟩, by simp, by simp, fun c hc => ⟨fun ⟨q, hq, e⟩ => ?_, fun h => by simp at h⟩, fun c hc => ?_, fun c hc => by simp at hc⟩
  · rw [gt_replicate] at e
    rw [← e] at hc
    exact absurd rfl hc
  · rw [List.eq_of_mem_replicate hc]
    show (Lit.int .u32 0).wf = true
    decide
/-- Where an ID is among those that are in. -/
def fnd (A : List Cel) (x : Int) : Int := if sk (fun j => decide ((gt A j).1 = x)) A.length < A.length then (sk (fun j => decide ((gt A j).1 = x)) A.length : Int) else -1
theorem fnd_here {A : List Cel} {x : Int} {i : Nat} (hi : i < A.length) (h1 : ∀ j, j < i → (gt A j).1 ≠ x) (h2 : (gt A i).1 = x) : fnd A x = i := by
  have h := sk_eq (P := fun j => decide ((gt A j).1 = x)) (n := A.length) (j := i) (by omega) (fun j hj => decide_eq_false (h1 j hj)) (fun _ => decide_eq_true h2)
  unfold fnd
  rw [h, if_pos hi]
theorem fnd_none {A : List Cel} {x : Int} (h : ∀ j, j < A.length → (gt A j).1 ≠ x) : fnd A x = -1 := by
  have h := sk_eq (P := fun j => decide ((gt A j).1 = x)) (n := A.length) (j := A.length) (Nat.le_refl _) (fun j hj => decide_eq_false (h j hj)) (fun h => absurd h (by omega))
  unfold fnd
  rw [h, if_neg (by omega)]
theorem fnd_cases (A : List Cel) (x : Int) : (∃ i, i < A.length ∧ fnd A x = (i : Int) ∧ (gt A i).1 = x) ∨ (fnd A x = -1 ∧ ∀ j, j < A.length → (gt A j).1 ≠ x) := by
  by_cases h : sk (fun j => decide ((gt A j).1 = x)) A.length < A.length
  · left
    refine ⟨_, h, by unfold fnd; rw [if_pos h], ?_⟩
    have := sk_yes (P := fun j => decide ((gt A j).1 = x)) h
    simpa using this
  · right
    refine ⟨by unfold fnd; rw [if_neg h], fun j hj q => ?_⟩
    have := sk_no (P := fun j => decide ((gt A j).1 = x)) (n := A.length) (j := j) (by omega)
    simp [q] at this
theorem gt_mem {A : List Cel} {i : Nat} (hi : i < A.length) : gt A i ∈ A := by simp [gt, List.getD, hi]
theorem mem_gt {A : List Cel} {c : Cel} (h : c ∈ A) : ∃ i, i < A.length ∧ gt A i = c := by
  obtain ⟨i, hi, rfl⟩ := List.getElem_of_mem h
  exact ⟨i, hi, by simp [gt, List.getD, hi]⟩
theorem nd_inj {A : List Cel} (h : (A.map (·.1)).Nodup) {i j : Nat} (hi : i < A.length) (hj : j < A.length) (e : (gt A i).1 = (gt A j).1) : i = j := by
  rw [List.Nodup, List.pairwise_iff_getElem] at h
  have gi : gt A i = A[i] := by simp [gt, List.getD, hi]
  have gj : gt A j = A[j] := by simp [gt, List.getD, hj]
  rw [gi, gj] at e
  rcases Nat.lt_trichotomy i j with q | q | q
  · exact absurd (by rw [List.getElem_map, List.getElem_map]; exact e) (h i j (by simpa using hi) (by simpa using hj) q)
  · exact q
  · exact absurd (by rw [List.getElem_map, List.getElem_map]; exact e.symm) (h j i (by simpa using hj) (by simpa using hi) q)
theorem KI.rc {n : Nat} {T A : List Cel} (K : KI n T A) : RC T = true := rtf_rc (by rw [K.len]; exact K.rt)
theorem KI.rt' {n : Nat} {T A : List Cel} (K : KI n T A) : RTf T.length (gt T) := by rw [K.len]; exact K.rt
/-- Delete is done just where the cell is in. -/
theorem KI.del_iff {n : Nat} {T A : List Cel} (K : KI n T A) (x y : Int) : eD T (x, y) = 0 ↔ (x, y) ∈ A := by
  constructor
  · intro he
    unfold eD at he
    split at he
    case isFalse h => exact absurd he h
    case isTrue hck =>
    split at he
    case isFalse => cases he
    case isTrue hf =>
    obtain ⟨hna, -⟩ := ck_ok hck
    obtain ⟨h, rfl, hh⟩ := na_home hna
    have hx : x ≠ 0 := (of_decide_eq_true hna).1
    refine (K.mem (x, (h : Int)) hx).1 ⟨(h + fiK T (x, (h : Int)) h) % T.length, by rw [← K.len]; exact Nat.mod_lt _ (by omega), ?_⟩
    simp only [Int.toNat_natCast] at hf
    unfold fiC at hf
    split at hf
    · assumption
    · cases hf
  · intro hm
    have hx := K.nz _ hm
    obtain ⟨q, hq, e⟩ := (K.mem _ hx).2 hm
    have hb := K.rt.hm q hq (by rw [e]; exact hx)
    rw [e] at hb
    simp only at hb hx
    obtain ⟨h, rfl⟩ := Int.eq_ofNat_of_zero_le hb.1
    have hna : naC T (x, (h : Int)) = true := by
      unfold naC
      rw [K.len]
      simp [hx]
      omega
    have hck : ckC T (x, (h : Int)) = 0 := by simp [ckC, hna, K.rc]
    have hf := fi_found (T := T) K.rt' (i := q) (h := h) (x := x) (by rw [K.len]; exact hq) e hx
    unfold eD
    rw [if_pos hck]
    simp [hf]
theorem KI.del {n : Nat} {T A : List Cel} (K : KI n T A) {x y : Int} {i : Nat} (hi : i < A.length) (e : gt A i = (x, y)) : KI n (rD T (x, y)) (A.eraseIdx i) := by
  have hm : (x, y) ∈ A := by rw [← e]; exact gt_mem hi
  have he := (K.del_iff x y).2 hm
  have hx := K.nz _ hm
  obtain ⟨q, hq, eq⟩ := (K.mem _ hx).2 hm
  have hb := K.rt.hm q hq (by rw [eq]; exact hx)
  rw [eq] at hb
  simp only at hb hx
  obtain ⟨h, rfl⟩ := Int.eq_ofNat_of_zero_le hb.1
  have hq' : q < T.length := by rw [K.len]; exact hq
  have hf := fi_found (T := T) K.rt' (i := q) (h := h) (x := x) hq' eq hx
  have hr : rD T (x, (h : Int)) = delT T q := by
    unfold rD
    rw [if_pos he]
    simp [hf]
  rw [hr]
  have D := he_del K.rt' hq'
  have hg := del_gt D
  have hpne : (gt T q).1 ≠ 0 := by rw [eq]; exact hx
  have hl := K.len
  have hfr := K.free
  refine ⟨by rw [delT_length, K.len], ?_, ?_, ((List.eraseIdx_sublist A i).map _).nodup K.nd, fun c hc => K.nz c (List.mem_of_mem_eraseIdx hc), fun c hc => ?_, ?_, fun c hc => K.wuA c (List.mem_of_mem_eraseIdx hc)⟩
  · rw [← hl] at hfr ⊢
    exact rtf_congr (D.rtf hfr hpne) hg
  · obtain ⟨z, hz, hze⟩ := D.free
    exact ⟨z, by rw [← hl]; exact hz, .inl (by rw [hg z hz]; rw [hze])⟩
  · have h1 := D.mem c hc hpne
    have h2 : (∃ r, r < n ∧ gt (delT T q) r = c) ↔ ∃ r, r < T.length ∧ delf T.length (gt T) q (heK (T.set q (0, 0)) (q + 1)) r = c := by
      rw [← hl]
      exact ⟨fun ⟨r, hr, e⟩ => ⟨r, hr, by rw [← hg r hr]; exact e⟩, fun ⟨r, hr, e⟩ => ⟨r, hr, by rw [hg r hr]; exact e⟩⟩
    have h3 := K.mem c hc
    rw [← hl] at h3
    rw [h2, h1, h3, eq, List.mem_eraseIdx_iff_getElem]
    constructor
    · rintro ⟨a1, a2⟩
      obtain ⟨j, hj, ej⟩ := mem_gt a2
      refine ⟨j, hj, fun q2 => a1 ?_, by rw [← ej]; simp [gt, List.getD, hj]⟩
      rw [← ej, q2, e]
    · rintro ⟨j, hj, hne, ej⟩
      have ej2 : gt A j = c := by rw [← ej]; simp [gt, List.getD, hj]
      refine ⟨fun q2 => hne (nd_inj K.nd hj hi ?_), by rw [← ej]; exact List.getElem_mem hj⟩
      rw [ej2, e, q2]
  · refine wu_gt fun j hj => ?_
    rw [delT_length] at hj
    rw [hg j hj]
    unfold delf
    split
    · exact K.wuT.at (nx_lt hj)
    · split
      · show (Lit.int .u32 0).wf = true
        decide
      · exact K.wuT.at hj
/-- As many cells aren't empty as there are in. -/
theorem KI.count {n : Nat} {T A : List Cel} (K : KI n T A) : (T.filter fun c => decide (c.1 ≠ 0)).length = A.length := by
  have nA : A.Nodup := by
    have := K.nd
    rw [List.Nodup, List.pairwise_map] at this
    exact this.imp (fun h e => h (by rw [e]))
  have nT : (T.filter fun c => decide (c.1 ≠ 0)).Nodup := by
    rw [List.Nodup, List.pairwise_filter, List.pairwise_iff_getElem]
    intro i j hi hj hij h1 h2 e
    have := K.rt.ne i j (by rw [← K.len]; exact hi) (by rw [← K.len]; exact hj) (by omega) (by simpa [gt, List.getD, hi] using h1)
    refine this ?_
    have gi : gt T i = T[i] := by simp [gt, List.getD, hi]
    have gj : gt T j = T[j] := by simp [gt, List.getD, hj]
    rw [gi, gj, e]
  refine (List.Perm.length_eq ((List.perm_ext_iff_of_nodup nT nA).2 fun c => ?_))
  rw [List.mem_filter]
  constructor
  · rintro ⟨h1, h2⟩
    obtain ⟨i, hi, e⟩ := mem_gt h1
    exact (K.mem c (by simpa using h2)).1 ⟨i, by rw [← K.len]; exact hi, e⟩
  · intro h
    have hz := K.nz c h
    obtain ⟨q, hq, e⟩ := (K.mem c hz).2 h
    exact ⟨by rw [← e]; exact gt_mem (by rw [K.len]; exact hq), by simpa using hz⟩
theorem KI.ins_iff {n : Nat} {T A : List Cel} (K : KI n T A) (x y : Int) : eI T (x, y) = 0 ↔ (fnd A x < 0 ∧ A.length < n ∧ x ≠ 0 ∧ 0 ≤ y ∧ y < n) := by
  have hid : ∀ x : Int, x ≠ 0 → ((T.any fun a => decide (a.1 = x)) = false ↔ fnd A x < 0) := by
    intro x hx
    rw [List.any_eq_false]
    constructor
    · intro h
      rcases fnd_cases A x with ⟨i, hi, -, e⟩ | ⟨e, -⟩
      · exfalso
        obtain ⟨q, hq, eq⟩ := (K.mem (gt A i) (by rw [e]; exact hx)).2 (gt_mem hi)
        refine h (gt T q) (gt_mem (by rw [K.len]; exact hq)) ?_
        rw [eq]
        simpa using e
      · omega
    · intro h c hc q
      have q : c.1 = x := by simpa using q
      obtain ⟨i, hi, e⟩ := mem_gt hc
      have hm := (K.mem c (by rw [q]; exact hx)).1 ⟨i, by rw [← K.len]; exact hi, e⟩
      obtain ⟨j, hj, ej⟩ := mem_gt hm
      rcases fnd_cases A x with ⟨i, hi, e, -⟩ | ⟨-, e⟩
      · omega
      · exact e j hj (by rw [ej]; exact q)
  have hem : T.any emC = true ↔ A.length < n := by
    rw [← any_em K.rc, ← K.count, ← K.len, List.length_filter_lt_length_iff_exists, List.any_eq_true]
    constructor
    · rintro ⟨c, hc, h⟩; exact ⟨c, hc, by simpa using h⟩
    · rintro ⟨c, hc, h⟩; exact ⟨c, hc, by simpa using h⟩
  have hna : naC T (x, y) = true ↔ x ≠ 0 ∧ 0 ≤ y ∧ y < n := by
    unfold naC
    rw [K.len]
    simp only [decide_eq_true_eq]
  constructor
  · intro he
    obtain ⟨h1, h2, h3⟩ := ei_zero he
    obtain ⟨h4, -⟩ := ck_ok h1
    have h5 := hna.1 h4
    exact ⟨(hid x h5.1).1 h2, hem.1 h3, h5⟩
  · rintro ⟨h1, h2, h3⟩
    have h4 := hna.2 h3
    have hck : ckC T (x, y) = 0 := by simp [ckC, h4, K.rc]
    unfold eI
    rw [if_pos hck, (hid x h3.1).2 h1, hem.2 h2]
    rfl
theorem KI.ins {n : Nat} {T A : List Cel} (K : KI n T A) {x y : Int} (he : eI T (x, y) = 0) (hw : wu x) : KI n (rI T (x, y)) (A ++ [(x, y)]) := by
  obtain ⟨hf, hln, hx, hy0, hyn⟩ := (K.ins_iff x y).1 he
  obtain ⟨h, rfl⟩ := Int.eq_ofNat_of_zero_le hy0
  obtain ⟨I, hh⟩ := ins_h he
  have hr : rI T (x, (h : Int)) = insT T (x, (h : Int)) h := by
    unfold rI
    rw [if_pos he]
    simp
  rw [hr]
  have hg := ins_gt he
  have hl := K.len
  refine ⟨by rw [insT_length, K.len], by rw [← hl]; exact ins_rc he, ?_, ?_, fun c hc => ?_, fun c hc => ?_, wu_ins he K.wuT hw, fun c hc => ?_⟩
  · obtain ⟨z, hz, hze⟩ := I.free
    rw [← hl]
    refine ⟨z, hz, ?_⟩
    unfold frf at hze ⊢
    rw [hg z hz]
    exact hze
  · rw [List.map_append, List.nodup_append]
    refine ⟨K.nd, by simp, fun a ha b hb e => ?_⟩
    simp at hb
    obtain ⟨c, hc, e2⟩ := List.mem_map.1 ha
    obtain ⟨j, hj, ej⟩ := mem_gt hc
    rcases fnd_cases A x with ⟨i, hi, e3, -⟩ | ⟨-, e3⟩
    · omega
    · exact e3 j hj (by rw [ej, e2, e, hb])
  · rcases List.mem_append.1 hc with q | q
    · exact K.nz c q
    · simp at q; rw [q]; exact hx
  · have h1 := I.mem c hc
    have h2 : (∃ r, r < n ∧ gt (insT T (x, (h : Int)) h) r = c) ↔ ∃ r, r < T.length ∧ insf T.length (gt T) (x, (h : Int)) (ps T.length h (opK T h)) (moK T (ps T.length h (opK T h))) r = c := by
      rw [← hl]
      exact ⟨fun ⟨r, hr, e⟩ => ⟨r, hr, by rw [← hg r hr]; exact e⟩, fun ⟨r, hr, e⟩ => ⟨r, hr, by rw [hg r hr]; exact e⟩⟩
    have h3 := K.mem c hc
    rw [← hl] at h3
    rw [h2, h1, h3, List.mem_append, List.mem_singleton]
    exact or_comm
  · rcases List.mem_append.1 hc with q | q
    · exact K.wuA c q
    · simp at q; rw [q]; exact hw
/-- All that is in is found. -/
theorem KI.found {n : Nat} {T A : List Cel} (K : KI n T A) {i : Nat} (hi : i < A.length) : ∃ q, q < n ∧ FiC T (gt A i) = (q, true) ∧ gt T q = gt A i := by
  have hm := gt_mem hi
  have hx := K.nz _ hm
  obtain ⟨q, hq, e⟩ := (K.mem _ hx).2 hm
  have he := (K.del_iff (gt A i).1 (gt A i).2).2 hm
  have hck : ckC T (gt A i) = 0 := by
    unfold eD at he
    split at he
    · assumption
    · next h => exact absurd he h
  have hb := K.rt.hm q hq (by rw [e]; exact hx)
  rw [e] at hb
  obtain ⟨h, hh⟩ := Int.eq_ofNat_of_zero_le hb.1
  have hc : gt A i = ((gt A i).1, (h : Int)) := Prod.ext rfl hh
  refine ⟨q, hq, ?_, e⟩
  unfold FiC
  rw [if_pos hck]
  rw [hc] at e ⊢
  simp only [Int.toNat_natCast]
  exact fi_found K.rt' (by rw [K.len]; exact hq) e hx
end Go.Proofs.Ytjikikiconhlaaa.Pro
