/- Plain: what the program tests and makes is what the mathematics says. -/
import Derived.Test.YtjikikiconhlaaaProG
namespace Go.Proofs.Ytjikikiconhlaaa.Pro
open Go.RowKit
set_option linter.unusedVariables false

theorem emC_false {c : Cel} : emC c = false ↔ c ≠ (0, 0) := by
  rw [← Bool.not_eq_true, emC_iff]
theorem mem_ids {T : List Cel} {k : Nat} (hk : k ≤ T.length) (x : Int) : x ∈ ids T k ↔ ∃ j, j < k ∧ emC (gt T j) = false ∧ (gt T j).1 = x := by
  unfold ids
  rw [List.mem_map]
  constructor
  · rintro ⟨c, hc, rfl⟩
    obtain ⟨h1, h2⟩ := List.mem_filter.1 hc
    obtain ⟨j, hj, e⟩ := List.getElem_of_mem h1
    rw [List.length_take] at hj
    rw [List.getElem_take] at e
    have e2 : gt T j = c := by rw [← e]; simp [gt, List.getD, show j < T.length by omega]
    exact ⟨j, by omega, by rw [e2]; simpa using h2, by rw [e2]⟩
  · rintro ⟨j, hj, h1, h2⟩
    refine ⟨gt T j, List.mem_filter.2 ⟨?_, by simp [h1]⟩, h2⟩
    have e2 : gt T j = (T.take k)[j]'(by rw [List.length_take]; omega) := by rw [List.getElem_take]; simp [gt, List.getD, show j < T.length by omega]
    rw [e2]
    exact List.getElem_mem _
theorem rc_rtf {T : List Cel} (h : RC T = true) : RTf T.length (gt T) := by
  unfold RC at h
  rw [Bool.and_eq_true] at h
  obtain ⟨h1, h2⟩ := h
  have h0 : 0 < T.length := of_decide_eq_true h2
  have ok : ∀ i, i < T.length → gt T i = (0, 0) ∨ ((gt T i).1 ≠ 0 ∧ 0 ≤ (gt T i).2 ∧ (gt T i).2 < T.length) ∧ (gt T i).1 ∉ ids T i ∧ ldC T i = true := by
    intro i hi
    have := List.all_eq_true.1 h1 i (List.mem_range.2 hi)
    unfold okC naC at this
    simp only [Bool.or_eq_true, Bool.and_eq_true, Bool.not_eq_true', decide_eq_true_eq, decide_eq_false_iff_not, emC_iff] at this
    rcases this with h | ⟨⟨h, h'⟩, h''⟩
    · exact .inl h
    · exact .inr ⟨h, h', h''⟩
  refine ⟨h0, fun i hi he => ?_, fun i hi he => ?_, fun i k hi hk hne he e => ?_, fun i hi he => ?_⟩
  · rcases ok i hi with h | ⟨⟨h, -⟩, -⟩
    · rw [h]
    · exact absurd he h
  · rcases ok i hi with h | ⟨⟨-, h⟩, -⟩
    · rw [h] at he; exact absurd rfl he
    · exact h
  · have low : ∀ a b, a < b → b < T.length → (gt T b).1 ≠ 0 → (gt T b).1 ≠ (gt T a).1 := by
      intro a b hab hb hbe e2
      rcases ok b hb with h | ⟨-, h, -⟩
      · rw [h] at hbe; exact hbe rfl
      · refine h ((mem_ids (by omega) _).2 ⟨a, hab, ?_, e2.symm⟩)
        rw [emC_false]
        intro q
        rw [q] at e2
        exact hbe e2
    rcases Nat.lt_or_gt_of_ne hne with h | h
    · exact low i k h hk (by rw [← e]; exact he) e.symm
    · exact low k i h hi he e
  · rcases ok i hi with h | ⟨-, -, h⟩
    · rw [h] at he; exact absurd rfl he
    · unfold ldC at h
      simp only [Bool.or_eq_true, Bool.and_eq_true, Bool.not_eq_true', decide_eq_true_eq, emC_false] at h
      rcases h with h | ⟨h, h'⟩
      · exact .inl h
      · refine .inr ⟨fun q => ?_, h'⟩
        rcases ok _ (pv_lt hi) with h2 | ⟨⟨h2, -⟩, -⟩
        · exact h h2
        · exact h2 q
theorem rtf_rc {T : List Cel} (H : RTf T.length (gt T)) : RC T = true := by
  unfold RC
  rw [Bool.and_eq_true]
  refine ⟨List.all_eq_true.2 fun i hi => ?_, decide_eq_true H.pos⟩
  have hi := List.mem_range.1 hi
  unfold okC naC
  simp only [Bool.or_eq_true, Bool.and_eq_true, Bool.not_eq_true', decide_eq_true_eq, decide_eq_false_iff_not, emC_iff]
  by_cases e : (gt T i).1 = 0
  · left
    have h2 := H.emp i hi e
    rcases hc : gt T i with ⟨a, b⟩
    rw [hc] at e h2
    simp at e h2
    rw [e, h2]
  · right
    refine ⟨⟨⟨e, H.hm i hi e⟩, fun q => ?_⟩, ?_⟩
    · obtain ⟨j, hj, h1, h2⟩ := (mem_ids (by omega) _).1 q
      exact H.ne i j hi (by omega) (by omega) e h2.symm
    · unfold ldC
      simp only [Bool.or_eq_true, Bool.and_eq_true, Bool.not_eq_true', decide_eq_true_eq, emC_false]
      rcases H.led i hi e with h | ⟨h, h'⟩
      · exact .inl h
      · exact .inr ⟨fun q => h (by rw [q]), h'⟩
theorem em_iff {T : List Cel} (H : RTf T.length (gt T)) {p : Nat} (hp : p < T.length) : emC (gt T p) = true ↔ (gt T p).1 = 0 := by
  rw [emC_iff]
  constructor
  · intro h; rw [h]
  · intro h
    have h2 := H.emp p hp h
    rcases hc : gt T p with ⟨a, b⟩
    rw [hc] at h h2
    simp at h h2
    rw [h, h2]
theorem op_iff {T : List Cel} (H : RTf T.length (gt T)) {p : Nat} (h : Nat) (hp : p < T.length) : opC T p (h : Int) = true ↔ Opn T.length (gt T) h p := by
  unfold opC Opn fr
  rw [Bool.or_eq_true, em_iff H hp, decide_eq_true_eq]
theorem op_false {T : List Cel} (H : RTf T.length (gt T)) {p : Nat} (h : Nat) (hp : p < T.length) : opC T p (h : Int) = false ↔ ¬ Opn T.length (gt T) h p := by
  rw [← op_iff H h hp, Bool.not_eq_true]

theorem fi_found {T : List Cel} (H : RTf T.length (gt T)) {i h : Nat} {x : Int} (hi : i < T.length) (he : gt T i = (x, (h : Int))) (hx : x ≠ 0) : fiC T (x, (h : Int)) h = (i, true) := by
  have hne : (gt T i).1 ≠ 0 := by rw [he]; exact hx
  obtain ⟨h2, d, e1, e2, hh, hd, hps, -⟩ := far_nat H hi hne
  rw [he] at e1
  simp only at e1
  have e3 : h = h2 := by omega
  subst e3
  have hk : fiK T (x, (h : Int)) h = d := by
    refine sk_eq (by omega) (fun j hj => ?_) (fun _ => ?_)
    · rw [mod_ps hh (by omega)]
      have h1 := not_open H hi hne (by rw [he]) e2 j hj
      have hq := ps_lt (i := j) hh (by omega)
      rw [Bool.or_eq_false_iff, decide_eq_false_iff_not, op_false H h hq]
      refine ⟨fun q => ?_, h1⟩
      have hji : ps T.length h j ≠ i := fun q2 => by
        have := off_ps (i := j) hh (by omega)
        rw [q2, ← hps, off_ps hh hd] at this
        omega
      exact H.ne _ i hq hi hji (by rw [q]; exact hx) (by rw [q, he])
    · rw [mod_ps hh (by omega), hps, he]
      simp
  unfold fiC
  rw [hk, mod_ps hh (by omega), hps, if_pos he]
theorem fi_none {T : List Cel} {h : Nat} {c : Cel} (h0 : 0 < T.length) (hn : ∀ i, i < T.length → gt T i ≠ c) : fiC T c h = (0, false) := by
  unfold fiC
  rw [if_neg (hn _ (Nat.mod_lt _ h0))]

theorem gt_tab {S : List Cel} {n : Nat} {f : Nat → Cel} (hl : S.length = n) (h : ∀ j, j < n → gt S j = f j) (S' : List Cel) (hl' : S'.length = n) (h' : ∀ j, j < n → gt S' j = f j) : S = S' := by
  apply List.ext_getElem (by omega)
  intro i h1 h2
  have a := h i (by omega)
  have b := h' i (by omega)
  simp [gt, List.getD, h1] at a
  simp [gt, List.getD, h2] at b
  rw [a, b]
theorem bk_ps {n p m s : Nat} (hp : p < n) (hm : m < n) (hs : s ≤ m) : bk n (ps n p m) s = ps n p (m - s) := by
  unfold bk ps
  (repeat' split) <;> omega
theorem gt_swp {T : List Cel} {i j : Nat} (hi : i < T.length) (hj : j < T.length) (q : Nat) : gt (swp T i j) q = if q = j then gt T i else if q = i then gt T j else gt T q := by
  unfold swp
  rw [gt_set _ _ _ _ (by rw [List.length_set]; exact hj), gt_set _ _ _ _ hi]
/-- What the table is behind s of m steps backwards. -/
theorem car_back (T : List Cel) (c : Cel) (p m : Nat) (hp : p < T.length) (hm : m < T.length) (s : Nat) (hs : s ≤ m) (j : Nat) (hj : j < T.length) :
    gt (carT (T.set (ps T.length p m) c) (bk T.length (ps T.length p m)) s) j =
      if off T.length p j < m - s then gt T j else if off T.length p j = m - s then c else if off T.length p j ≤ m then gt T (pv T.length j) else gt T j := by
  induction s generalizing j with
  | zero =>
    show gt (T.set (ps T.length p m) c) j = _
    rw [gt_set _ _ _ _ (ps_lt hp (by omega)), Nat.sub_zero]
    by_cases e : off T.length p j = m
    · rw [if_pos (by rw [← e, ps_off hp hj]), if_neg (by omega), if_pos e]
    · rw [if_neg (fun q => e (by rw [q, off_ps hp hm]))]
      split
      · rfl
      · rw [if_neg (by omega)]
  | succ s ih =>
    have hl : (carT (T.set (ps T.length p m) c) (bk T.length (ps T.length p m)) s).length = T.length := by rw [carT_length, List.length_set]
    have b1 := bk_ps hp hm (show s ≤ m by omega)
    have b2 := bk_ps hp hm hs
    have l1 := ps_lt (i := m - s) hp (by omega)
    have l2 := ps_lt (i := m - (s + 1)) hp (by omega)
    have o1 := off_ps (i := m - s) hp (by omega)
    have o2 := off_ps (i := m - (s + 1)) hp (by omega)
    show gt (swp (carT (T.set (ps T.length p m) c) (bk T.length (ps T.length p m)) s) (bk T.length (ps T.length p m) s) (bk T.length (ps T.length p m) (s + 1))) j = _
    rw [b1, b2, gt_swp (by rw [hl]; exact l1) (by rw [hl]; exact l2), ih (by omega) _ l1, ih (by omega) _ l2, ih (by omega) _ hj, o1, o2]
    by_cases e : j = ps T.length p (m - (s + 1))
    · rw [if_pos e, if_neg (by omega), if_pos rfl, e, o2, if_neg (by omega), if_pos rfl]
    · rw [if_neg e]
      by_cases e2 : j = ps T.length p (m - s)
      · rw [if_pos e2, if_pos (by omega), e2, o1, if_neg (by omega), if_neg (by omega), if_pos (by omega)]
        congr 1
        have := pv_ps (i := m - (s + 1)) hp (by omega)
        rw [show m - (s + 1) + 1 = m - s by omega] at this
        exact this.symm
      · rw [if_neg e2]
        have n1 : off T.length p j ≠ m - (s + 1) := fun q => e (by rw [← q, ps_off hp hj])
        have n2 : off T.length p j ≠ m - s := fun q => e2 (by rw [← q, ps_off hp hj])
        by_cases h1 : off T.length p j < m - (s + 1)
        · rw [if_pos h1, if_pos (by omega)]
        · rw [if_neg h1, if_neg n1, if_neg (by omega), if_neg n2]
theorem car_fore (T : List Cel) (p : Nat) (hp : p < T.length) (s : Nat) (hs : s < T.length) (j : Nat) (hj : j < T.length) :
    gt (carT (T.set p (0, 0)) (ps T.length p) s) j = delf T.length (gt T) p s j := by
  unfold delf
  induction s generalizing j with
  | zero =>
    show gt (T.set p (0, 0)) j = _
    rw [gt_set _ _ _ _ hp]
    by_cases e : j = p
    · rw [if_pos e, e, off_self, if_neg (by omega), if_pos rfl]
    · rw [if_neg e, if_neg (by omega), if_neg (fun q => e (off_zero hp hj q))]
  | succ s ih =>
    have hl : (carT (T.set p (0, 0)) (ps T.length p) s).length = T.length := by rw [carT_length, List.length_set]
    have l1 := ps_lt (i := s) hp (by omega)
    have l2 := ps_lt (i := s + 1) hp (by omega)
    have o1 := off_ps (i := s) hp (by omega)
    have o2 := off_ps (i := s + 1) hp hs
    show gt (swp (carT (T.set p (0, 0)) (ps T.length p) s) (ps T.length p s) (ps T.length p (s + 1))) j = _
    rw [gt_swp (by rw [hl]; exact l1) (by rw [hl]; exact l2), ih (by omega) _ l1, ih (by omega) _ l2, ih (by omega) _ hj, o1, o2]
    by_cases e : j = ps T.length p (s + 1)
    · rw [if_pos e, if_neg (by omega), if_pos rfl, e, o2, if_neg (by omega), if_pos rfl]
    · rw [if_neg e]
      by_cases e2 : j = ps T.length p s
      · rw [if_pos e2, if_neg (by omega), if_neg (by omega), e2, o1, if_pos (by omega)]
        congr 1
        rw [← pv_ps hp hs, nx_pv l2]
      · rw [if_neg e2]
        have n1 : off T.length p j ≠ s + 1 := fun q => e (by rw [← q, ps_off hp hj])
        have n2 : off T.length p j ≠ s := fun q => e2 (by rw [← q, ps_off hp hj])
        by_cases h1 : off T.length p j < s
        · rw [if_pos h1, if_pos (by omega)]
        · rw [if_neg h1, if_neg n2, if_neg (by omega), if_neg n1]

/-- What is known where Insert puts a cell in. -/
theorem ins_h {T : List Cel} {x : Int} {h : Nat} (he : eI T (x, (h : Int)) = 0) : InsH T.length (gt T) (x, (h : Int)) h (opK T h) (moK T (ps T.length h (opK T h))) ∧ h < T.length := by
  unfold eI at he
  split at he
  case isFalse hc => exact absurd he hc
  case isTrue hc =>
  obtain ⟨h1, h2⟩ := ck_ok hc
  split at he
  · cases he
  case isFalse ha =>
  split at he
  case isFalse => cases he
  case isTrue hem =>
  have H := rc_rtf h2
  unfold naC at h1
  have h1 := of_decide_eq_true h1
  simp only at h1
  have hh : h < T.length := by omega
  obtain ⟨z, hz, hze⟩ : ∃ z, z < T.length ∧ (gt T z).1 = 0 := by
    obtain ⟨c, hcm, hce⟩ := List.any_eq_true.1 hem
    obtain ⟨i, hi, rfl⟩ := List.getElem_of_mem hcm
    refine ⟨i, hi, ?_⟩
    have : gt T i = T[i] := by simp [gt, List.getD, hi]
    rw [this, (emC_iff _).1 hce]
  have hk : opK T h < T.length := by
    rcases Nat.lt_or_ge (opK T h) T.length with hlt | hge
    · exact hlt
    · exfalso
      have := off_lt hh hz
      have h3 := sk_no (P := fun s => opC T ((h + s) % T.length) h) (n := T.length) (j := off T.length h z) (by unfold opK at hge; omega)
      rw [mod_ps hh (by omega), ps_off hh hz, op_false H h hz] at h3
      exact h3 (.inl hze)
  have hp := ps_lt (i := opK T h) hh (by omega)
  have hm := moK_lt hp hem
  refine ⟨⟨H, h1.1, rfl, hh, fun i hi q => ?_, hk, fun j hj => ?_, ?_, hm, fun j hj => ?_, ?_⟩, hh⟩
  · refine ha (List.any_eq_true.2 ⟨gt T i, by simp [gt, List.getD, hi], ?_⟩)
    simpa using q
  · have h3 := sk_no (P := fun s => opC T ((h + s) % T.length) h) (n := T.length) hj
    rw [mod_ps hh (by omega), op_false H h (ps_lt hh (by omega))] at h3
    exact h3
  · have h3 := sk_yes (P := fun s => opC T ((h + s) % T.length) h) (n := T.length) hk
    rw [show sk (fun s => opC T ((h + s) % T.length) h) T.length = opK T h from rfl, mod_ps hh (by omega), op_iff H h hp] at h3
    exact h3
  · have h3 := sk_no (P := fun s => emC (gt T ((ps T.length h (opK T h) + s) % T.length))) (n := T.length) hj
    rw [mod_ps hp (by omega), ← Bool.not_eq_true, em_iff H (ps_lt hp (by omega))] at h3
    exact h3
  · have h3 := sk_yes (P := fun s => emC (gt T ((ps T.length h (opK T h) + s) % T.length))) (n := T.length) hm
    rw [show sk (fun s => emC (gt T ((ps T.length h (opK T h) + s) % T.length))) T.length = moK T (ps T.length h (opK T h)) from rfl, mod_ps hp (by omega), em_iff H (ps_lt hp (by omega))] at h3
    exact h3
theorem insT_length (T : List Cel) (c : Cel) (h : Nat) : (insT T c h).length = T.length := by unfold insT; rw [carT_length, List.length_set]
theorem ins_gt {T : List Cel} {x : Int} {h : Nat} (he : eI T (x, (h : Int)) = 0) : ∀ j, j < T.length → gt (insT T (x, (h : Int)) h) j = insf T.length (gt T) (x, (h : Int)) (ps T.length h (opK T h)) (moK T (ps T.length h (opK T h))) j := by
  obtain ⟨I, hh⟩ := ins_h he
  intro j hj
  have hp := I.pn
  unfold insT
  rw [mod_ps hh (Nat.le_of_lt I.kn), mod_ps hp (Nat.le_of_lt I.mn), car_back T _ _ _ hp I.mn _ (Nat.le_refl _) j hj, if_neg (by omega), Nat.sub_self]
  rfl
theorem rtf_congr {n : Nat} {t t' : Nat → Cel} (H : RTf n t) (h : ∀ j, j < n → t' j = t j) : RTf n t' := by
  have hf : ∀ j, j < n → frf n t' j = frf n t j := fun j hj => by unfold frf; rw [h j hj]
  refine ⟨H.pos, fun i hi => ?_, fun i hi => ?_, fun i k hi hk => ?_, fun i hi => ?_⟩
  · rw [h i hi]; exact H.emp i hi
  · rw [h i hi]; exact H.hm i hi
  · rw [h i hi, h k hk]; exact H.ne i k hi hk
  · rw [h i hi, h _ (pv_lt hi), hf i hi, hf _ (pv_lt hi)]; exact H.led i hi
theorem ins_rc {T : List Cel} {x : Int} {h : Nat} (he : eI T (x, (h : Int)) = 0) : RTf T.length (gt (insT T (x, (h : Int)) h)) := rtf_congr (ins_h he).1.rtf (ins_gt he)

/-- Delete's steps. -/
theorem del_pos {T : List Cel} {p j : Nat} (hp : p < T.length) (hj : j < T.length) : (p + 1 + j) % (T.set p (0, 0)).length = ps T.length p (j + 1) := by
  rw [List.length_set, show p + 1 + j = p + (j + 1) by omega, mod_ps hp (by omega)]
theorem del_pred {T : List Cel} (H : RTf T.length (gt T)) {p j : Nat} (hp : p < T.length) (hj : j + 1 < T.length) :
    (emC (gt (T.set p (0, 0)) ((p + 1 + j) % (T.set p (0, 0)).length)) || decide (fr (T.set p (0, 0)) ((p + 1 + j) % (T.set p (0, 0)).length) = 0)) = true ↔ (gt T (ps T.length p (j + 1))).1 = 0 ∨ frf T.length (gt T) (ps T.length p (j + 1)) = 0 := by
  have hq := ps_lt (i := j + 1) hp (by omega)
  have hne : ps T.length p (j + 1) ≠ p := fun e => by
    have := off_ps (i := j + 1) hp hj
    rw [e, off_self] at this
    omega
  have e1 : gt (T.set p (0, 0)) (ps T.length p (j + 1)) = gt T (ps T.length p (j + 1)) := by rw [gt_set _ _ _ _ hp, if_neg hne]
  rw [del_pos hp (by omega), Bool.or_eq_true, decide_eq_true_eq]
  unfold fr frf
  rw [e1, em_iff H hq, List.length_set]
theorem he_del {T : List Cel} (H : RTf T.length (gt T)) {p : Nat} (hp : p < T.length) : DelH T.length (gt T) p (heK (T.set p (0, 0)) (p + 1)) := by
  have hm := heK_lt hp
  refine ⟨H, hp, hm, fun j hj => ?_, fun hlt => ?_⟩
  · have h3 := sk_no (P := fun s => emC (gt (T.set p (0, 0)) ((p + 1 + s) % (T.set p (0, 0)).length)) || decide (fr (T.set p (0, 0)) ((p + 1 + s) % (T.set p (0, 0)).length) = 0)) (n := (T.set p (0, 0)).length) hj
    rw [← Bool.not_eq_true, del_pred H hp (by omega)] at h3
    exact ⟨fun q => h3 (.inl q), fun q => h3 (.inr q)⟩
  · have h3 := sk_yes (P := fun s => emC (gt (T.set p (0, 0)) ((p + 1 + s) % (T.set p (0, 0)).length)) || decide (fr (T.set p (0, 0)) ((p + 1 + s) % (T.set p (0, 0)).length) = 0)) (n := (T.set p (0, 0)).length) (show heK (T.set p (0, 0)) (p + 1) < (T.set p (0, 0)).length by rw [List.length_set]; exact hm)
    exact (del_pred H hp (by unfold heK at hlt; exact hlt)).1 h3
theorem del_he {T : List Cel} {p m : Nat} (D : DelH T.length (gt T) p m) : heK (T.set p (0, 0)) (p + 1) = m := by
  have hp := D.pn
  have hm := D.mn
  refine sk_eq (by rw [List.length_set]; omega) (fun j hj => ?_) (fun _ => ?_)
  · rw [← Bool.not_eq_true, del_pred D.rt hp (by omega)]
    have := D.run j hj
    exact fun q => q.elim this.1 this.2
  · rcases Nat.lt_or_ge (m + 1) T.length with hlt | hge
    · rw [del_pred D.rt hp hlt]
      exact D.stop hlt
    · rw [del_pos hp hm, show ps T.length p (m + 1) = p by unfold ps; split <;> omega, gt_set _ _ _ _ hp, if_pos rfl]
      rfl
theorem delT_length (T : List Cel) (p : Nat) : (delT T p).length = T.length := by unfold delT; rw [carT_length, List.length_set]
theorem del_gt {T : List Cel} {p m : Nat} (D : DelH T.length (gt T) p m) : ∀ j, j < T.length → gt (delT T p) j = delf T.length (gt T) p m j := by
  intro j hj
  unfold delT
  rw [del_he D]
  exact car_fore T p D.pn m D.mn j hj
/-- What was put in and is taken out again leaves the table. -/
theorem del_ins {T : List Cel} {x : Int} {h : Nat} (he : eI T (x, (h : Int)) = 0) : eD (insT T (x, (h : Int)) h) (x, (h : Int)) = 0 ∧ rD (insT T (x, (h : Int)) h) (x, (h : Int)) = T := by
  obtain ⟨I, hh⟩ := ins_h he
  have hl := insT_length T (x, (h : Int)) h
  have H' := ins_rc he
  have hg := ins_gt he
  have hp := I.pn
  have hat : gt (insT T (x, (h : Int)) h) (ps T.length h (opK T h)) = (x, (h : Int)) := by rw [hg _ hp, insf_a off_self]
  have hf : fiC (insT T (x, (h : Int)) h) (x, (h : Int)) h = (ps T.length h (opK T h), true) := by
    refine fi_found (by rw [hl]; exact H') (by rw [hl]; exact hp) hat I.id
  have hck : ckC (insT T (x, (h : Int)) h) (x, (h : Int)) = 0 := by
    unfold ckC
    have h1 : naC (insT T (x, (h : Int)) h) (x, (h : Int)) = true := by
      unfold naC
      rw [hl]
      have := I.id
      simp only at this
      simp [this]
      omega
    have h2 : RC (insT T (x, (h : Int)) h) = true := rtf_rc (by rw [hl]; exact H')
    rw [h1, h2]
    rfl
  have hE : eD (insT T (x, (h : Int)) h) (x, (h : Int)) = 0 := by
    unfold eD
    rw [if_pos hck]
    simp [hf]
  refine ⟨hE, ?_⟩
  unfold rD
  rw [if_pos hE]
  simp only [Int.toNat_natCast, hf]
  obtain ⟨D, hdel⟩ := I.del
  have D' : DelH (insT T (x, (h : Int)) h).length (gt (insT T (x, (h : Int)) h)) (ps T.length h (opK T h)) (moK T (ps T.length h (opK T h))) := by
    rw [hl]
    refine ⟨H', D.pn, D.mn, fun j hj => ?_, fun hlt => ?_⟩
    · have h1 := D.run j hj
      have hq := ps_lt (i := j + 1) hp (by have := D.mn; omega)
      unfold frf at h1 ⊢
      rw [hg _ hq]
      exact h1
    · have h1 := D.stop hlt
      have hq := ps_lt (i := moK T (ps T.length h (opK T h)) + 1) hp (by omega)
      unfold frf at h1 ⊢
      rw [hg _ hq]
      exact h1
  have hd := del_gt D'
  rw [hl] at hd
  refine gt_tab (n := T.length) (f := gt T) (by rw [delT_length, hl]) (fun j hj => ?_) T rfl (fun j hj => rfl)
  rw [hd j hj]
  have h2 := hdel j hj
  rw [← h2]
  unfold delf
  rw [hg _ hj, hg _ (nx_lt hj)]
end Go.Proofs.Ytjikikiconhlaaa.Pro
