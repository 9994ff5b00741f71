/- Plain mathematics of probe: tables in a ring, ordered by distance. Plain: the first number of which something holds. -/
import Derived.Test.YtcpfnmphcndmjaaGreatDoorJ1
namespace Go.Proofs.YtcpfnmphcndmjaaGreatDoor.Pro
set_option linter.unusedVariables false

/-- How far it is from h on to a, in a ring of n. -/
def dI (n h a : Int) : Int := if (0 ≤ h ∧ h < n) ∧ 0 ≤ a ∧ a < n then (if a < h then a - h + n else a - h) else 0
def pv (n i : Nat) : Nat := if i = 0 then n - 1 else i - 1
def nx (n i : Nat) : Nat := if i + 1 = n then 0 else i + 1
def ps (n h i : Nat) : Nat := if h + i < n then h + i else h + i - n
def off (n p q : Nat) : Nat := if p ≤ q then q - p else q + n - p
abbrev Cel := Int × Int
def frf (n : Nat) (t : Nat → Cel) (i : Nat) : Int := dI n (t i).2 i

theorem dI_nn (n h a : Int) : 0 ≤ dI n h a := by
  unfold dI
  split
  · split <;> omega
  · omega
theorem dI_lt (n h a : Int) (hn : 0 < n) : dI n h a < n := by
  unfold dI
  split
  · split <;> omega
  · omega
theorem dI_ps {n h i : Nat} (hh : h < n) (hi : i < n) : dI n h (ps n h i : Nat) = i := by
  unfold dI ps
  (repeat' split) <;> omega
theorem dI_off {n h q : Nat} (hh : h < n) (hq : q < n) : dI n h q = off n h q := by
  unfold dI off
  (repeat' split) <;> omega
theorem ps_lt {n h i : Nat} (hh : h < n) (hi : i ≤ n) : ps n h i < n := by
  unfold ps; split <;> omega
theorem off_lt {n p q : Nat} (hp : p < n) (hq : q < n) : off n p q < n := by
  unfold off; split <;> omega
theorem ps_off {n p q : Nat} (hp : p < n) (hq : q < n) : ps n p (off n p q) = q := by
  unfold ps off; (repeat' split) <;> omega
theorem off_ps {n p i : Nat} (hp : p < n) (hi : i < n) : off n p (ps n p i) = i := by
  unfold ps off; (repeat' split) <;> omega
theorem pv_lt {n i : Nat} (hi : i < n) : pv n i < n := by unfold pv; split <;> omega
theorem nx_lt {n i : Nat} (hi : i < n) : nx n i < n := by unfold nx; split <;> omega
theorem pv_nx {n i : Nat} (hi : i < n) : pv n (nx n i) = i := by unfold pv nx; (repeat' split) <;> omega
theorem nx_pv {n i : Nat} (hi : i < n) : nx n (pv n i) = i := by unfold pv nx; (repeat' split) <;> omega
theorem off_pv {n p q : Nat} (hp : p < n) (hq : q < n) (h : 1 ≤ off n p q) : off n p (pv n q) = off n p q - 1 := by
  unfold off pv at *
  split at h <;> (repeat' split) <;> omega
theorem off_pv0 {n p : Nat} (hp : p < n) : off n p (pv n p) = n - 1 := by
  unfold off pv
  (repeat' split) <;> omega
theorem off_nx {n p q : Nat} (hp : p < n) (hq : q < n) (h : off n p q + 1 < n) : off n p (nx n q) = off n p q + 1 := by
  unfold off nx at *
  split at h <;> (repeat' split) <;> omega
theorem off_self {n p : Nat} : off n p p = 0 := by unfold off; split <;> omega
theorem off_zero {n p q : Nat} (hp : p < n) (hq : q < n) (h : off n p q = 0) : q = p := by
  unfold off at h; split at h <;> omega
theorem off_inj {n p q r : Nat} (hp : p < n) (hq : q < n) (hr : r < n) (h : off n p q = off n p r) : q = r := by
  unfold off at h; split at h <;> split at h <;> omega
theorem ps_zero {n h : Nat} (hh : h < n) : ps n h 0 = h := by unfold ps; split <;> omega
theorem ps_nx {n h i : Nat} (hh : h < n) (hi : i < n) : ps n (nx n h) i = ps n h (i + 1) := by
  unfold ps nx; (repeat' split) <;> omega
theorem pv_ps {n h i : Nat} (hh : h < n) (hi : i + 1 < n) : pv n (ps n h (i + 1)) = ps n h i := by
  unfold pv ps; (repeat' split) <;> omega
theorem dI_pv {n q : Nat} {h : Int} (h0 : 0 ≤ h) (h1 : h < n) (hq : q < n) (hd : dI n h (pv n q : Nat) + 1 < n) : dI n h q = dI n h (pv n q : Nat) + 1 := by
  obtain ⟨k, rfl⟩ := Int.eq_ofNat_of_zero_le h0
  rw [dI_off (by omega) hq]
  rw [dI_off (by omega) (pv_lt hq)] at hd ⊢
  unfold off pv at *
  split at hd <;> split at hd <;> (repeat' split) <;> omega
theorem dI_nx {n q : Nat} {h : Int} (h0 : 0 ≤ h) (h1 : h < n) (hq : q < n) (hd : 1 ≤ dI n h (nx n q : Nat)) : dI n h q = dI n h (nx n q : Nat) - 1 := by
  obtain ⟨k, rfl⟩ := Int.eq_ofNat_of_zero_le h0
  rw [dI_off (by omega) hq]
  rw [dI_off (by omega) (nx_lt hq)] at hd ⊢
  unfold off nx at *
  split at hd <;> split at hd <;> (repeat' split) <;> omega

/-- A table that may be. -/
structure RTf (n : Nat) (t : Nat → Cel) : Prop where
  pos : 0 < n
  emp : ∀ i, i < n → (t i).1 = 0 → (t i).2 = 0
  hm : ∀ i, i < n → (t i).1 ≠ 0 → 0 ≤ (t i).2 ∧ (t i).2 < n
  ne : ∀ i k, i < n → k < n → i ≠ k → (t i).1 ≠ 0 → (t i).1 ≠ (t k).1
  led : ∀ i, i < n → (t i).1 ≠ 0 → frf n t i = 0 ∨ ((t (pv n i)).1 ≠ 0 ∧ frf n t i - 1 ≤ frf n t (pv n i))
/-- A position is open for a home. -/
def Opn (n : Nat) (t : Nat → Cel) (h p : Nat) : Prop := (t p).1 = 0 ∨ frf n t p < dI n h p
/-- The chain: behind a cell that is d from its home there are d cells, none nearer than it may be. -/
theorem chain {n : Nat} {t : Nat → Cel} (H : RTf n t) {i h d : Nat} (hi : i < n) (hne : (t i).1 ≠ 0) (hh : (t i).2 = h) (hd : frf n t i = d) :
    ∀ j, j ≤ d → (t (ps n h (d - j))).1 ≠ 0 ∧ (d : Int) - j ≤ frf n t (ps n h (d - j)) := by
  have hb := H.hm i hi hne
  have hhn : h < n := by omega
  have hdn : d < n := by
    have h1 := dI_lt n (t i).2 i (by omega)
    unfold frf at hd
    omega
  have hps : ps n h d = i := by
    have h1 := ps_off hhn hi
    unfold frf at hd
    rw [hh, dI_off hhn hi] at hd
    rw [show off n h i = d by omega] at h1
    exact h1
  intro j
  induction j with
  | zero => intro _; rw [Nat.sub_zero, hps]; exact ⟨hne, by omega⟩
  | succ j ih =>
    intro hj
    obtain ⟨q1, q2⟩ := ih (by omega)
    have q3 : pv n (ps n h (d - j)) = ps n h (d - (j + 1)) := by
      rw [show d - j = (d - (j + 1)) + 1 by omega]
      exact pv_ps hhn (by omega)
    rcases H.led _ (ps_lt hhn (by omega)) q1 with h0 | ⟨h1, h2⟩
    · omega
    · rw [q3] at h1 h2
      exact ⟨h1, by omega⟩
/-- How far a cell is, as a natural. -/
theorem far_nat {n : Nat} {t : Nat → Cel} (H : RTf n t) {i : Nat} (hi : i < n) (hne : (t i).1 ≠ 0) : ∃ h d : Nat, (t i).2 = h ∧ frf n t i = d ∧ h < n ∧ d < n ∧ ps n h d = i ∧ d = off n h i := by
  have hb := H.hm i hi hne
  obtain ⟨h, hh⟩ := Int.eq_ofNat_of_zero_le hb.1
  have hhn : h < n := by omega
  refine ⟨h, off n h i, hh, ?_, hhn, off_lt hhn hi, ps_off hhn hi, rfl⟩
  unfold frf
  rw [hh]
  exact dI_off hhn hi
/-- On the way to a cell no position is open for its home. -/
theorem not_open {n : Nat} {t : Nat → Cel} (H : RTf n t) {i h d : Nat} (hi : i < n) (hne : (t i).1 ≠ 0) (hh : (t i).2 = h) (hd : frf n t i = d) (j : Nat) (hj : j < d) : ¬ Opn n t h (ps n h j) := by
  have h1 := chain H hi hne hh hd (d - j) (by omega)
  rw [show d - (d - j) = j by omega] at h1
  have hb := H.hm i hi hne
  have hdn : d < n := by
    have h1 := dI_lt n (t i).2 i (by omega)
    unfold frf at hd
    omega
  intro ho
  rcases ho with ho | ho
  · exact h1.1 ho
  · rw [dI_ps (by omega) (by omega)] at ho
    omega
/-- Where a cell is empty, none is n - 1 from home. -/
theorem not_full {n : Nat} {t : Nat → Cel} (H : RTf n t) {i z : Nat} (hi : i < n) (hne : (t i).1 ≠ 0) (hz : z < n) (hze : (t z).1 = 0) : frf n t i + 1 < n := by
  obtain ⟨h, d, hh, hd, hhn, hdn, hps, -⟩ := far_nat H hi hne
  rcases Nat.lt_or_ge (d + 1) n with hlt | hge
  · omega
  · exfalso
    have ho := off_lt hhn hz
    by_cases e : off n h z = d
    · have := ps_off hhn hz
      rw [e, hps] at this
      exact hne (this ▸ hze)
    · have h1 := not_open H hi hne hh hd (off n h z) (by omega)
      rw [ps_off hhn hz] at h1
      exact h1 (.inl hze)

/-- A cell put in at position p, from where on cells move, up to m further on. -/
def insf (n : Nat) (t : Nat → Cel) (c : Cel) (p m q : Nat) : Cel := if off n p q = 0 then c else if off n p q ≤ m then t (pv n q) else t q
/-- The cell at position p taken out: m cells behind it move back. -/
def delf (n : Nat) (t : Nat → Cel) (p m q : Nat) : Cel := if off n p q < m then t (nx n q) else if off n p q = m then (0, 0) else t q
theorem insf_a {n : Nat} {t : Nat → Cel} {c : Cel} {p m q : Nat} (h : off n p q = 0) : insf n t c p m q = c := if_pos h
theorem insf_b {n : Nat} {t : Nat → Cel} {c : Cel} {p m q : Nat} (h : 1 ≤ off n p q) (h2 : off n p q ≤ m) : insf n t c p m q = t (pv n q) := by
  unfold insf; rw [if_neg (by omega), if_pos h2]
theorem insf_c {n : Nat} {t : Nat → Cel} {c : Cel} {p m q : Nat} (h : m < off n p q) : insf n t c p m q = t q := by
  unfold insf; rw [if_neg (by omega), if_neg (by omega)]
theorem delf_a {n : Nat} {t : Nat → Cel} {p m q : Nat} (h : off n p q < m) : delf n t p m q = t (nx n q) := if_pos h
theorem delf_b {n : Nat} {t : Nat → Cel} {p m q : Nat} (h : off n p q = m) : delf n t p m q = (0, 0) := by
  unfold delf; rw [if_neg (by omega), if_pos h]
theorem delf_c {n : Nat} {t : Nat → Cel} {p m q : Nat} (h : m < off n p q) : delf n t p m q = t q := by
  unfold delf; rw [if_neg (by omega), if_neg (by omega)]

theorem ins_stay {n : Nat} {t : Nat → Cel} {c : Cel} {p m q : Nat} (ho : m < off n p q) : frf n (insf n t c p m) q = frf n t q := by
  unfold frf
  rw [insf_c ho]
theorem del_stay {n : Nat} {t : Nat → Cel} {p m q : Nat} (ho : m < off n p q) : frf n (delf n t p m) q = frf n t q := by
  unfold frf
  rw [delf_c ho]

/-- What is known where a cell is put in: h its home, k the steps to the first open position, m the steps from there to the first empty one. -/
structure InsH (n : Nat) (t : Nat → Cel) (c : Cel) (h k m : Nat) : Prop where
  rt : RTf n t
  id : c.1 ≠ 0
  hm : c.2 = h
  hn : h < n
  fresh : ∀ i, i < n → (t i).1 ≠ c.1
  kn : k < n
  shut : ∀ j, j < k → ¬ Opn n t h (ps n h j)
  opn : Opn n t h (ps n h k)
  mn : m < n
  run : ∀ j, j < m → (t (ps n (ps n h k) j)).1 ≠ 0
  hole : (t (ps n (ps n h k) m)).1 = 0
theorem InsH.fits {n : Nat} {t : Nat → Cel} {c : Cel} {h k m : Nat} (I : InsH n t c h k m) : k + m < n := by
  have a1 := I.hn; have a2 := I.kn; have a3 := I.mn
  rcases Nat.lt_or_ge (k + m) n with h1 | h1
  · exact h1
  · exfalso
    refine I.shut (k + m - n) (by omega) (.inl ?_)
    have := I.hole
    rw [show ps n (ps n h k) m = ps n h (k + m - n) by unfold ps; (repeat' split) <;> omega] at this
    exact this
section ins
variable {n : Nat} {t : Nat → Cel} {c : Cel} {h k m : Nat} (I : InsH n t c h k m)
include I
theorem InsH.pn : ps n h k < n := ps_lt I.hn (Nat.le_of_lt I.kn)
theorem InsH.some {q : Nat} (hq : q < n) (ho : off n (ps n h k) q < m) : (t q).1 ≠ 0 := by
  have := I.run _ ho
  rwa [ps_off I.pn hq] at this
theorem InsH.none {q : Nat} (hq : q < n) (ho : off n (ps n h k) q = m) : (t q).1 = 0 := by
  have := I.hole
  rwa [← ho, ps_off I.pn hq] at this
theorem InsH.slack {q : Nat} (hq : q < n) (hne : (t q).1 ≠ 0) : frf n t q + 1 < n := not_full I.rt hq hne (ps_lt I.pn (Nat.le_of_lt I.mn)) I.hole
/-- How far a cell that moved is. -/
theorem InsH.moved {q : Nat} (hq : q < n) (h1 : 1 ≤ off n (ps n h k) q) (h2 : off n (ps n h k) q ≤ m) : (t (pv n q)).1 ≠ 0 ∧ frf n (insf n t c (ps n h k) m) q = frf n t (pv n q) + 1 := by
  have hs : (t (pv n q)).1 ≠ 0 := I.some (pv_lt hq) (by rw [off_pv I.pn hq h1]; omega)
  refine ⟨hs, ?_⟩
  have hb := I.rt.hm _ (pv_lt hq) hs
  have := I.slack (pv_lt hq) hs
  unfold frf at *
  rw [insf_b h1 h2]
  exact dI_pv hb.1 hb.2 hq this
theorem InsH.at_far {q : Nat} (ho : off n (ps n h k) q = 0) (hq : q < n) : frf n (insf n t c (ps n h k) m) q = k := by
  unfold frf
  rw [insf_a ho, off_zero I.pn hq ho, I.hm]
  exact dI_ps I.hn I.kn
/-- The cell behind the hole is empty or at home. -/
theorem InsH.behind {q : Nat} (hq : q < n) (ho : off n (ps n h k) q = m + 1) : (t q).1 = 0 ∨ frf n t q = 0 := by
  by_cases e : (t q).1 = 0
  · exact .inl e
  · rcases I.rt.led q hq e with h1 | ⟨h1, -⟩
    · exact .inr h1
    · exact absurd (I.none (pv_lt hq) (by rw [off_pv I.pn hq (by omega)]; omega)) h1
theorem InsH.rtf : RTf n (insf n t c (ps n h k) m) := by
  have hp := I.pn
  have hkn := I.kn
  have hmn := I.mn
  have hfit := I.fits
  refine ⟨I.rt.pos, fun q hq he => ?_, fun q hq he => ?_, fun q r hq hr hne he => ?_, fun q hq he => ?_⟩
  · rcases Nat.lt_or_ge m (off n (ps n h k) q) with h1 | h1
    · rw [insf_c h1] at he ⊢
      exact I.rt.emp q hq he
    · by_cases h0 : off n (ps n h k) q = 0
      · rw [insf_a h0] at he
        exact absurd he I.id
      · exact absurd (by rwa [insf_b (by omega) h1] at he) (I.moved hq (by omega) h1).1
  · rcases Nat.lt_or_ge m (off n (ps n h k) q) with h1 | h1
    · rw [insf_c h1] at he ⊢
      exact I.rt.hm q hq he
    · by_cases h0 : off n (ps n h k) q = 0
      · rw [insf_a h0, I.hm]
        have := I.hn
        omega
      · rw [insf_b (by omega) h1] at he ⊢
        exact I.rt.hm _ (pv_lt hq) he
  · rcases Nat.lt_or_ge m (off n (ps n h k) q) with h1 | h1
    · rw [insf_c h1] at he ⊢
      rcases Nat.lt_or_ge m (off n (ps n h k) r) with h2 | h2
      · rw [insf_c h2]
        exact I.rt.ne q r hq hr hne he
      · by_cases h3 : off n (ps n h k) r = 0
        · rw [insf_a h3]
          exact I.fresh q hq
        · rw [insf_b (by omega) h2]
          refine I.rt.ne q _ hq (pv_lt hr) (fun e => ?_) he
          have := off_pv hp hr (by omega)
          rw [← e] at this
          omega
    · by_cases h0 : off n (ps n h k) q = 0
      · rw [insf_a h0]
        rcases Nat.lt_or_ge m (off n (ps n h k) r) with h2 | h2
        · rw [insf_c h2]
          exact fun e => I.fresh r hr e.symm
        · by_cases h3 : off n (ps n h k) r = 0
          · exact absurd (off_inj hp hq hr (by omega)) hne
          · rw [insf_b (by omega) h2]
            exact fun e => I.fresh _ (pv_lt hr) e.symm
      · rw [insf_b (by omega) h1] at he ⊢
        have hoq := off_pv hp hq (by omega)
        rcases Nat.lt_or_ge m (off n (ps n h k) r) with h2 | h2
        · rw [insf_c h2]
          refine I.rt.ne _ r (pv_lt hq) hr (fun e => ?_) he
          rw [e] at hoq
          omega
        · by_cases h3 : off n (ps n h k) r = 0
          · rw [insf_a h3]
            exact I.fresh _ (pv_lt hq)
          · rw [insf_b (by omega) h2]
            refine I.rt.ne _ _ (pv_lt hq) (pv_lt hr) (fun e => ?_) he
            have hor := off_pv hp hr (by omega)
            rw [e, hor] at hoq
            exact hne (off_inj hp hq hr (by omega))
  · rcases Nat.lt_or_ge m (off n (ps n h k) q) with h1 | h1
    · rw [ins_stay h1]
      rw [insf_c h1] at he
      have hoq := off_pv hp hq (by omega)
      by_cases h2 : off n (ps n h k) q = m + 1
      · rcases I.behind hq h2 with h3 | h3
        · exact absurd h3 he
        · exact .inl h3
      · rw [ins_stay (q := pv n q) (by omega), insf_c (q := pv n q) (by omega)]
        exact I.rt.led q hq he
    · by_cases h0 : off n (ps n h k) q = 0
      · rw [I.at_far h0 hq]
        by_cases hk0 : k = 0
        · left; omega
        · right
          obtain rfl := off_zero hp hq h0
          have ho := off_pv0 hp
          have e1 : pv n (ps n h k) = ps n h (k - 1) := by
            have := pv_ps (i := k - 1) I.hn (by omega)
            rwa [show k - 1 + 1 = k by omega] at this
          rw [insf_c (q := pv n (ps n h k)) (by omega), ins_stay (q := pv n (ps n h k)) (by omega), e1]
          have hs := I.shut (k - 1) (by omega)
          unfold Opn at hs
          rw [dI_ps I.hn (by omega)] at hs
          refine ⟨fun e => hs (.inl e), ?_⟩
          have := fun e => hs (.inr e)
          omega
      · right
        obtain ⟨g1, g2⟩ := I.moved hq (by omega) h1
        have hoq := off_pv hp hq (by omega)
        rw [g2]
        by_cases h3 : off n (ps n h k) (pv n q) = 0
        · rw [insf_a h3, I.at_far h3 (pv_lt hq)]
          refine ⟨I.id, ?_⟩
          have ho := I.opn
          rw [← off_zero hp (pv_lt hq) h3] at ho
          rcases ho with ho | ho
          · exact absurd ho g1
          · rw [off_zero hp (pv_lt hq) h3] at ho ⊢
            rw [dI_ps I.hn I.kn] at ho
            omega
        · obtain ⟨g3, g4⟩ := I.moved (pv_lt hq) (by omega) (by omega)
          rw [insf_b (q := pv n q) (by omega) (by omega), g4]
          refine ⟨g3, ?_⟩
          rcases I.rt.led _ (pv_lt hq) g1 with h5 | ⟨h5, h6⟩
          · have := dI_nn n (t (pv n (pv n q))).2 (pv n (pv n q) : Nat)
            unfold frf at *
            omega
          · omega
/-- Some cell is empty or at home. -/
theorem InsH.free : ∃ z, z < n ∧ ((insf n t c (ps n h k) m z).1 = 0 ∨ frf n (insf n t c (ps n h k) m) z = 0) := by
  have hfit := I.fits
  by_cases h0 : k = 0
  · exact ⟨ps n h k, I.pn, .inr (by rw [I.at_far off_self I.pn]; omega)⟩
  · have ho := off_ps (i := m + 1) I.pn (by omega)
    refine ⟨ps n (ps n h k) (m + 1), ps_lt I.pn (by omega), ?_⟩
    rw [insf_c (by omega), ins_stay (by omega)]
    exact I.behind (ps_lt I.pn (by omega)) ho
/-- What is in the table now. -/
theorem InsH.mem (x : Cel) (hx : x.1 ≠ 0) : (∃ q, q < n ∧ insf n t c (ps n h k) m q = x) ↔ x = c ∨ ∃ q, q < n ∧ t q = x := by
  have hp := I.pn
  constructor
  · rintro ⟨q, hq, he⟩
    rcases Nat.lt_or_ge m (off n (ps n h k) q) with h1 | h1
    · rw [insf_c h1] at he
      exact .inr ⟨q, hq, he⟩
    · by_cases h0 : off n (ps n h k) q = 0
      · rw [insf_a h0] at he
        exact .inl he.symm
      · rw [insf_b (by omega) h1] at he
        exact .inr ⟨_, pv_lt hq, he⟩
  · rintro (rfl | ⟨q, hq, he⟩)
    · exact ⟨_, hp, insf_a off_self⟩
    · rcases Nat.lt_trichotomy m (off n (ps n h k) q) with h1 | h1 | h1
      · exact ⟨q, hq, by rw [insf_c h1]; exact he⟩
      · exact absurd (I.none hq h1.symm) (by rw [he]; exact hx)
      · have ho := off_nx hp hq (by have := I.mn; omega)
        exact ⟨nx n q, nx_lt hq, by rw [insf_b (by omega) (by omega), pv_nx hq]; exact he⟩
end ins
/-- What is known where the cell at p is taken out: m the steps to the first one behind it that is empty or at home. -/
structure DelH (n : Nat) (t : Nat → Cel) (p m : Nat) : Prop where
  rt : RTf n t
  pn : p < n
  mn : m < n
  run : ∀ j, j < m → (t (ps n p (j + 1))).1 ≠ 0 ∧ frf n t (ps n p (j + 1)) ≠ 0
  stop : m + 1 < n → (t (ps n p (m + 1))).1 = 0 ∨ frf n t (ps n p (m + 1)) = 0
section del
variable {n : Nat} {t : Nat → Cel} {p m : Nat} (D : DelH n t p m)
include D
theorem DelH.run' {q : Nat} (hq : q < n) (h1 : 1 ≤ off n p q) (h2 : off n p q ≤ m) : (t q).1 ≠ 0 ∧ frf n t q ≠ 0 := by
  have := D.run (off n p q - 1) (by omega)
  rwa [show off n p q - 1 + 1 = off n p q by omega, ps_off D.pn hq] at this
theorem DelH.moved {q : Nat} (hq : q < n) (h1 : off n p q < m) : (t (nx n q)).1 ≠ 0 ∧ frf n t (nx n q) ≠ 0 ∧ frf n (delf n t p m) q = frf n t (nx n q) - 1 := by
  have ho := off_nx D.pn hq (by have := D.mn; omega)
  obtain ⟨a1, a2⟩ := D.run' (nx_lt hq) (by omega) (by omega)
  refine ⟨a1, a2, ?_⟩
  have hb := D.rt.hm _ (nx_lt hq) a1
  have := dI_nn n (t (nx n q)).2 (nx n q : Nat)
  unfold frf at *
  rw [delf_a h1]
  exact dI_nx hb.1 hb.2 hq (by omega)
theorem DelH.rtf (hz : ∃ z, z < n ∧ ((t z).1 = 0 ∨ frf n t z = 0)) (hpne : (t p).1 ≠ 0) : RTf n (delf n t p m) := by
  have hp := D.pn
  have hmn := D.mn
  refine ⟨D.rt.pos, fun q hq he => ?_, fun q hq he => ?_, fun q r hq hr hne he => ?_, fun q hq he => ?_⟩
  · rcases Nat.lt_trichotomy m (off n p q) with h1 | h1 | h1
    · rw [delf_c h1] at he ⊢
      exact D.rt.emp q hq he
    · rw [delf_b h1.symm]
    · rw [delf_a h1] at he ⊢
      exact D.rt.emp _ (nx_lt hq) he
  · rcases Nat.lt_trichotomy m (off n p q) with h1 | h1 | h1
    · rw [delf_c h1] at he ⊢
      exact D.rt.hm q hq he
    · rw [delf_b h1.symm] at he
      exact absurd rfl he
    · rw [delf_a h1] at he ⊢
      exact D.rt.hm _ (nx_lt hq) he
  · rcases Nat.lt_trichotomy m (off n p q) with h1 | h1 | h1
    · rw [delf_c h1] at he ⊢
      rcases Nat.lt_trichotomy m (off n p r) with h2 | h2 | h2
      · rw [delf_c h2]; exact D.rt.ne q r hq hr hne he
      · rw [delf_b h2.symm]; exact he
      · rw [delf_a h2]
        refine D.rt.ne q _ hq (nx_lt hr) (fun e => ?_) he
        have := off_nx hp hr (by omega)
        rw [← e] at this
        omega
    · rw [delf_b h1.symm] at he
      exact absurd rfl he
    · rw [delf_a h1] at he ⊢
      have hoq := off_nx hp hq (by omega)
      rcases Nat.lt_trichotomy m (off n p r) with h2 | h2 | h2
      · rw [delf_c h2]
        refine D.rt.ne _ r (nx_lt hq) hr (fun e => ?_) he
        rw [e] at hoq
        omega
      · rw [delf_b h2.symm]; exact he
      · rw [delf_a h2]
        refine D.rt.ne _ _ (nx_lt hq) (nx_lt hr) (fun e => ?_) he
        have hor := off_nx hp hr (by omega)
        rw [e, hor] at hoq
        exact hne (off_inj hp hq hr (by omega))
  · rcases Nat.lt_trichotomy m (off n p q) with h1 | h1 | h1
    · rw [del_stay h1]
      rw [delf_c h1] at he
      have hoq := off_pv hp hq (by omega)
      have hlt := off_lt hp hq
      by_cases h2 : off n p q = m + 1
      · have := D.stop (by omega)
        rw [← h2, ps_off hp hq] at this
        rcases this with h3 | h3
        · exact absurd h3 he
        · exact .inl h3
      · rw [del_stay (q := pv n q) (by omega), delf_c (q := pv n q) (by omega)]
        exact D.rt.led q hq he
    · rw [delf_b h1.symm] at he
      exact absurd rfl he
    · obtain ⟨g1, g2, g3⟩ := D.moved hq h1
      rw [g3]
      have hnn := dI_nn n (t (nx n q)).2 (nx n q : Nat)
      by_cases h2 : frf n t (nx n q) = 1
      · left; omega
      · right
        rcases D.rt.led _ (nx_lt hq) g1 with h3 | ⟨h3, h4⟩
        · exact absurd h3 g2
        · rw [pv_nx hq] at h3 h4
          by_cases h5 : off n p q = 0
          · obtain rfl := off_zero hp hq h5
            have ho := off_pv0 hp
            rcases D.rt.led _ hq h3 with h6 | ⟨h6, h7⟩
            · unfold frf at *
              omega
            · by_cases h8 : m = n - 1
              · exfalso
                obtain ⟨z, hzn, hz⟩ := hz
                have hoz := off_lt hp hzn
                by_cases h9 : off n q z = 0
                · rw [off_zero hp hzn h9] at hz
                  rcases hz with hz | hz
                  · exact h3 hz
                  · unfold frf at *
                    omega
                · have := D.run' hzn (by omega) (by omega)
                  rcases hz with hz | hz
                  · exact this.1 hz
                  · exact this.2 hz
              · rw [delf_c (q := pv n q) (by omega), del_stay (q := pv n q) (by omega)]
                exact ⟨h6, by omega⟩
          · have ho := off_pv hp hq (by omega)
            obtain ⟨g4, g5, g6⟩ := D.moved (pv_lt hq) (by omega)
            rw [g6]
            rw [nx_pv hq] at g4 g5 ⊢
            rw [delf_a (q := pv n q) (by omega), nx_pv hq]
            exact ⟨h3, by omega⟩
theorem DelH.free : ∃ z, z < n ∧ (delf n t p m z).1 = 0 := ⟨ps n p m, ps_lt D.pn (by have := D.mn; omega), by rw [delf_b (off_ps D.pn D.mn)]⟩
theorem DelH.mem (x : Cel) (hx : x.1 ≠ 0) (hpne : (t p).1 ≠ 0) : (∃ q, q < n ∧ delf n t p m q = x) ↔ x ≠ t p ∧ ∃ q, q < n ∧ t q = x := by
  have hp := D.pn
  have hmn := D.mn
  have key : ∀ q, q < n → q ≠ p → (t q).1 ≠ 0 → t q ≠ t p := fun q hq hne h0 e => D.rt.ne q p hq hp hne h0 (by rw [e])
  constructor
  · rintro ⟨q, hq, he⟩
    rcases Nat.lt_trichotomy m (off n p q) with h1 | h1 | h1
    · rw [delf_c h1] at he
      refine ⟨?_, q, hq, he⟩
      rw [← he] at hx ⊢
      exact key q hq (by rintro rfl; rw [off_self] at h1; omega) hx
    · rw [delf_b h1.symm] at he
      rw [← he] at hx
      exact absurd rfl hx
    · rw [delf_a h1] at he
      refine ⟨?_, _, nx_lt hq, he⟩
      rw [← he] at hx ⊢
      refine key _ (nx_lt hq) (fun e => ?_) hx
      have := off_nx hp hq (by omega)
      rw [e, off_self] at this
      omega
  · rintro ⟨hne, q, hq, he⟩
    have h0 : off n p q ≠ 0 := fun e => hne (by rw [← he, off_zero hp hq e])
    rcases Nat.lt_or_ge m (off n p q) with h1 | h1
    · exact ⟨q, hq, by rw [delf_c h1]; exact he⟩
    · have ho := off_pv hp hq (by omega)
      exact ⟨pv n q, pv_lt hq, by rw [delf_a (by omega), nx_pv hq]; exact he⟩
end del
/-- What is put in and taken out again leaves the table as it was. -/
theorem InsH.del {n : Nat} {t : Nat → Cel} {c : Cel} {h k m : Nat} (I : InsH n t c h k m) : DelH n (insf n t c (ps n h k) m) (ps n h k) m ∧ ∀ q, q < n → delf n (insf n t c (ps n h k) m) (ps n h k) m q = t q := by
  have hp := I.pn
  have hmn := I.mn
  have hkn := I.kn
  refine ⟨⟨I.rtf, hp, hmn, fun j hj => ?_, fun hlt => ?_⟩, fun q hq => ?_⟩
  · have ho := off_ps (i := j + 1) hp (by omega)
    have hq := ps_lt (i := j + 1) hp (by omega)
    obtain ⟨g1, g2⟩ := I.moved hq (by omega) (by omega)
    rw [insf_b (by omega) (by omega), g2]
    refine ⟨g1, ?_⟩
    have := dI_nn n (t (pv n (ps n (ps n h k) (j + 1)))).2 (pv n (ps n (ps n h k) (j + 1)) : Nat)
    unfold frf
    omega
  · have ho := off_ps (i := m + 1) hp hlt
    rw [insf_c (by omega), ins_stay (by omega)]
    exact I.behind (ps_lt hp (by omega)) ho
  · rcases Nat.lt_trichotomy m (off n (ps n h k) q) with h1 | h1 | h1
    · rw [delf_c h1, insf_c h1]
    · rw [delf_b h1.symm]
      have h2 := I.none hq h1.symm
      have h3 := I.rt.emp q hq h2
      rcases e : t q with ⟨a, b⟩
      rw [e] at h2 h3
      simp at h2 h3
      rw [h2, h3]
    · have ho := off_nx hp hq (by omega)
      rw [delf_a h1, insf_b (by omega) (by omega), pv_nx hq]
end Go.Proofs.YtcpfnmphcndmjaaGreatDoor.Pro

namespace Go.Proofs.YtcpfnmphcndmjaaGreatDoor.Pro
set_option linter.unusedVariables false

/-- The first number below n of which P holds; n, where it holds of none. -/
def sk (P : Nat → Bool) (n : Nat) : Nat := (List.range n).findIdx P
theorem sk_le (P : Nat → Bool) (n : Nat) : sk P n ≤ n := by
  have := List.findIdx_le_length (p := P) (xs := List.range n)
  rwa [List.length_range] at this
theorem sk_no {P : Nat → Bool} {n j : Nat} (h : j < sk P n) : P j = false := by
  have h2 := List.not_of_lt_findIdx h
  simpa using h2
theorem sk_yes {P : Nat → Bool} {n : Nat} (h : sk P n < n) : P (sk P n) = true := by
  have := List.findIdx_getElem (p := P) (xs := List.range n) (w := by rw [List.length_range]; exact h)
  show P ((List.range n).findIdx P) = true
  simpa using this
theorem sk_eq {P : Nat → Bool} {n j : Nat} (hj : j ≤ n) (h1 : ∀ i, i < j → P i = false) (h2 : j < n → P j = true) : sk P n = j := by
  rcases Nat.lt_trichotomy (sk P n) j with h | h | h
  · have := sk_yes (P := P) (n := n) (by omega)
    rw [h1 _ h] at this
    cases this
  · exact h
  · have := sk_le P n
    have h3 := sk_no h
    rw [h2 (by omega)] at h3
    cases h3
end Go.Proofs.YtcpfnmphcndmjaaGreatDoor.Pro
