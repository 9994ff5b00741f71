/- Plain mathematics of probe: tables in a ring, ordered by distance. Plain: the first number of which something holds. Contracts of probe: distances, single cells, positions. A map of IDs to true: which IDs are in it. Contracts of probe: led, Right, check. Contracts of probe: seek, find, Find. Contracts of probe: Find, tests of all cells, Clone, carry. Contracts of probe: the tests that Insert and Delete pass on; the ways along the ring. Contracts of probe: Insert. Contracts of probe: Insert with its errors, Delete, Longest. Plain: what the program tests and makes is what the mathematics says. Contracts of the statements' helpers: own, given, same, the page's example. The statements ProbeDistance, ProbeNear, ProbeBack. The statement ProbeBack. The document's probe: far, Right, has, place. The document's probe: has, place, Find. The document's probe: Insert. The document's probe: Insert with its errors, Delete, Longest. The statement ProbeTables. -/
import Derived.Test.YtmgeiaglandedaaGreatDoorJ0
import Derived.Test.YtmgeiaglandedaaGreatDoorRows
import Derived.Maps.OwnSet
import Derived.Deep.RegionLaw
import Derived.Deep.RegionHeld3
import Derived.Shelf.Abstract
import Derived.Laws.StructEq
import Derived.Lib.SliceRun
import Derived.Deep.DeepCutAuto
import Derived.Deep.AppendLies
namespace Go.Proofs.YtmgeiaglandedaaGreatDoor.Pro
set_option linter.unusedVariables false
def dI (n h a:Int):Int:=if (0≤h∧h<n)∧0≤a∧a<n then (if a<h then a-h+n else a-h) else 0
def pv (n i:Nat):Nat:=if i=0 then n-1 else i-1
def nx (n i:Nat):Nat:=if i+1=n then 0 else i+1
def ps (n h i:Nat):Nat:=if h+i<n then h+i else h+i-n
def off (n p q:Nat):Nat:=if p≤q then q-p else q+n-p
abbrev Cel:=Int×Int
def frf (n:Nat) (t:Nat→Cel) (i:Nat):Int:=dI n (t i).2 i
theorem dI_nn (n h a:Int):0≤dI n h a:=by
  unfold dI
  split
  · split<;>omega
  · omega
theorem dI_lt (n h a:Int) (hn:0<n):dI n h a<n:=by
  unfold dI
  split
  · split<;>omega
  · omega
theorem dI_ps {n h i:Nat} (hh:h<n) (hi:i<n):dI n h (ps n h i:Nat)=i:=by
  unfold dI ps
  (repeat' split)<;>omega
theorem dI_off {n h q:Nat} (hh:h<n) (hq:q<n):dI n h q=off n h q:=by
  unfold dI off
  (repeat' split)<;>omega
theorem ps_lt {n h i:Nat} (hh:h<n) (hi:i≤n):ps n h i<n:=by
  unfold ps;split<;>omega
theorem off_lt {n p q:Nat} (hp:p<n) (hq:q<n):off n p q<n:=by
  unfold off;split<;>omega
theorem ps_off {n p q:Nat} (hp:p<n) (hq:q<n):ps n p (off n p q)=q:=by
  unfold ps off;(repeat' split)<;>omega
theorem off_ps {n p i:Nat} (hp:p<n) (hi:i<n):off n p (ps n p i)=i:=by
  unfold ps off;(repeat' split)<;>omega
theorem pv_lt {n i:Nat} (hi:i<n):pv n i<n:=by unfold pv;split<;>omega
theorem nx_lt {n i:Nat} (hi:i<n):nx n i<n:=by unfold nx;split<;>omega
theorem pv_nx {n i:Nat} (hi:i<n):pv n (nx n i)=i:=by unfold pv nx;(repeat' split)<;>omega
theorem nx_pv {n i:Nat} (hi:i<n):nx n (pv n i)=i:=by unfold pv nx;(repeat' split)<;>omega
theorem off_pv {n p q:Nat} (hp:p<n) (hq:q<n) (h:1≤off n p q):off n p (pv n q)=off n p q-1:=by
  unfold off pv at *
  split at h<;>(repeat' split)<;>omega
theorem off_pv0 {n p:Nat} (hp:p<n):off n p (pv n p)=n-1:=by
  unfold off pv
  (repeat' split)<;>omega
theorem off_nx {n p q:Nat} (hp:p<n) (hq:q<n) (h:off n p q+1<n):off n p (nx n q)=off n p q+1:=by
  unfold off nx at *
  split at h<;>(repeat' split)<;>omega
theorem off_self {n p:Nat} : off n p p=0:=by unfold off;split<;>omega
theorem off_zero {n p q:Nat} (hp:p<n) (hq:q<n) (h:off n p q=0):q=p:=by
  unfold off at h;split at h<;>omega
theorem off_inj {n p q r:Nat} (hp:p<n) (hq:q<n) (hr:r<n) (h:off n p q=off n p r):q=r:=by
  unfold off at h;split at h<;>split at h<;>omega
theorem ps_zero {n h:Nat} (hh:h<n):ps n h 0=h:=by unfold ps;split<;>omega
theorem ps_nx {n h i:Nat} (hh:h<n) (hi:i<n):ps n (nx n h) i=ps n h (i+1):=by
  unfold ps nx;(repeat' split)<;>omega
theorem pv_ps {n h i:Nat} (hh:h<n) (hi:i+1<n):pv n (ps n h (i+1))=ps n h i:=by
  unfold pv ps;(repeat' split)<;>omega
theorem dI_pv {n q:Nat} {h:Int} (h0:0≤h) (h1:h<n) (hq:q<n) (hd:dI n h (pv n q:Nat)+1<n):dI n h q=dI n h (pv n q:Nat)+1:=by
  obtain⟨k,rfl⟩:=Int.eq_ofNat_of_zero_le h0
  rw[dI_off (by omega) hq]
  rw[dI_off (by omega) (pv_lt hq)] at hd ⊢
  unfold off pv at *
  split at hd<;>split at hd<;>(repeat' split)<;>omega
theorem dI_nx {n q:Nat} {h:Int} (h0:0≤h) (h1:h<n) (hq:q<n) (hd:1≤dI n h (nx n q:Nat)):dI n h q=dI n h (nx n q:Nat)-1:=by
  obtain⟨k,rfl⟩:=Int.eq_ofNat_of_zero_le h0
  rw[dI_off (by omega) hq]
  rw[dI_off (by omega) (nx_lt hq)] at hd ⊢
  unfold off nx at *
  split at hd<;>split at hd<;>(repeat' split)<;>omega
structure RTf (n:Nat) (t:Nat→Cel):Prop where
  pos:0<n
  emp:∀ i,i<n→(t i).1=0→(t i).2=0
  hm:∀ i,i<n→(t i).1≠0→0≤(t i).2∧(t i).2<n
  ne:∀ i k,i<n→k<n→i≠k→(t i).1≠0→(t i).1≠(t k).1
  led:∀ i,i<n→(t i).1≠0→frf n t i=0∨((t (pv n i)).1≠0∧frf n t i-1≤frf n t (pv n i))
def Opn (n:Nat) (t:Nat→Cel) (h p:Nat):Prop:=(t p).1=0∨frf n t p<dI n h p
theorem chain {n:Nat} {t:Nat→Cel} (H:RTf n t) {i h d:Nat} (hi:i<n) (hne:(t i).1≠0) (hh:(t i).2=h) (hd:frf n t i=d) :
    ∀ j,j≤d→(t (ps n h (d-j))).1≠0∧(d:Int)-j≤frf n t (ps n h (d-j)):=by
  have hb:=H.hm i hi hne
  have hhn:h<n:=by omega
  have hdn:d<n:=by
    have h1:=dI_lt n (t i).2 i (by omega)
    unfold frf at hd
    omega
  have hps:ps n h d=i:=by
    have h1:=ps_off hhn hi
    unfold frf at hd
    rw[hh,dI_off hhn hi] at hd
    rw[show off n h i=d by omega] at h1
    exact h1
  intro j
  induction j with
  | zero=>intro _;rw[Nat.sub_zero,hps];exact⟨hne,by omega⟩
  | succ j ih =>
    intro hj
    obtain⟨q1,q2⟩:=ih (by omega)
    have q3:pv n (ps n h (d-j))=ps n h (d-(j+1)):=by
      rw[show d-j=(d-(j+1))+1 by omega]
      exact pv_ps hhn (by omega)
    rcases H.led _ (ps_lt hhn (by omega)) q1 with h0 | ⟨h1,h2⟩
    · omega
    · rw[q3] at h1 h2
      exact⟨h1,by omega⟩
theorem far_nat {n:Nat} {t:Nat→Cel} (H:RTf n t) {i:Nat} (hi:i<n) (hne:(t i).1≠0):∃ h d:Nat,(t i).2=h∧frf n t i=d∧h<n∧d<n∧ps n h d=i∧d=off n h i:=by
  have hb:=H.hm i hi hne
  obtain⟨h,hh⟩:=Int.eq_ofNat_of_zero_le hb.1
  have hhn:h<n:=by omega
  refine⟨h,off n h i,hh,?_,hhn,off_lt hhn hi,ps_off hhn hi,rfl⟩
  unfold frf
  rw[hh]
  exact dI_off hhn hi
theorem not_open {n:Nat} {t:Nat→Cel} (H:RTf n t) {i h d:Nat} (hi:i<n) (hne:(t i).1≠0) (hh:(t i).2=h) (hd:frf n t i=d) (j:Nat) (hj:j<d):¬ Opn n t h (ps n h j):=by
  have h1:=chain H hi hne hh hd (d-j) (by omega)
  rw[show d-(d-j)=j by omega] at h1
  have hb:=H.hm i hi hne
  have hdn:d<n:=by
    have h1:=dI_lt n (t i).2 i (by omega)
    unfold frf at hd
    omega
  intro ho
  rcases ho with ho | ho
  · exact h1.1 ho
  · rw[dI_ps (by omega) (by omega)] at ho
    omega
theorem not_full {n:Nat} {t:Nat→Cel} (H:RTf n t) {i z:Nat} (hi:i<n) (hne:(t i).1≠0) (hz:z<n) (hze:(t z).1=0):frf n t i+1<n:=by
  obtain⟨h,d,hh,hd,hhn,hdn,hps,-⟩:=far_nat H hi hne
  rcases Nat.lt_or_ge (d+1) n with hlt | hge
  · omega
  · exfalso
    have ho:=off_lt hhn hz
    by_cases e:off n h z=d
    · have:=ps_off hhn hz
      rw[e,hps] at this
      exact hne (this ▸ hze)
    · have h1:=not_open H hi hne hh hd (off n h z) (by omega)
      rw[ps_off hhn hz] at h1
      exact h1 (.inl hze)
def insf (n:Nat) (t:Nat→Cel) (c:Cel) (p m q:Nat):Cel:=if off n p q=0 then c else if off n p q≤m then t (pv n q) else t q
def delf (n:Nat) (t:Nat→Cel) (p m q:Nat):Cel:=if off n p q<m then t (nx n q) else if off n p q=m then (0,0) else t q
theorem insf_a {n:Nat} {t:Nat→Cel} {c:Cel} {p m q:Nat} (h:off n p q=0):insf n t c p m q=c:=if_pos h
theorem insf_b {n:Nat} {t:Nat→Cel} {c:Cel} {p m q:Nat} (h:1≤off n p q) (h2:off n p q≤m):insf n t c p m q=t (pv n q):=by
  unfold insf;rw[if_neg (by omega),if_pos h2]
theorem insf_c {n:Nat} {t:Nat→Cel} {c:Cel} {p m q:Nat} (h:m<off n p q):insf n t c p m q=t q:=by
  unfold insf;rw[if_neg (by omega),if_neg (by omega)]
theorem delf_a {n:Nat} {t:Nat→Cel} {p m q:Nat} (h:off n p q<m):delf n t p m q=t (nx n q):=if_pos h
theorem delf_b {n:Nat} {t:Nat→Cel} {p m q:Nat} (h:off n p q=m):delf n t p m q=(0,0):=by
  unfold delf;rw[if_neg (by omega),if_pos h]
theorem delf_c {n:Nat} {t:Nat→Cel} {p m q:Nat} (h:m<off n p q):delf n t p m q=t q:=by
  unfold delf;rw[if_neg (by omega),if_neg (by omega)]
theorem ins_stay {n:Nat} {t:Nat→Cel} {c:Cel} {p m q:Nat} (ho:m<off n p q):frf n (insf n t c p m) q=frf n t q:=by
  unfold frf
  rw[insf_c ho]
theorem del_stay {n:Nat} {t:Nat→Cel} {p m q:Nat} (ho:m<off n p q):frf n (delf n t p m) q=frf n t q:=by
  unfold frf
  rw[delf_c ho]
structure InsH (n:Nat) (t:Nat→Cel) (c:Cel) (h k m:Nat):Prop where
  rt:RTf n t
  id:c.1≠0
  hm:c.2=h
  hn:h<n
  fresh:∀ i,i<n→(t i).1≠c.1
  kn:k<n
  shut:∀ j,j<k→¬ Opn n t h (ps n h j)
  opn:Opn n t h (ps n h k)
  mn:m<n
  run:∀ j,j<m→(t (ps n (ps n h k) j)).1≠0
  hole:(t (ps n (ps n h k) m)).1=0
theorem InsH.fits {n:Nat} {t:Nat→Cel} {c:Cel} {h k m:Nat} (I:InsH n t c h k m):k+m<n:=by
  have a1:=I.hn;have a2:=I.kn;have a3:=I.mn
  rcases Nat.lt_or_ge (k+m) n with h1 | h1
  · exact h1
  · exfalso
    refine I.shut (k+m-n) (by omega) (.inl ?_)
    have:=I.hole
    rw[show ps n (ps n h k) m=ps n h (k+m-n) by unfold ps;(repeat' split)<;>omega] at this
    exact this
section ins
variable {n:Nat} {t:Nat→Cel} {c:Cel} {h k m:Nat} (I:InsH n t c h k m)
include I
theorem InsH.pn:ps n h k<n:=ps_lt I.hn (Nat.le_of_lt I.kn)
theorem InsH.some {q:Nat} (hq:q<n) (ho:off n (ps n h k) q<m):(t q).1≠0:=by
  have:=I.run _ ho
  rwa [ps_off I.pn hq] at this
theorem InsH.none {q:Nat} (hq:q<n) (ho:off n (ps n h k) q=m):(t q).1=0:=by
  have:=I.hole
  rwa [←ho,ps_off I.pn hq] at this
theorem InsH.slack {q:Nat} (hq:q<n) (hne:(t q).1≠0):frf n t q+1<n:=not_full I.rt hq hne (ps_lt I.pn (Nat.le_of_lt I.mn)) I.hole
theorem InsH.moved {q:Nat} (hq:q<n) (h1:1≤off n (ps n h k) q) (h2:off n (ps n h k) q≤m):(t (pv n q)).1≠0∧frf n (insf n t c (ps n h k) m) q=frf n t (pv n q)+1:=by
  have hs:(t (pv n q)).1≠0:=I.some (pv_lt hq) (by rw[off_pv I.pn hq h1];omega)
  refine⟨hs,?_⟩
  have hb:=I.rt.hm _ (pv_lt hq) hs
  have:=I.slack (pv_lt hq) hs
  unfold frf at *
  rw[insf_b h1 h2]
  exact dI_pv hb.1 hb.2 hq this
theorem InsH.at_far {q:Nat} (ho:off n (ps n h k) q=0) (hq:q<n):frf n (insf n t c (ps n h k) m) q=k:=by
  unfold frf
  rw[insf_a ho,off_zero I.pn hq ho,I.hm]
  exact dI_ps I.hn I.kn
theorem InsH.behind {q:Nat} (hq:q<n) (ho:off n (ps n h k) q=m+1):(t q).1=0∨frf n t q=0:=by
  by_cases e:(t q).1=0
  · exact .inl e
  · rcases I.rt.led q hq e with h1 | ⟨h1,-⟩
    · exact .inr h1
    · exact absurd (I.none (pv_lt hq) (by rw[off_pv I.pn hq (by omega)];omega)) h1
theorem InsH.rtf:RTf n (insf n t c (ps n h k) m):=by
  have hp:=I.pn
  have hkn:=I.kn
  have hmn:=I.mn
  have hfit:=I.fits
  refine⟨I.rt.pos,fun q hq he=>?_,fun q hq he=>?_,fun q r hq hr hne he=>?_,fun q hq he=>?_⟩
  · rcases Nat.lt_or_ge m (off n (ps n h k) q) with h1 | h1
    · rw[insf_c h1] at he ⊢
      exact I.rt.emp q hq he
    · by_cases h0 : off n (ps n h k) q = 0
      · rw[insf_a h0] at he
        exact absurd he I.id
      · exact absurd (by rwa [insf_b (by omega) h1] at he) (I.moved hq (by omega) h1).1
  · rcases Nat.lt_or_ge m (off n (ps n h k) q) with h1 | h1
    · rw[insf_c h1] at he ⊢
      exact I.rt.hm q hq he
    · by_cases h0 : off n (ps n h k) q = 0
      · rw[insf_a h0,I.hm]
        have:=I.hn
        omega
      · rw[insf_b (by omega) h1] at he ⊢
        exact I.rt.hm _ (pv_lt hq) he
  · rcases Nat.lt_or_ge m (off n (ps n h k) q) with h1 | h1
    · rw [insf_c h1] at he ⊢
      rcases Nat.lt_or_ge m (off n (ps n h k) r) with h2 | h2
      · rw[insf_c h2]
        exact I.rt.ne q r hq hr hne he
      · by_cases h3 : off n (ps n h k) r = 0
        · rw[insf_a h3]
          exact I.fresh q hq
        · rw[insf_b (by omega) h2]
          refine I.rt.ne q _ hq (pv_lt hr) (fun e=>?_) he
          have:=off_pv hp hr (by omega)
          rw[←e] at this
          omega
    · by_cases h0 : off n (ps n h k) q = 0
      · rw [insf_a h0]
        rcases Nat.lt_or_ge m (off n (ps n h k) r) with h2 | h2
        · rw[insf_c h2]
          exact fun e=>I.fresh r hr e.symm
        · by_cases h3 : off n (ps n h k) r = 0
          · exact absurd (off_inj hp hq hr (by omega)) hne
          · rw[insf_b (by omega) h2]
            exact fun e=>I.fresh _ (pv_lt hr) e.symm
      · rw [insf_b (by omega) h1] at he ⊢
        have hoq:=off_pv hp hq (by omega)
        rcases Nat.lt_or_ge m (off n (ps n h k) r) with h2 | h2
        · rw[insf_c h2]
          refine I.rt.ne _ r (pv_lt hq) hr (fun e=>?_) he
          rw[e] at hoq
          omega
        · by_cases h3 : off n (ps n h k) r = 0
          · rw[insf_a h3]
            exact I.fresh _ (pv_lt hq)
          · rw[insf_b (by omega) h2]
            refine I.rt.ne _ _ (pv_lt hq) (pv_lt hr) (fun e=>?_) he
            have hor:=off_pv hp hr (by omega)
            rw[e,hor] at hoq
            exact hne (off_inj hp hq hr (by omega))
  · rcases Nat.lt_or_ge m (off n (ps n h k) q) with h1 | h1
    · rw[ins_stay h1]
      rw[insf_c h1] at he
      have hoq:=off_pv hp hq (by omega)
      by_cases h2:off n (ps n h k) q=m+1
      · rcases I.behind hq h2 with h3 | h3
        · exact absurd h3 he
        · exact .inl h3
      · rw[ins_stay (q:=pv n q) (by omega),insf_c (q:=pv n q) (by omega)]
        exact I.rt.led q hq he
    · by_cases h0 : off n (ps n h k) q = 0
      · rw [I.at_far h0 hq]
        by_cases hk0:k=0
        · left;omega
        · right
          obtain rfl:=off_zero hp hq h0
          have ho:=off_pv0 hp
          have e1:pv n (ps n h k)=ps n h (k-1):=by
            have:=pv_ps (i:=k-1) I.hn (by omega)
            rwa [show k-1+1=k by omega] at this
          rw[insf_c (q:=pv n (ps n h k)) (by omega),ins_stay (q:=pv n (ps n h k)) (by omega),e1]
          have hs:=I.shut (k-1) (by omega)
          unfold Opn at hs
          rw[dI_ps I.hn (by omega)] at hs
          refine⟨fun e=>hs (.inl e),?_⟩
          have:=fun e=>hs (.inr e)
          omega
      · right
        obtain⟨g1,g2⟩:=I.moved hq (by omega) h1
        have hoq:=off_pv hp hq (by omega)
        rw[g2]
        by_cases h3:off n (ps n h k) (pv n q)=0
        · rw[insf_a h3,I.at_far h3 (pv_lt hq)]
          refine⟨I.id,?_⟩
          have ho:=I.opn
          rw[←off_zero hp (pv_lt hq) h3] at ho
          rcases ho with ho | ho
          · exact absurd ho g1
          · rw[off_zero hp (pv_lt hq) h3] at ho ⊢
            rw[dI_ps I.hn I.kn] at ho
            omega
        · obtain⟨g3,g4⟩:=I.moved (pv_lt hq) (by omega) (by omega)
          rw[insf_b (q:=pv n q) (by omega) (by omega),g4]
          refine⟨g3,?_⟩
          rcases I.rt.led _ (pv_lt hq) g1 with h5 | ⟨h5,h6⟩
          · have:=dI_nn n (t (pv n (pv n q))).2 (pv n (pv n q):Nat)
            unfold frf at *
            omega
          · omega
theorem InsH.free:∃ z,z<n∧((insf n t c (ps n h k) m z).1=0∨frf n (insf n t c (ps n h k) m) z=0):=by
  have hfit:=I.fits
  by_cases h0:k=0
  · exact⟨ps n h k,I.pn,.inr (by rw[I.at_far off_self I.pn];omega)⟩
  · have ho:=off_ps (i:=m+1) I.pn (by omega)
    refine⟨ps n (ps n h k) (m+1),ps_lt I.pn (by omega),?_⟩
    rw[insf_c (by omega),ins_stay (by omega)]
    exact I.behind (ps_lt I.pn (by omega)) ho
theorem InsH.mem (x:Cel) (hx:x.1≠0):(∃ q,q<n∧insf n t c (ps n h k) m q=x)↔x=c∨∃ q,q<n∧t q=x:=by
  have hp:=I.pn
  constructor
  · rintro ⟨q,hq,he⟩
    rcases Nat.lt_or_ge m (off n (ps n h k) q) with h1 | h1
    · rw[insf_c h1] at he
      exact .inr ⟨q,hq,he⟩
    · by_cases h0 : off n (ps n h k) q = 0
      · rw[insf_a h0] at he
        exact .inl he.symm
      · rw[insf_b (by omega) h1] at he
        exact .inr ⟨_,pv_lt hq,he⟩
  · rintro (rfl | ⟨q,hq,he⟩)
    · exact⟨_,hp,insf_a off_self⟩
    · rcases Nat.lt_trichotomy m (off n (ps n h k) q) with h1 | h1 | h1
      · exact⟨q,hq,by rw[insf_c h1];exact he⟩
      · exact absurd (I.none hq h1.symm) (by rw[he];exact hx)
      · have ho:=off_nx hp hq (by have:=I.mn;omega)
        exact⟨nx n q,nx_lt hq,by rw[insf_b (by omega) (by omega),pv_nx hq];exact he⟩
end ins
structure DelH (n:Nat) (t:Nat→Cel) (p m:Nat):Prop where
  rt:RTf n t
  pn:p<n
  mn:m<n
  run:∀ j,j<m→(t (ps n p (j+1))).1≠0∧frf n t (ps n p (j+1))≠0
  stop:m+1<n→(t (ps n p (m+1))).1=0∨frf n t (ps n p (m+1))=0
section del
variable {n:Nat} {t:Nat→Cel} {p m:Nat} (D:DelH n t p m)
include D
theorem DelH.run' {q:Nat} (hq:q<n) (h1:1≤off n p q) (h2:off n p q≤m):(t q).1≠0∧frf n t q≠0:=by
  have:=D.run (off n p q-1) (by omega)
  rwa [show off n p q-1+1=off n p q by omega,ps_off D.pn hq] at this
theorem DelH.moved {q:Nat} (hq:q<n) (h1:off n p q<m):(t (nx n q)).1≠0∧frf n t (nx n q)≠0∧frf n (delf n t p m) q=frf n t (nx n q)-1:=by
  have ho:=off_nx D.pn hq (by have:=D.mn;omega)
  obtain⟨a1,a2⟩:=D.run' (nx_lt hq) (by omega) (by omega)
  refine⟨a1,a2,?_⟩
  have hb:=D.rt.hm _ (nx_lt hq) a1
  have:=dI_nn n (t (nx n q)).2 (nx n q:Nat)
  unfold frf at *
  rw[delf_a h1]
  exact dI_nx hb.1 hb.2 hq (by omega)
theorem DelH.rtf (hz:∃ z,z<n∧((t z).1=0∨frf n t z=0)) (hpne:(t p).1≠0):RTf n (delf n t p m):=by
  have hp:=D.pn
  have hmn:=D.mn
  refine⟨D.rt.pos,fun q hq he=>?_,fun q hq he=>?_,fun q r hq hr hne he=>?_,fun q hq he=>?_⟩
  · rcases Nat.lt_trichotomy m (off n p q) with h1 | h1 | h1
    · rw[delf_c h1] at he ⊢
      exact D.rt.emp q hq he
    · rw[delf_b h1.symm]
    · rw[delf_a h1] at he ⊢
      exact D.rt.emp _ (nx_lt hq) he
  · rcases Nat.lt_trichotomy m (off n p q) with h1 | h1 | h1
    · rw[delf_c h1] at he ⊢
      exact D.rt.hm q hq he
    · rw[delf_b h1.symm] at he
      exact absurd rfl he
    · rw[delf_a h1] at he ⊢
      exact D.rt.hm _ (nx_lt hq) he
  · rcases Nat.lt_trichotomy m (off n p q) with h1 | h1 | h1
    · rw[delf_c h1] at he ⊢
      rcases Nat.lt_trichotomy m (off n p r) with h2 | h2 | h2
      · rw[delf_c h2];exact D.rt.ne q r hq hr hne he
      · rw[delf_b h2.symm];exact he
      · rw[delf_a h2]
        refine D.rt.ne q _ hq (nx_lt hr) (fun e=>?_) he
        have:=off_nx hp hr (by omega)
        rw[←e] at this
        omega
    · rw[delf_b h1.symm] at he
      exact absurd rfl he
    · rw[delf_a h1] at he ⊢
      have hoq:=off_nx hp hq (by omega)
      rcases Nat.lt_trichotomy m (off n p r) with h2 | h2 | h2
      · rw[delf_c h2]
        refine D.rt.ne _ r (nx_lt hq) hr (fun e=>?_) he
        rw[e] at hoq
        omega
      · rw[delf_b h2.symm];exact he
      · rw[delf_a h2]
        refine D.rt.ne _ _ (nx_lt hq) (nx_lt hr) (fun e=>?_) he
        have hor:=off_nx hp hr (by omega)
        rw[e,hor] at hoq
        exact hne (off_inj hp hq hr (by omega))
  · rcases Nat.lt_trichotomy m (off n p q) with h1 | h1 | h1
    · rw[del_stay h1]
      rw[delf_c h1] at he
      have hoq:=off_pv hp hq (by omega)
      have hlt:=off_lt hp hq
      by_cases h2:off n p q=m+1
      · have:=D.stop (by omega)
        rw[←h2,ps_off hp hq] at this
        rcases this with h3 | h3
        · exact absurd h3 he
        · exact .inl h3
      · rw[del_stay (q:=pv n q) (by omega),delf_c (q:=pv n q) (by omega)]
        exact D.rt.led q hq he
    · rw[delf_b h1.symm] at he
      exact absurd rfl he
    · obtain ⟨g1, g2, g3⟩ := D.moved hq h1
      rw[g3]
      have hnn:=dI_nn n (t (nx n q)).2 (nx n q:Nat)
      by_cases h2:frf n t (nx n q)=1
      · left;omega
      · right
        rcases D.rt.led _ (nx_lt hq) g1 with h3 | ⟨h3,h4⟩
        · exact absurd h3 g2
        · rw [pv_nx hq] at h3 h4
          by_cases h5:off n p q=0
          · obtain rfl:=off_zero hp hq h5
            have ho:=off_pv0 hp
            rcases D.rt.led _ hq h3 with h6 | ⟨h6,h7⟩
            · unfold frf at *
              omega
            · by_cases h8 : m = n - 1
              · exfalso
                obtain⟨z,hzn,hz⟩:=hz
                have hoz:=off_lt hp hzn
                by_cases h9:off n q z=0
                · rw[off_zero hp hzn h9] at hz
                  rcases hz with hz | hz
                  · exact h3 hz
                  · unfold frf at *
                    omega
                · have:=D.run' hzn (by omega) (by omega)
                  rcases hz with hz | hz
                  · exact this.1 hz
                  · exact this.2 hz
              · rw[delf_c (q:=pv n q) (by omega),del_stay (q:=pv n q) (by omega)]
                exact⟨h6,by omega⟩
          · have ho:=off_pv hp hq (by omega)
            obtain⟨g4,g5,g6⟩:=D.moved (pv_lt hq) (by omega)
            rw[g6]
            rw[nx_pv hq] at g4 g5 ⊢
            rw[delf_a (q:=pv n q) (by omega),nx_pv hq]
            exact⟨h3,by omega⟩
theorem DelH.free:∃ z,z<n∧(delf n t p m z).1=0:=⟨ps n p m,ps_lt D.pn (by have:=D.mn;omega),by rw[delf_b (off_ps D.pn D.mn)]⟩
theorem DelH.mem (x:Cel) (hx:x.1≠0) (hpne:(t p).1≠0):(∃ q,q<n∧delf n t p m q=x)↔x≠t p∧∃ q,q<n∧t q=x:=by
  have hp:=D.pn
  have hmn:=D.mn
  have key:∀ q,q<n→q≠p→(t q).1≠0→t q≠t p:=fun q hq hne h0 e=>D.rt.ne q p hq hp hne h0 (by rw[e])
  constructor
  · rintro ⟨q,hq,he⟩
    rcases Nat.lt_trichotomy m (off n p q) with h1 | h1 | h1
    · rw[delf_c h1] at he
      refine⟨?_,q,hq,he⟩
      rw[←he] at hx ⊢
      exact key q hq (by rintro rfl;rw[off_self] at h1;omega) hx
    · rw[delf_b h1.symm] at he
      rw[←he] at hx
      exact absurd rfl hx
    · rw[delf_a h1] at he
      refine⟨?_,_,nx_lt hq,he⟩
      rw[←he] at hx ⊢
      refine key _ (nx_lt hq) (fun e=>?_) hx
      have:=off_nx hp hq (by omega)
      rw[e,off_self] at this
      omega
  · rintro ⟨hne,q,hq,he⟩
    have h0:off n p q≠0:=fun e=>hne (by rw[←he,off_zero hp hq e])
    rcases Nat.lt_or_ge m (off n p q) with h1 | h1
    · exact⟨q,hq,by rw[delf_c h1];exact he⟩
    · have ho:=off_pv hp hq (by omega)
      exact⟨pv n q,pv_lt hq,by rw[delf_a (by omega),nx_pv hq];exact he⟩
end del
end Go.Proofs.YtmgeiaglandedaaGreatDoor.Pro

namespace Go.Proofs.YtmgeiaglandedaaGreatDoor.Pro
set_option linter.unusedVariables false
def sk (P:Nat→Bool) (n:Nat):Nat:=(List.range n).findIdx P
theorem sk_le (P:Nat→Bool) (n:Nat):sk P n≤n:=by
  have:=List.findIdx_le_length (p:=P) (xs:=List.range n)
  rwa [List.length_range] at this
theorem sk_no {P:Nat→Bool} {n j:Nat} (h:j<sk P n):P j=false:=by
  have h2:=List.not_of_lt_findIdx h
  simpa using h2
theorem sk_yes {P:Nat→Bool} {n:Nat} (h:sk P n<n):P (sk P n)=true:=by
  have:=List.findIdx_getElem (p:=P) (xs:=List.range n) (w:=by rw[List.length_range];exact h)
  show P ((List.range n).findIdx P)=true
  simpa using this
theorem sk_eq {P:Nat→Bool} {n j:Nat} (hj:j≤n) (h1:∀ i,i<j→P i=false) (h2:j<n→P j=true):sk P n=j:=by
  rcases Nat.lt_trichotomy (sk P n) j with h | h | h
  · have:=sk_yes (P:=P) (n:=n) (by omega)
    rw[h1 _ h] at this
    cases this
  · exact h
  · have:=sk_le P n
    have h3:=sk_no h
    rw[h2 (by omega)] at h3
    cases h3
theorem mod_ps {n h i:Nat} (hh:h<n) (hi:i≤n):(h+i) % n=ps n h i:=by
  unfold ps
  split
  · exact Nat.mod_eq_of_lt (by omega)
  · rw[show h+i=(h+i-n)+n by omega,Nat.add_mod_right,Nat.mod_eq_of_lt (by omega)]
    omega
end Go.Proofs.YtmgeiaglandedaaGreatDoor.Pro

namespace Go.Proofs.YtmgeiaglandedaaGreatDoor.Pro
open Go.RowKit
set_option linter.unusedVariables false
theorem size_alloc (w:World) (o:Obj):(w.alloc o).heap.size=w.heap.size+1:=Array.size_push _
def encC (c:Cel):List Value := [.int .u32 c.1,.int .i64 c.2]
theorem encC_len (c:Cel):(encC c).length=2:=rfl
def CRow (w:World) (v:Value) (T:List Cel):Prop:=ARow 2 encC (0,0) w v T
def gt (T:List Cel) (i:Nat):Cel:=T.getD i (0,0)
theorem CRow.mono {w w':World} {v:Value} {T:List Cel} {B:Nat} (h:CRow w v T) (hb:Below B w w') (hB:w.heap.size≤B):CRow w' v T:=ARow.mono h hb hB
theorem CRow.open {w:World} {v:Value} {T:List Cel} (h:CRow w v T) (hne:0<T.length):∃ b off c,v = .slice (some ⟨b,off,none⟩) T.length c∧T.length≤c∧c≤9223372036854775807∧b<w.heap.size ∧
    ∀ i,i<T.length→w.cell? ⟨b,off+i*2,none⟩=some (.int .u32 (gt T i).1)∧w.cell? ⟨b,off+i*2+1,none⟩=some (.int .i64 (gt T i).2):=by
  obtain⟨a,cap,rfl,h2,h3,h5⟩:=h
  obtain⟨b,off,rfl,hlt,hc⟩:=h5 (by rintro rfl;simp at hne)
  exact⟨b,off,cap,rfl,h2,h3,hlt,fun i hi=>⟨hc i hi 0 _ rfl,hc i hi 1 _ rfl⟩⟩
theorem CRow.slice {w:World} {v:Value} {T:List Cel} (h:CRow w v T):∃ a c,v = .slice a T.length c∧T.length≤c∧c≤9223372036854775807:=by
  obtain⟨a,cap,h1,h2,h3,h5⟩:=h
  exact⟨a,cap,h1,h2,h3⟩
def emC (c:Cel):Bool:=decide (c.1=0) && decide (c.2=0)
theorem emC_iff (c:Cel):emC c=true↔c=(0,0):=by
  rcases c with⟨a,b⟩
  simp[emC]
def fr (T:List Cel) (p:Nat):Int:=frf T.length (gt T) p
def opC (T:List Cel) (p:Nat) (h:Int):Bool:=emC (gt T p) || decide (fr T p<dI T.length h p)
end Go.Proofs.YtmgeiaglandedaaGreatDoor.Pro

namespace Go.Proofs.YtmgeiaglandedaaGreatDoor.Pro
open Go.RowKit
set_option linter.unusedVariables false
end Go.Proofs.YtmgeiaglandedaaGreatDoor.Pro

namespace Go.Proofs.YtmgeiaglandedaaGreatDoor.Pro
open Go.RowKit
set_option linter.unusedVariables false
theorem wrap_id {n:Int} (h0 : -9223372036854775808≤n) (h1:n≤9223372036854775807):IntKind.i64.wrap n=n:=by
  rw[IntWalk.i64_left];exact IntWalk.wrap64_in _ ⟨h0,h1⟩
theorem bw_one {n p:Nat} (hp:p<n):(p+n-1) % n=pv n p:=by
  unfold pv
  split
  · subst_vars
    rw[Nat.zero_add,Nat.mod_eq_of_lt (by omega)]
  · rw[show p+n-1=(p-1)+n by omega,Nat.add_mod_right,Nat.mod_eq_of_lt (by omega)]
def ldC (T:List Cel) (p:Nat):Bool:=decide (fr T p=0) || (!emC (gt T (pv T.length p)) && decide (fr T p-1≤fr T (pv T.length p)))
def ids (T:List Cel) (k:Nat):List Int:=((T.take k).filter fun c => !emC c).map (·.1)
def naC (T:List Cel) (c:Cel):Bool:=decide (c.1≠0∧0≤c.2∧c.2<T.length)
def okC (T:List Cel) (i:Nat):Bool:=emC (gt T i) || (naC T (gt T i) && !decide ((gt T i).1∈ids T i) && ldC T i)
def RC (T:List Cel):Bool:=(List.range T.length).all (okC T) && decide (0<T.length)
def ckC (T:List Cel) (c:Cel):Int:=if naC T c=false then 2 else if RC T=false then 4 else 0
end Go.Proofs.YtmgeiaglandedaaGreatDoor.Pro

namespace Go.Proofs.YtmgeiaglandedaaGreatDoor.Pro
open Go.RowKit
set_option linter.unusedVariables false
def fiK (T:List Cel) (c:Cel) (h:Nat):Nat:=sk (fun s=>decide (gt T ((h+s) % T.length)=c) || opC T ((h+s) % T.length) c.2) T.length
def fiC (T:List Cel) (c:Cel) (h:Nat):Nat×Bool:=if gt T ((h+fiK T c h) % T.length)=c then ((h+fiK T c h) % T.length,true) else (0,false)
end Go.Proofs.YtmgeiaglandedaaGreatDoor.Pro

namespace Go.Proofs.YtmgeiaglandedaaGreatDoor.Pro
open Go.RowKit
set_option linter.unusedVariables false
theorem na_home {T:List Cel} {x y:Int} (h:naC T (x,y)=true):∃ k:Nat,y=k∧k<T.length:=by
  have:=of_decide_eq_true h
  simp only at this
  exact⟨y.toNat,by omega,by omega⟩
theorem ck_ok {T:List Cel} {c:Cel} (h:ckC T c=0):naC T c=true∧RC T=true:=by
  unfold ckC at h
  split at h
  · cases h
  · split at h
    · cases h
    · simp_all
def FiC (T:List Cel) (c:Cel):Nat×Bool:=if ckC T c=0 then fiC T c c.2.toNat else (0,false)
theorem any_take (P:Cel→Bool) (T:List Cel) (k:Nat) (hk:k<T.length) (h:P (gt T k)=true):T.any P=true:=by
  rw[List.any_eq_true]
  exact⟨gt T k,by simp[gt,List.getD,hk],h⟩
theorem any_none (P:Cel→Bool) (T:List Cel) (h:∀ j,j<T.length→P (gt T j)=false):T.any P=false:=by
  rw[List.any_eq_false]
  intro c hc
  obtain⟨i,hi,rfl⟩:=List.getElem_of_mem hc
  have:=h i hi
  simp[gt,List.getD,hi] at this
  simp[this]
def TA (w:World) (g:Nat) (T:List Cel):Prop:=g<w.heap.size∧∀ i,i<T.length→(w.cell? ⟨g,i*2,none⟩=some (.int .u32 (gt T i).1)∧w.cell? ⟨g,i*2+1,none⟩=some (.int .i64 (gt T i).2))∧w.frozen? ⟨g,i*2,none⟩=false∧w.frozen? ⟨g,i*2+1,none⟩=false
theorem TA.below {w w':World} {g:Nat} {T:List Cel} (h:TA w g T) (hb:Below w.heap.size w w'):TA w' g T :=
  ⟨Nat.lt_of_lt_of_le h.1 hb.size,fun i hi=>⟨⟨(hb.cell (p:=⟨g,i*2,none⟩) h.1).trans (h.2 i hi).1.1,(hb.cell (p:=⟨g,i*2+1,none⟩) h.1).trans (h.2 i hi).1.2⟩,
    (hb.frozen (p:=⟨g,i*2,none⟩) h.1).trans (h.2 i hi).2.1,(hb.frozen (p:=⟨g,i*2+1,none⟩) h.1).trans (h.2 i hi).2.2⟩⟩
theorem TA.row {w:World} {g cap:Nat} {T:List Cel} (h:TA w g T) (h1:T.length≤cap) (h2:cap≤9223372036854775807):CRow w (.slice (some ⟨g,0,none⟩) T.length cap) T:=by
  refine⟨_,_,rfl,h1,h2,fun _=>⟨g,0,rfl,h.1,fun i hi j x hx=>?_⟩⟩
  rw[Nat.zero_add]
  match j,hx with
  | 0,hx=>simp[encC] at hx;subst hx;exact(h.2 i hi).1.1
  | 1,hx=>simp[encC] at hx;subst hx;exact(h.2 i hi).1.2
  | j+2,hx=>simp[encC] at hx
theorem gt_set (T:List Cel) (i j:Nat) (c:Cel) (h:i<T.length):gt (T.set i c) j=if j=i then c else gt T j:=by
  unfold gt
  by_cases e:j=i
  · subst e;rw[if_pos rfl];simp[List.getD,h]
  · rw[if_neg e];simp[List.getD,show ¬ i=j from fun q=>e q.symm]
theorem TA.set {w:World} {g:Nat} {T:List Cel} (h:TA w g T) (j:Nat) (hj:j<T.length) (c:Cel):TA ((w.setCell ⟨g,j*2,none⟩ (.int .u32 c.1)).setCell ⟨g,j*2+1,none⟩ (.int .i64 c.2)) g (T.set j c):=by
  refine⟨by simpa[World.setCell] using h.1,fun i hi=>?_⟩
  rw[List.length_set] at hi
  obtain⟨⟨e1,e2⟩,f1,f2⟩:=h.2 i hi
  rw[gt_set _ _ _ _ hj]
  refine⟨?_,by rw[World.frozen?_setCell,World.frozen?_setCell];exact f1,by rw[World.frozen?_setCell,World.frozen?_setCell];exact f2⟩
  by_cases e:i=j
  · subst e
    rw[if_pos rfl]
    refine⟨?_,World.cell?_setCell_same _ _ _ (by rw[World.cell?_setCell_other _ _ _ _ (by simp)];exact e2)⟩
    rw[World.cell?_setCell_other _ _ _ _ (by simp)]
    exact World.cell?_setCell_same _ _ _ e1
  · rw[if_neg e]
    constructor
    · rw[World.cell?_setCell_other _ _ _ _ (by intro q;injection q with _ q _;omega),World.cell?_setCell_other _ _ _ _ (by intro q;injection q with _ q _;omega)]
      exact e1
    · rw[World.cell?_setCell_other _ _ _ _ (by intro q;injection q with _ q _;omega),World.cell?_setCell_other _ _ _ _ (by intro q;injection q with _ q _;omega)]
      exact e2
theorem cell_cells {w:World} {ad:Addr} {n c:Nat} {T:List Cel} (h:CRow w (.slice (some ad) n c) T):∀ j u,(valsA encC T)[j]? = some u→w.cell? (ad.add j)=some u:=by
  intro j u hj
  have hj2:=(List.getElem?_eq_some_iff.1 hj).1
  rw[valsA_length encC_len] at hj2
  have hne:0<T.length:=by omega
  obtain⟨b,off,cp,e,-,-,-,hc⟩:=h.open hne
  injection e with e1 e2 e3
  injection e1 with e1
  subst e1
  have hi:j / 2<T.length:=by omega
  have hg:=valsA_get encC_len (0,0) T (j / 2) hi (j % 2) (by omega)
  rw[show j / 2*2+j % 2=j by omega,hj] at hg
  rw[Addr_add]
  obtain⟨c1,c2⟩:=hc _ hi
  rcases Nat.mod_two_eq_zero_or_one j with h2 | h2
  · rw[h2] at hg
    simp[encC] at hg
    rw[show off+j=off+j / 2*2 by omega,c1,hg]
    rfl
  · rw[h2] at hg
    simp[encC] at hg
    rw[show off+j=off+j / 2*2+1 by omega,c2,hg]
    rfl
theorem valsC_one (T:List Cel):∀ u∈valsA encC T,u.oneCell'=true:=by
  intro u hu
  unfold valsA at hu
  obtain⟨c,hc,hu⟩:=List.mem_flatMap.1 hu
  simp[encC] at hu
  rcases hu with rfl | rfl<;>rfl
theorem TA.own {w:World} {base:Nat} {t:TypeId} {v:Value} {T:List Cel} (h:w.ownsRow base t 2 v T.length (valsA encC T)) (h0:0<T.length) :
    ∃ g cap,v = .slice (some ⟨g,0,none⟩) T.length cap∧T.length≤cap∧cap≤9223372036854775807∧base≤g∧TA w g T:=by
  obtain⟨h1,⟨rfl,h2⟩ | ⟨g,cap,cur,rfl,hg,hh,hc1,hc2,hc3,hc4⟩⟩:=h
  · omega
  · refine⟨g,cap,rfl,hc1,by unfold maxLen at hc2;omega,hg,(Array.getElem?_eq_some_iff.1 hh).1,fun i hi=>⟨?_,frozen_own hh _,frozen_own hh _⟩⟩
    have e0:=valsA_get encC_len (0,0) T i hi 0 (by omega)
    have e1:=valsA_get encC_len (0,0) T i hi 1 (by omega)
    rw[←hc4,List.getElem?_take_of_lt (by omega)] at e0 e1
    rw[cell_block hh,cell_block hh]
    simp[encC] at e0 e1
    exact⟨e0,e1⟩
def swp (T:List Cel) (i j:Nat):List Cel:=(T.set i (gt T j)).set j (gt T i)
def carT (T:List Cel) (pos:Nat→Nat):Nat→List Cel
  | 0=>T
  | k+1=>swp (carT T pos k) (pos k) (pos (k+1))
theorem swp_length (T:List Cel) (i j:Nat):(swp T i j).length=T.length:=by simp[swp]
theorem carT_length (T:List Cel) (pos:Nat→Nat) (k:Nat):(carT T pos k).length=T.length:=by
  induction k with
  | zero=>rfl
  | succ k ih=>rw[carT,swp_length,ih]
theorem TA.swp {w:World} {g:Nat} {T:List Cel} (h:TA w g T) (i j:Nat) (hi:i<T.length) (hj:j<T.length) :
    TA ((((w.setCell ⟨g,i*2,none⟩ (.int .u32 (gt T j).1)).setCell ⟨g,i*2+1,none⟩ (.int .i64 (gt T j).2)).setCell ⟨g,j*2,none⟩ (.int .u32 (gt T i).1)).setCell ⟨g,j*2+1,none⟩ (.int .i64 (gt T i).2)) g (swp T i j) :=
  (h.set i hi (gt T j)).set j (by rw[List.length_set];exact hj) (gt T i)
end Go.Proofs.YtmgeiaglandedaaGreatDoor.Pro

namespace Go.Proofs.YtmgeiaglandedaaGreatDoor.Pro
open Go.RowKit
set_option linter.unusedVariables false
def bk (n p s:Nat):Nat:=if s≤p then p-s else p+n-s
theorem ps_ne {n p s:Nat} (hp:p<n) (hs:s+1≤n) (hn:2≤n):ps n p s≠ps n p (s+1):=by
  unfold ps
  (repeat' split)<;>omega
def opK (T:List Cel) (h:Nat):Nat:=sk (fun s=>opC T ((h+s) % T.length) h) T.length
def moK (T:List Cel) (p:Nat):Nat:=sk (fun s=>emC (gt T ((p+s) % T.length))) T.length
def heK (T:List Cel) (p:Nat):Nat:=sk (fun s=>emC (gt T ((p+s) % T.length)) || decide (fr T ((p+s) % T.length)=0)) T.length
end Go.Proofs.YtmgeiaglandedaaGreatDoor.Pro

namespace Go.Proofs.YtmgeiaglandedaaGreatDoor.Pro
open Go.RowKit
set_option linter.unusedVariables false
def eI (T:List Cel) (c:Cel):Int:=if ckC T c=0 then (if T.any (fun a=>decide (a.1=c.1)) then 8 else if T.any emC then 0 else 5) else ckC T c
def insT (T:List Cel) (c:Cel) (h:Nat):List Cel :=
  carT (T.set (((h+opK T h) % T.length+moK T ((h+opK T h) % T.length)) % T.length) c) (bk T.length (((h+opK T h) % T.length+moK T ((h+opK T h) % T.length)) % T.length)) (moK T ((h+opK T h) % T.length))
def rI (T:List Cel) (c:Cel):List Cel:=if eI T c=0 then insT T c c.2.toNat else []
def InsR (w:World) (T:List Cel) (err:Int) (e:Ending) (w':World):Prop:=∃ u,e = .returned (.tuple #[u,.int .i64 err])∧Below w.heap.size w w'∧CRow w' u T
theorem CRow.nil (w:World):CRow w (.slice none 0 0) []:=ARow.nil _ _ _ _
theorem moK_lt {T:List Cel} {p:Nat} (hp:p<T.length) (ha:T.any emC=true):moK T p<T.length:=by
  rcases Nat.lt_or_ge (moK T p) T.length with h | h
  · exact h
  · exfalso
    obtain⟨c,hc,hce⟩:=List.any_eq_true.1 ha
    obtain⟨i,hi,rfl⟩:=List.getElem_of_mem hc
    have ho:=off_lt hp hi
    have h1:=sk_no (P:=fun s=>emC (gt T ((p+s) % T.length))) (n:=T.length) (j:=off T.length p i) (by unfold moK at h;omega)
    rw[mod_ps hp (by omega),ps_off hp hi] at h1
    simp[gt,List.getD,hi,hce] at h1
end Go.Proofs.YtmgeiaglandedaaGreatDoor.Pro

namespace Go.Proofs.YtmgeiaglandedaaGreatDoor.Pro
open Go.RowKit
set_option linter.unusedVariables false
def delT (T:List Cel) (p:Nat):List Cel:=carT (T.set p (0,0)) (ps T.length p) (heK (T.set p (0,0)) (p+1))
def eD (T:List Cel) (c:Cel):Int:=if ckC T c=0 then (if (fiC T c c.2.toNat).2 then 0 else 7) else ckC T c
def rD (T:List Cel) (c:Cel):List Cel:=if eD T c=0 then delT T (fiC T c c.2.toNat).1 else []
theorem heK_lt {T:List Cel} {p:Nat} (hp:p<T.length):heK (T.set p (0,0)) (p+1)<T.length:=by
  rcases Nat.lt_or_ge (heK (T.set p (0,0)) (p+1)) T.length with h | h
  · exact h
  · exfalso
    have h1:=sk_no (P:=fun s=>emC (gt (T.set p (0,0)) ((p+1+s) % (T.set p (0,0)).length)) || decide (fr (T.set p (0,0)) ((p+1+s) % (T.set p (0,0)).length)=0)) (n:=(T.set p (0,0)).length) (j:=T.length-1) (by unfold heK at h;omega)
    rw[List.length_set,show (p+1+(T.length-1)) % T.length=p by rw[show p+1+(T.length-1)=p+T.length by omega,Nat.add_mod_right,Nat.mod_eq_of_lt hp],gt_set _ _ _ _ hp,if_pos rfl] at h1
    simp[emC] at h1
theorem fiC_lt (T:List Cel) (c:Cel) (h:Nat) (h0:0<T.length):(fiC T c h).1<T.length:=by
  unfold fiC
  split
  · exact Nat.mod_lt _ h0
  · exact h0
end Go.Proofs.YtmgeiaglandedaaGreatDoor.Pro

namespace Go.Proofs.YtmgeiaglandedaaGreatDoor.Pro
open Go.RowKit
set_option linter.unusedVariables false
theorem emC_false {c:Cel} : emC c=false↔c≠(0,0):=by
  rw[←Bool.not_eq_true,emC_iff]
theorem mem_ids {T:List Cel} {k:Nat} (hk:k≤T.length) (x:Int):x∈ids T k↔∃ j,j<k∧emC (gt T j)=false∧(gt T j).1=x:=by
  unfold ids
  rw[List.mem_map]
  constructor
  · rintro ⟨c,hc,rfl⟩
    obtain⟨h1,h2⟩:=List.mem_filter.1 hc
    obtain⟨j,hj,e⟩:=List.getElem_of_mem h1
    rw[List.length_take] at hj
    rw[List.getElem_take] at e
    have e2:gt T j=c:=by rw[←e];simp[gt,List.getD,show j<T.length by omega]
    exact⟨j,by omega,by rw[e2];simpa using h2,by rw[e2]⟩
  · rintro ⟨j,hj,h1,h2⟩
    refine⟨gt T j,List.mem_filter.2 ⟨?_,by simp[h1]⟩,h2⟩
    have e2:gt T j=(T.take k)[j]'(by rw[List.length_take];omega):=by rw[List.getElem_take];simp[gt,List.getD,show j<T.length by omega]
    rw[e2]
    exact List.getElem_mem _
theorem rc_rtf {T:List Cel} (h:RC T=true):RTf T.length (gt T):=by
  unfold RC at h
  rw[Bool.and_eq_true] at h
  obtain⟨h1,h2⟩:=h
  have h0:0<T.length:=of_decide_eq_true h2
  have ok:∀ i,i<T.length→gt T i=(0,0)∨((gt T i).1≠0∧0≤(gt T i).2∧(gt T i).2<T.length)∧(gt T i).1 ∉ ids T i∧ldC T i=true:=by
    intro i hi
    have:=List.all_eq_true.1 h1 i (List.mem_range.2 hi)
    unfold okC naC at this
    simp only[Bool.or_eq_true,Bool.and_eq_true,Bool.not_eq_true',decide_eq_true_eq,decide_eq_false_iff_not,emC_iff] at this
    rcases this with h | ⟨⟨h,h'⟩,h''⟩
    · exact .inl h
    · exact .inr ⟨h,h',h''⟩
  refine⟨h0,fun i hi he=>?_,fun i hi he=>?_,fun i k hi hk hne he e=>?_,fun i hi he=>?_⟩
  · rcases ok i hi with h | ⟨⟨h,-⟩,-⟩
    · rw[h]
    · exact absurd he h
  · rcases ok i hi with h | ⟨⟨-,h⟩,-⟩
    · rw[h] at he;exact absurd rfl he
    · exact h
  · have low:∀ a b,a<b→b<T.length→(gt T b).1≠0→(gt T b).1≠(gt T a).1:=by
      intro a b hab hb hbe e2
      rcases ok b hb with h | ⟨-,h,-⟩
      · rw[h] at hbe;exact hbe rfl
      · refine h ((mem_ids (by omega) _).2 ⟨a,hab,?_,e2.symm⟩)
        rw[emC_false]
        intro q
        rw[q] at e2
        exact hbe e2
    rcases Nat.lt_or_gt_of_ne hne with h | h
    · exact low i k h hk (by rw[←e];exact he) e.symm
    · exact low k i h hi he e
  · rcases ok i hi with h | ⟨-,-,h⟩
    · rw[h] at he;exact absurd rfl he
    · unfold ldC at h
      simp only[Bool.or_eq_true,Bool.and_eq_true,Bool.not_eq_true',decide_eq_true_eq,emC_false] at h
      rcases h with h | ⟨h,h'⟩
      · exact .inl h
      · refine .inr ⟨fun q=>?_,h'⟩
        rcases ok _ (pv_lt hi) with h2 | ⟨⟨h2,-⟩,-⟩
        · exact h h2
        · exact h2 q
theorem rtf_rc {T:List Cel} (H:RTf T.length (gt T)):RC T=true:=by
  unfold RC
  rw[Bool.and_eq_true]
  refine⟨List.all_eq_true.2 fun i hi=>?_,decide_eq_true H.pos⟩
  have hi:=List.mem_range.1 hi
  unfold okC naC
  simp only[Bool.or_eq_true,Bool.and_eq_true,Bool.not_eq_true',decide_eq_true_eq,decide_eq_false_iff_not,emC_iff]
  by_cases e:(gt T i).1=0
  · left
    have h2:=H.emp i hi e
    rcases hc:gt T i with⟨a,b⟩
    rw[hc] at e h2
    simp at e h2
    rw[e,h2]
  · right
    refine⟨⟨⟨e,H.hm i hi e⟩,fun q=>?_⟩,?_⟩
    · obtain⟨j,hj,h1,h2⟩:=(mem_ids (by omega) _).1 q
      exact H.ne i j hi (by omega) (by omega) e h2.symm
    · unfold ldC
      simp only[Bool.or_eq_true,Bool.and_eq_true,Bool.not_eq_true',decide_eq_true_eq,emC_false]
      rcases H.led i hi e with h | ⟨h,h'⟩
      · exact .inl h
      · exact .inr ⟨fun q=>h (by rw[q]),h'⟩
theorem em_iff {T:List Cel} (H:RTf T.length (gt T)) {p:Nat} (hp:p<T.length):emC (gt T p)=true↔(gt T p).1=0:=by
  rw[emC_iff]
  constructor
  · intro h;rw[h]
  · intro h
    have h2:=H.emp p hp h
    rcases hc:gt T p with⟨a,b⟩
    rw[hc] at h h2
    simp at h h2
    rw[h,h2]
theorem op_iff {T:List Cel} (H:RTf T.length (gt T)) {p:Nat} (h:Nat) (hp:p<T.length):opC T p (h:Int)=true↔Opn T.length (gt T) h p:=by
  unfold opC Opn fr
  rw[Bool.or_eq_true,em_iff H hp,decide_eq_true_eq]
theorem op_false {T:List Cel} (H:RTf T.length (gt T)) {p:Nat} (h:Nat) (hp:p<T.length):opC T p (h:Int)=false↔¬ Opn T.length (gt T) h p:=by
  rw[←op_iff H h hp,Bool.not_eq_true]
theorem fi_found {T:List Cel} (H:RTf T.length (gt T)) {i h:Nat} {x:Int} (hi:i<T.length) (he:gt T i=(x,(h:Int))) (hx:x≠0):fiC T (x,(h:Int)) h=(i,true):=by
  have hne:(gt T i).1≠0:=by rw[he];exact hx
  obtain⟨h2,d,e1,e2,hh,hd,hps,-⟩:=far_nat H hi hne
  rw[he] at e1
  simp only at e1
  have e3:h=h2:=by omega
  subst e3
  have hk:fiK T (x,(h:Int)) h=d:=by
    refine sk_eq (by omega) (fun j hj=>?_) (fun _=>?_)
    · rw[mod_ps hh (by omega)]
      have h1:=not_open H hi hne (by rw[he]) e2 j hj
      have hq:=ps_lt (i:=j) hh (by omega)
      rw[Bool.or_eq_false_iff,decide_eq_false_iff_not,op_false H h hq]
      refine⟨fun q=>?_,h1⟩
      have hji:ps T.length h j≠i:=fun q2=>by
        have:=off_ps (i:=j) hh (by omega)
        rw[q2,←hps,off_ps hh hd] at this
        omega
      exact H.ne _ i hq hi hji (by rw[q];exact hx) (by rw[q,he])
    · rw[mod_ps hh (by omega),hps,he]
      simp
  unfold fiC
  rw[hk,mod_ps hh (by omega),hps,if_pos he]
theorem fi_none {T:List Cel} {h:Nat} {c:Cel} (h0:0<T.length) (hn:∀ i,i<T.length→gt T i≠c):fiC T c h=(0,false):=by
  unfold fiC
  rw[if_neg (hn _ (Nat.mod_lt _ h0))]
theorem gt_tab {S:List Cel} {n:Nat} {f:Nat→Cel} (hl:S.length=n) (h:∀ j,j<n→gt S j=f j) (S':List Cel) (hl':S'.length=n) (h':∀ j,j<n→gt S' j=f j):S=S':=by
  apply List.ext_getElem (by omega)
  intro i h1 h2
  have a:=h i (by omega)
  have b:=h' i (by omega)
  simp[gt,List.getD,h1] at a
  simp[gt,List.getD,h2] at b
  rw[a,b]
theorem bk_ps {n p m s:Nat} (hp:p<n) (hm:m<n) (hs:s≤m):bk n (ps n p m) s=ps n p (m-s):=by
  unfold bk ps
  (repeat' split)<;>omega
theorem gt_swp {T:List Cel} {i j:Nat} (hi:i<T.length) (hj:j<T.length) (q:Nat):gt (swp T i j) q=if q=j then gt T i else if q=i then gt T j else gt T q:=by
  unfold swp
  rw[gt_set _ _ _ _ (by rw[List.length_set];exact hj),gt_set _ _ _ _ hi]
theorem car_back (T:List Cel) (c:Cel) (p m:Nat) (hp:p<T.length) (hm:m<T.length) (s:Nat) (hs:s≤m) (j:Nat) (hj:j<T.length) :
    gt (carT (T.set (ps T.length p m) c) (bk T.length (ps T.length p m)) s) j =
      if off T.length p j<m-s then gt T j else if off T.length p j=m-s then c else if off T.length p j≤m then gt T (pv T.length j) else gt T j:=by
  induction s generalizing j with
  | zero =>
    show gt (T.set (ps T.length p m) c) j=_
    rw[gt_set _ _ _ _ (ps_lt hp (by omega)),Nat.sub_zero]
    by_cases e:off T.length p j=m
    · rw[if_pos (by rw[←e,ps_off hp hj]),if_neg (by omega),if_pos e]
    · rw[if_neg (fun q=>e (by rw[q,off_ps hp hm]))]
      split
      · rfl
      · rw[if_neg (by omega)]
  | succ s ih =>
    have hl:(carT (T.set (ps T.length p m) c) (bk T.length (ps T.length p m)) s).length=T.length:=by rw[carT_length,List.length_set]
    have b1:=bk_ps hp hm (show s≤m by omega)
    have b2:=bk_ps hp hm hs
    have l1:=ps_lt (i:=m-s) hp (by omega)
    have l2:=ps_lt (i:=m-(s+1)) hp (by omega)
    have o1:=off_ps (i:=m-s) hp (by omega)
    have o2:=off_ps (i:=m-(s+1)) hp (by omega)
    show gt (swp (carT (T.set (ps T.length p m) c) (bk T.length (ps T.length p m)) s) (bk T.length (ps T.length p m) s) (bk T.length (ps T.length p m) (s+1))) j=_
    rw[b1,b2,gt_swp (by rw[hl];exact l1) (by rw[hl];exact l2),ih (by omega) _ l1,ih (by omega) _ l2,ih (by omega) _ hj,o1,o2]
    by_cases e:j=ps T.length p (m-(s+1))
    · rw[if_pos e,if_neg (by omega),if_pos rfl,e,o2,if_neg (by omega),if_pos rfl]
    · rw[if_neg e]
      by_cases e2:j=ps T.length p (m-s)
      · rw[if_pos e2,if_pos (by omega),e2,o1,if_neg (by omega),if_neg (by omega),if_pos (by omega)]
        congr 1
        have:=pv_ps (i:=m-(s+1)) hp (by omega)
        rw[show m-(s+1)+1=m-s by omega] at this
        exact this.symm
      · rw[if_neg e2]
        have n1:off T.length p j≠m-(s+1):=fun q=>e (by rw[←q,ps_off hp hj])
        have n2:off T.length p j≠m-s:=fun q=>e2 (by rw[←q,ps_off hp hj])
        by_cases h1:off T.length p j<m-(s+1)
        · rw[if_pos h1,if_pos (by omega)]
        · rw[if_neg h1,if_neg n1,if_neg (by omega),if_neg n2]
theorem car_fore (T:List Cel) (p:Nat) (hp:p<T.length) (s:Nat) (hs:s<T.length) (j:Nat) (hj:j<T.length) :
    gt (carT (T.set p (0,0)) (ps T.length p) s) j=delf T.length (gt T) p s j:=by
  unfold delf
  induction s generalizing j with
  | zero =>
    show gt (T.set p (0,0)) j=_
    rw[gt_set _ _ _ _ hp]
    by_cases e:j=p
    · rw[if_pos e,e,off_self,if_neg (by omega),if_pos rfl]
    · rw[if_neg e,if_neg (by omega),if_neg (fun q=>e (off_zero hp hj q))]
  | succ s ih =>
    have hl:(carT (T.set p (0,0)) (ps T.length p) s).length=T.length:=by rw[carT_length,List.length_set]
    have l1:=ps_lt (i:=s) hp (by omega)
    have l2:=ps_lt (i:=s+1) hp (by omega)
    have o1:=off_ps (i:=s) hp (by omega)
    have o2:=off_ps (i:=s+1) hp hs
    show gt (swp (carT (T.set p (0,0)) (ps T.length p) s) (ps T.length p s) (ps T.length p (s+1))) j=_
    rw[gt_swp (by rw[hl];exact l1) (by rw[hl];exact l2),ih (by omega) _ l1,ih (by omega) _ l2,ih (by omega) _ hj,o1,o2]
    by_cases e:j=ps T.length p (s+1)
    · rw[if_pos e,if_neg (by omega),if_pos rfl,e,o2,if_neg (by omega),if_pos rfl]
    · rw[if_neg e]
      by_cases e2:j=ps T.length p s
      · rw[if_pos e2,if_neg (by omega),if_neg (by omega),e2,o1,if_pos (by omega)]
        congr 1
        rw[←pv_ps hp hs,nx_pv l2]
      · rw[if_neg e2]
        have n1:off T.length p j≠s+1:=fun q=>e (by rw[←q,ps_off hp hj])
        have n2:off T.length p j≠s:=fun q=>e2 (by rw[←q,ps_off hp hj])
        by_cases h1:off T.length p j<s
        · rw[if_pos h1,if_pos (by omega)]
        · rw[if_neg h1,if_neg n2,if_neg (by omega),if_neg n1]
theorem ins_h {T:List Cel} {x:Int} {h:Nat} (he:eI T (x,(h:Int))=0):InsH T.length (gt T) (x,(h:Int)) h (opK T h) (moK T (ps T.length h (opK T h)))∧h<T.length:=by
  unfold eI at he
  split at he
  case isFalse hc=>exact absurd he hc
  case isTrue hc =>
  obtain⟨h1,h2⟩:=ck_ok hc
  split at he
  · cases he
  case isFalse ha =>
  split at he
  case isFalse=>cases he
  case isTrue hem =>
  have H:=rc_rtf h2
  unfold naC at h1
  have h1:=of_decide_eq_true h1
  simp only at h1
  have hh:h<T.length:=by omega
  obtain⟨z,hz,hze⟩:∃ z,z<T.length∧(gt T z).1=0:=by
    obtain⟨c,hcm,hce⟩:=List.any_eq_true.1 hem
    obtain⟨i,hi,rfl⟩:=List.getElem_of_mem hcm
    refine⟨i,hi,?_⟩
    have:gt T i=T[i]:=by simp[gt,List.getD,hi]
    rw[this,(emC_iff _).1 hce]
  have hk:opK T h<T.length:=by
    rcases Nat.lt_or_ge (opK T h) T.length with hlt | hge
    · exact hlt
    · exfalso
      have:=off_lt hh hz
      have h3:=sk_no (P:=fun s=>opC T ((h+s) % T.length) h) (n:=T.length) (j:=off T.length h z) (by unfold opK at hge;omega)
      rw[mod_ps hh (by omega),ps_off hh hz,op_false H h hz] at h3
      exact h3 (.inl hze)
  have hp:=ps_lt (i:=opK T h) hh (by omega)
  have hm:=moK_lt hp hem
  refine⟨⟨H,h1.1,rfl,hh,fun i hi q=>?_,hk,fun j hj=>?_,?_,hm,fun j hj=>?_,?_⟩,hh⟩
  · refine ha (List.any_eq_true.2 ⟨gt T i,by simp[gt,List.getD,hi],?_⟩)
    simpa using q
  · have h3:=sk_no (P:=fun s=>opC T ((h+s) % T.length) h) (n:=T.length) hj
    rw[mod_ps hh (by omega),op_false H h (ps_lt hh (by omega))] at h3
    exact h3
  · have h3:=sk_yes (P:=fun s=>opC T ((h+s) % T.length) h) (n:=T.length) hk
    rw[show sk (fun s=>opC T ((h+s) % T.length) h) T.length=opK T h from rfl,mod_ps hh (by omega),op_iff H h hp] at h3
    exact h3
  · have h3:=sk_no (P:=fun s=>emC (gt T ((ps T.length h (opK T h)+s) % T.length))) (n:=T.length) hj
    rw[mod_ps hp (by omega),←Bool.not_eq_true,em_iff H (ps_lt hp (by omega))] at h3
    exact h3
  · have h3:=sk_yes (P:=fun s=>emC (gt T ((ps T.length h (opK T h)+s) % T.length))) (n:=T.length) hm
    rw[show sk (fun s=>emC (gt T ((ps T.length h (opK T h)+s) % T.length))) T.length=moK T (ps T.length h (opK T h)) from rfl,mod_ps hp (by omega),em_iff H (ps_lt hp (by omega))] at h3
    exact h3
theorem insT_length (T:List Cel) (c:Cel) (h:Nat):(insT T c h).length=T.length:=by unfold insT;rw[carT_length,List.length_set]
theorem ins_gt {T:List Cel} {x:Int} {h:Nat} (he:eI T (x,(h:Int))=0):∀ j,j<T.length→gt (insT T (x,(h:Int)) h) j=insf T.length (gt T) (x,(h:Int)) (ps T.length h (opK T h)) (moK T (ps T.length h (opK T h))) j:=by
  obtain⟨I,hh⟩:=ins_h he
  intro j hj
  have hp:=I.pn
  unfold insT
  rw[mod_ps hh (Nat.le_of_lt I.kn),mod_ps hp (Nat.le_of_lt I.mn),car_back T _ _ _ hp I.mn _ (Nat.le_refl _) j hj,if_neg (by omega),Nat.sub_self]
  rfl
theorem del_pos {T:List Cel} {p j:Nat} (hp:p<T.length) (hj:j<T.length):(p+1+j) % (T.set p (0,0)).length=ps T.length p (j+1):=by
  rw[List.length_set,show p+1+j=p+(j+1) by omega,mod_ps hp (by omega)]
theorem del_pred {T:List Cel} (H:RTf T.length (gt T)) {p j:Nat} (hp:p<T.length) (hj:j+1<T.length) :
    (emC (gt (T.set p (0,0)) ((p+1+j) % (T.set p (0,0)).length)) || decide (fr (T.set p (0,0)) ((p+1+j) % (T.set p (0,0)).length)=0))=true↔(gt T (ps T.length p (j+1))).1=0∨frf T.length (gt T) (ps T.length p (j+1))=0:=by
  have hq:=ps_lt (i:=j+1) hp (by omega)
  have hne:ps T.length p (j+1)≠p:=fun e=>by
    have:=off_ps (i:=j+1) hp hj
    rw[e,off_self] at this
    omega
  have e1:gt (T.set p (0,0)) (ps T.length p (j+1))=gt T (ps T.length p (j+1)):=by rw[gt_set _ _ _ _ hp,if_neg hne]
  rw[del_pos hp (by omega),Bool.or_eq_true,decide_eq_true_eq]
  unfold fr frf
  rw[e1,em_iff H hq,List.length_set]
theorem he_del {T:List Cel} (H:RTf T.length (gt T)) {p:Nat} (hp:p<T.length):DelH T.length (gt T) p (heK (T.set p (0,0)) (p+1)):=by
  have hm:=heK_lt hp
  refine⟨H,hp,hm,fun j hj=>?_,fun hlt=>?_⟩
  · have h3:=sk_no (P:=fun s=>emC (gt (T.set p (0,0)) ((p+1+s) % (T.set p (0,0)).length)) || decide (fr (T.set p (0,0)) ((p+1+s) % (T.set p (0,0)).length)=0)) (n:=(T.set p (0,0)).length) hj
    rw[←Bool.not_eq_true,del_pred H hp (by omega)] at h3
    exact⟨fun q=>h3 (.inl q),fun q=>h3 (.inr q)⟩
  · have h3:=sk_yes (P:=fun s=>emC (gt (T.set p (0,0)) ((p+1+s) % (T.set p (0,0)).length)) || decide (fr (T.set p (0,0)) ((p+1+s) % (T.set p (0,0)).length)=0)) (n:=(T.set p (0,0)).length) (show heK (T.set p (0,0)) (p+1)<(T.set p (0,0)).length by rw[List.length_set];exact hm)
    exact(del_pred H hp (by unfold heK at hlt;exact hlt)).1 h3
theorem del_he {T:List Cel} {p m:Nat} (D:DelH T.length (gt T) p m):heK (T.set p (0,0)) (p+1)=m:=by
  have hp:=D.pn
  have hm:=D.mn
  refine sk_eq (by rw[List.length_set];omega) (fun j hj=>?_) (fun _=>?_)
  · rw[←Bool.not_eq_true,del_pred D.rt hp (by omega)]
    have:=D.run j hj
    exact fun q=>q.elim this.1 this.2
  · rcases Nat.lt_or_ge (m+1) T.length with hlt | hge
    · rw[del_pred D.rt hp hlt]
      exact D.stop hlt
    · rw[del_pos hp hm,show ps T.length p (m+1)=p by unfold ps;split<;>omega,gt_set _ _ _ _ hp,if_pos rfl]
      rfl
theorem delT_length (T:List Cel) (p:Nat):(delT T p).length=T.length:=by unfold delT;rw[carT_length,List.length_set]
theorem del_gt {T:List Cel} {p m:Nat} (D:DelH T.length (gt T) p m):∀ j,j<T.length→gt (delT T p) j=delf T.length (gt T) p m j:=by
  intro j hj
  unfold delT
  rw[del_he D]
  exact car_fore T p D.pn m D.mn j hj
end Go.Proofs.YtmgeiaglandedaaGreatDoor.Pro

namespace Go.Proofs.YtmgeiaglandedaaGreatDoor.Pro
open Go.RowKit
set_option linter.unusedVariables false
theorem infoR:(Tryz.prog.info? 132).map (fun i=>(i.zero,i.size,i.bytes))=some (some (.agg #[.int .u32 0,.int .i64 0]),2,16):=by kernel_rfl
end Go.Proofs.YtmgeiaglandedaaGreatDoor.Pro

namespace Go.Proofs.YtmgeiaglandedaaGreatDoor.Pro
open Go.RowKit
set_option linter.unusedVariables false
theorem wrap_hi {x:Int} (h1:9223372036854775807<x) (h2:x≤18446744073709551614):IntKind.i64.wrap x=x-18446744073709551616:=by
  rw[IntWalk.i64_left]
  unfold wrap64
  omega
theorem wrap_lo {x:Int} (h1:x < -9223372036854775808) (h2 : -18446744073709551616≤x):IntKind.i64.wrap x=x+18446744073709551616:=by
  rw[IntWalk.i64_left]
  unfold wrap64
  omega
set_option maxRecDepth 100000 in
theorem rdist_any (n h a:Int) (w:World) (h1 : -9223372036854775808≤n) (h2:n≤9223372036854775807):Calls Tryz.prog 224 #[.int .i64 n,.int .i64 h,.int .i64 a] w fun e w'=>e = .returned (.int .i64 (dI n h a))∧w=w':=by
  by_cases g1:h<0
  · have E:=Lib.hid (show dI n h a=0 from if_neg (by omega))
    go_enter Tryz.func224,Tryz.ntmps224
    go_wp2
    go_ret
    exact⟨ret_int E.out.symm,rfl⟩
  · by_cases g2 : n ≤ h
    · have E:=Lib.hid (show dI n h a=0 from if_neg (by omega))
      go_enter Tryz.func224,Tryz.ntmps224
      go_wp2
      go_ret
      exact⟨ret_int E.out.symm,rfl⟩
    · by_cases g3 : a < 0
      · have E:=Lib.hid (show dI n h a=0 from if_neg (by omega))
        go_enter Tryz.func224,Tryz.ntmps224
        go_wp2
        go_ret
        exact⟨ret_int E.out.symm,rfl⟩
      · by_cases g4 : n ≤ a
        · have E:=Lib.hid (show dI n h a=0 from if_neg (by omega))
          go_enter Tryz.func224,Tryz.ntmps224
          go_wp2
          go_ret
          exact⟨ret_int E.out.symm,rfl⟩
        · have E0:dI n h a=if a<h then a-h+n else a-h:=if_pos (by omega)
          by_cases g5:h≤a
          · have E:=Lib.hid (E0.trans (if_neg (by omega)))
            have w1:IntKind.i64.wrap (a-h)=a-h:=wrap_id (by omega) (by omega)
            clear E0
            go_enter Tryz.func224,Tryz.ntmps224
            go_wp2
            go_ret
            exact⟨ret_int E.out.symm,rfl⟩
          · have E:=Lib.hid (E0.trans (if_pos (by omega)))
            clear E0
            by_cases g6:a+n≤9223372036854775807
            · have w1:IntKind.i64.wrap (a+n)=a+n:=wrap_id (by omega) (by omega)
              have w2:IntKind.i64.wrap (a+n-h)=a-h+n:=(wrap_id (by omega) (by omega)).trans (by omega)
              go_enter Tryz.func224,Tryz.ntmps224
              go_wp2
              go_ret
              refine⟨ret_int ?_,rfl⟩
              rw[E.out]
              try omega
            · obtain⟨s,hs⟩:∃ s,s=a+n-18446744073709551616:=⟨_,rfl⟩
              have w1:IntKind.i64.wrap (a+n)=s:=(wrap_hi (by omega) (by omega)).trans hs.symm
              have w2:IntKind.i64.wrap (s-h)=a-h+n:=(wrap_lo (by omega) (by omega)).trans (by omega)
              clear hs
              go_enter Tryz.func224,Tryz.ntmps224
              go_wp2
              go_ret
              refine⟨ret_int ?_,rfl⟩
              rw[E.out]
def offI (n h:Nat) (v:Value):Nat:=off n h (intOf v).toNat
end Go.Proofs.YtmgeiaglandedaaGreatDoor.Pro

namespace Go.Proofs.YtmgeiaglandedaaGreatDoor.Pro
open Go.RowKit
set_option linter.unusedVariables false
theorem ei_zero {T:List Cel} {c:Cel} (he:eI T c=0):ckC T c=0∧T.any (fun a=>decide (a.1=c.1))=false∧T.any emC=true:=by
  unfold eI at he
  split at he
  case isFalse hc=>exact absurd he hc
  case isTrue hc =>
  split at he
  · cases he
  case isFalse ha =>
  split at he
  case isFalse=>cases he
  case isTrue hem=>exact⟨hc,Bool.eq_false_iff.2 ha,hem⟩
end Go.Proofs.YtmgeiaglandedaaGreatDoor.Pro

namespace Go.Proofs.YtmgeiaglandedaaGreatDoor.Pro
open Go.RowKit
set_option linter.unusedVariables false
theorem rfar_any (u:Value) (T:List Cel) (p:Nat) (x:Int) (w:World) (hr:CRow w u T) (hp:p<T.length) (hn:T.length≤1000000) (hx:x=p):Calls Tryz.prog 155 #[u,.int .i64 x] w fun e w'=>e = .returned (.int .i64 (fr T p))∧w=w':=by
  subst hx
  obtain⟨b,off,c,rfl,q1,q2,-,hc⟩:=hr.open (by omega)
  have HD:=Lib.hid (fun W=>rdist_any T.length (gt T p).2 p W (by omega) (by omega))
  rw[show dI T.length (gt T p).2 p=fr T p from rfl] at HD
  have c1:=(hc p hp).2
  have hp1:(p:Int)<(T.length:Int):=by omega
  generalize (gt T p).2=y at *
  clear hc
  go_enter Tryz.func155,Tryz.ntmps155
  go_wp2_with fail
  refine(HD.out _).mono ?_
  rintro e w' ⟨rfl,rfl⟩
  go_wp2
  go_ret
  exact⟨rfl,rfl⟩
def OkA (T:List Cel) (i:Nat):Prop:=((gt T i).1=0→(gt T i).2=0)∧((gt T i).1≠0→(0≤(gt T i).2∧(gt T i).2<T.length)∧∀ j,j<i→(gt T j).1≠(gt T i).1)
def OkB (T:List Cel) (i:Nat):Prop:=(gt T i).1≠0→fr T i≤0∨((gt T (pv T.length i)).1≠0∧fr T i-1≤fr T (pv T.length i))
theorem okA_no {T:List Cel} {i:Nat} (hi:i<T.length) (h:¬ OkA T i):RC T=false:=by
  rw[←Bool.not_eq_true]
  intro hr
  have H:=rc_rtf hr
  exact h ⟨H.emp i hi,fun he=>⟨H.hm i hi he,fun j hj e=>H.ne i j hi (by omega) (by omega) he e.symm⟩⟩
theorem okB_no {T:List Cel} {i:Nat} (hi:i<T.length) (h:¬ OkB T i):RC T=false:=by
  rw[←Bool.not_eq_true]
  intro hr
  have H:=rc_rtf hr
  refine h (fun he=>?_)
  rcases H.led i hi he with h1 | h1
  · left;show frf _ _ _≤0;omega
  · exact .inr h1
theorem ok_all {T:List Cel} (hA:∀ i,i<T.length→OkA T i) (hB:∀ i,i<T.length→OkB T i):RC T=decide (0<T.length):=by
  by_cases h0:0<T.length
  · rw [decide_eq_true h0]
    refine rtf_rc ⟨h0,fun i hi=>(hA i hi).1,fun i hi he=>((hA i hi).2 he).1,fun i k hi hk hne he e=>?_,fun i hi he=>?_⟩
    · rcases Nat.lt_or_gt_of_ne hne with h | h
      · exact((hA k hk).2 (by rw[←e];exact he)).2 i h e
      · exact((hA i hi).2 he).2 k h e.symm
    · have hnn:=dI_nn T.length (gt T i).2 i
      rcases hB i hi he with h | h
      · left
        have:frf T.length (gt T) i≤0:=h
        unfold frf at *
        omega
      · exact .inr h
  · rw[decide_eq_false h0]
    unfold RC
    rw[decide_eq_false h0,Bool.and_false]
set_option maxRecDepth 100000 in
set_option maxHeartbeats 2000000 in
theorem rright_any (u:Value) (T:List Cel) (w:World) (hr:CRow w u T) (hn:T.length≤1000) :
    Calls Tryz.prog 154 #[u] w fun e w'=>e = .returned (.bool (RC T))∧Below w.heap.size w w':=by
  by_cases h0:0<T.length
  · have HR:=Lib.hid hr
    obtain⟨b,off,c,rfl,q1,q2,hblt,hc⟩:=hr.open h0
    have HC:=Lib.hid hc
    have HA:=Lib.hid (fun i hi h=>okA_no (T:=T) (i:=i) hi h)
    have HBn:=Lib.hid (fun i hi h=>okB_no (T:=T) (i:=i) hi h)
    have HAll:=Lib.hid (ok_all (T:=T))
    rw[decide_eq_true h0] at HAll
    have HF:=Lib.hid (fun p hp x W hW hx=>rfar_any (.slice (some ⟨b,off,none⟩) T.length c) T p x W hW hp (by omega) hx)
    have h01:(0:Int)<(T.length:Int):=by omega
    clear hc hr
    go_enter Tryz.func154,Tryz.ntmps154
    go_wp2
    go_loopw [3,4] (fun i _ wr=>∃ k:Nat,k≤T.length∧i = .int .i64 k∧Hid (Below w.heap.size w wr)∧Hid (∀ j,j<k→OkA T j)) (fun i _ _=>T.length-(intOf i).toNat)
    case atStart=>exact⟨0,Nat.zero_le _,rfl,Below.refl _ _,fun j hj=>by omega⟩
    case round =>
      obtain⟨k,hk,rfl,HB,HK⟩:=hrel
      by_cases hlt:k<T.length
      · have hlt1:(k:Int)<(T.length:Int):=by omega
        obtain⟨d1,d2⟩:=HC.out k hlt
        have c1:=(HB.out.cell (p:=⟨b,off+k*2,none⟩) hblt).trans d1
        have c2:=(HB.out.cell (p:=⟨b,off+k*2+1,none⟩) hblt).trans d2
        have HAk:=Lib.hid (HA.out k hlt)
        have EA:=Lib.hid (show OkA T k=(((gt T k).1=0→(gt T k).2=0)∧((gt T k).1≠0→(0≤(gt T k).2∧(gt T k).2<T.length)∧∀ j,j<k→(gt T j).1≠(gt T k).1)) from rfl)
        have HQ:=Lib.hid (fun(h:OkA T k) j (hj:j<k+1)=>show OkA T j by
          by_cases e:j=k
          · subst e;exact h
          · exact HK.out j (by omega))
        generalize (gt T k).1=x at *
        generalize (gt T k).2=y at *
        by_cases hx:x=0
        · subst hx
          by_cases hy:y=0
          · subst hy
            have HK2:=Lib.hid (HQ.out (by rw[EA.out];exact⟨fun _=>rfl,fun h=>absurd rfl h⟩))
            clear HQ EA HAk
            go_wp2
            go_roundw
            case rel=>exact⟨k+1,by omega,by go_num,HB,HK2⟩
            case measure=>simp[intOf];omega
          · have hy1:(y != 0)=true:=by simp[hy]
            have HF2:=Lib.hid (HAk.out (by rw[EA.out];exact fun h=>hy (h.1 rfl)))
            clear HQ EA HAk
            go_wp2
            go_ret
            exact⟨ret_bool HF2.out.symm,HB.out⟩
        · have hx1:(x == 0)=false:=by simp[hx]
          by_cases hy0:y<0
          · have HF2:=Lib.hid (HAk.out (by rw[EA.out];exact fun h=>by have:=(h.2 hx).1;omega))
            clear HQ EA HAk
            go_wp2
            go_ret
            exact⟨ret_bool HF2.out.symm,HB.out⟩
          · by_cases hy1 : (T.length : Int) ≤ y
            · have HF2:=Lib.hid (HAk.out (by rw[EA.out];exact fun h=>by have:=(h.2 hx).1;omega))
              have hy2:y≥(T.length:Int):=hy1
              clear HQ EA HAk
              go_wp2
              go_ret
              exact⟨ret_bool HF2.out.symm,HB.out⟩
            · have hy2:¬ y≥(T.length:Int):=hy1
              clear c1 c2
              have c1:=(HB.out.cell (p:=⟨b,off+k*2,none⟩) hblt).trans d1
              have c2:=(HB.out.cell (p:=⟨b,off+k*2+1,none⟩) hblt).trans d2
              go_wp2
              go_loopw [4] (fun a4 wq=>∃ j:Nat,j≤k∧a4 = .int .i64 j∧Hid (Below w.heap.size w wq)∧Hid (∀ i,i<j→(gt T i).1≠x)) (fun a4 _=>k-(intOf a4).toNat)
              case atStart=>exact⟨0,Nat.zero_le _,rfl,HB,fun j hj=>by omega⟩
              case round =>
                obtain⟨j,hjk,rfl,HBq,HJ⟩:=hrel
                clear c1 c2
                by_cases hjl:j<k
                · obtain⟨e1,-⟩:=HC.out j (by omega)
                  have c1:=(HBq.out.cell (p:=⟨b,off+k*2,none⟩) hblt).trans d1
                  have c3:=(HBq.out.cell (p:=⟨b,off+j*2,none⟩) hblt).trans e1
                  have hjl1:(j:Int)<(k:Int):=by omega
                  have hjl2:(j:Int)<(T.length:Int):=by omega
                  have HNo:Hid ((gt T j).1=x→RC T=false):=fun q=>HAk.out (by rw[EA.out];exact fun h=>(h.2 hx).2 j hjl q)
                  have HYe:Hid ((gt T j).1≠x→∀ i,i<j+1→(gt T i).1≠x):=fun q i hi=>by
                    by_cases e:i=j
                    · subst e;exact q
                    · exact HJ.out i (by omega)
                  generalize (gt T j).1=z at *
                  by_cases hz:z=x
                  · subst hz
                    have HF2:=Lib.hid (HNo.out rfl)
                    have hz1:(z == z)=true:=by simp
                    clear HQ EA HAk HNo HYe
                    go_wp2_with fail
                    go_quiet (fail)
                    go_wp2
                    go_ret
                    exact⟨ret_bool HF2.out.symm,below_drewN HBq.out _⟩
                  · have hz1:(z == x)=false:=by simp[hz]
                    have HJ2:=Lib.hid (HYe.out hz)
                    clear HNo HYe
                    go_wp2_with fail
                    go_quiet (fail)
                    go_wp2
                    have HB2:Hid (Below w.heap.size w (wr.drewN nq)):=below_drewN HBq.out _
                    go_roundw
                    case rel=>exact⟨j+1,by omega,by go_num,HB2,HJ2⟩
                    case measure=>simp[intOf];omega
                · obtain rfl:j=k:=by omega
                  have HK2:=Lib.hid (HQ.out (by rw[EA.out];exact⟨fun h=>absurd h hx,fun _=>⟨by omega,HJ.out⟩⟩))
                  clear HQ EA HAk
                  go_wp2
                  go_roundw
                  case rel=>exact⟨j+1,by omega,by go_num,HBq,HK2⟩
                  case measure=>simp[intOf];omega
      · obtain rfl:k=T.length:=by omega
        have HAA:=Lib.hid (HAll.out HK.out)
        clear HA HAll HK
        go_wp2
        go_loopw [5,6] (fun i _ wq=>∃ k:Nat,k≤T.length∧i = .int .i64 k∧Hid (Below w.heap.size w wq)∧Hid (∀ j,j<k→OkB T j)) (fun i _ _=>T.length-(intOf i).toNat)
        case atStart=>exact⟨0,Nat.zero_le _,rfl,HB,fun j hj=>by omega⟩
        case round =>
          obtain⟨k,hk,rfl,HBq,HK⟩:=hrel
          by_cases hlt:k<T.length
          · have hlt1:(k:Int)<(T.length:Int):=by omega
            have hpl:=pv_lt hlt
            obtain⟨d1,-⟩:=HC.out k hlt
            obtain⟨d2,-⟩:=HC.out _ hpl
            have hmod:((k:Int)+T.length-1) % (T.length:Int)=(pv T.length k:Nat):=by
              have:=bw_one hlt
              rw[←this,Int.natCast_emod]
              congr 1
              omega
            have hw1:IntKind.i64.wrap ((k:Int)+T.length)=(k:Int)+T.length:=wrap_id (by omega) (by omega)
            have hw2:IntKind.i64.wrap ((k:Int)+T.length-1)=(k:Int)+T.length-1:=wrap_id (by omega) (by omega)
            have HBk:=Lib.hid (HBn.out k hlt)
            have EB:=Lib.hid (show OkB T k=((gt T k).1≠0→fr T k≤0∨((gt T (pv T.length k)).1≠0∧fr T k-1≤fr T (pv T.length k))) from rfl)
            have hf1:=dI_nn T.length (gt T k).2 k
            have hf2:=dI_lt T.length (gt T k).2 k (by omega)
            rw[show dI T.length (gt T k).2 k=fr T k from rfl] at hf1 hf2
            have HFk:=Lib.hid (HF.out k hlt)
            have HFp:=Lib.hid (HF.out _ hpl)
            have HQ:=Lib.hid (fun(h:OkB T k) j (hj:j<k+1)=>show OkB T j by
              by_cases e:j=k
              · subst e;exact h
              · exact HK.out j (by omega))
            have c1:=(HBq.out.cell (p:=⟨b,off+k*2,none⟩) hblt).trans d1
            have c2:=(HBq.out.cell (p:=⟨b,off+pv T.length k*2,none⟩) hblt).trans d2
            have HRq:=Lib.hid (HR.out.mono HBq.out (Nat.le_refl _))
            generalize (gt T k).1=x at *
            generalize (gt T (pv T.length k)).1=z at *
            generalize fr T k=F at *
            generalize fr T (pv T.length k)=G at *
            generalize pv T.length k=q at *
            have hw3:IntKind.i64.wrap (F-1)=F-1:=wrap_id (by omega) (by omega)
            have hq1:(q:Int)<(T.length:Int):=by omega
            clear d1 d2
            by_cases hx:x=0
            · subst hx
              have hx1:((0:Int) != 0)=false:=by simp
              have HK2:=Lib.hid (HQ.out (by rw[EB.out];exact fun h=>absurd rfl h))
              clear HQ EB HBk
              go_wp2
              go_roundw
              case rel=>exact⟨k+1,by omega,by go_num,HBq,HK2⟩
              case measure=>simp[intOf];omega
            · have hx1:(x != 0)=true:=by simp[hx]
              by_cases hF:F≤0
              · have hF1:¬ F>0:=by omega
                have HK2:=Lib.hid (HQ.out (by rw[EB.out];exact fun h=>.inl hF))
                clear HQ EB HBk
                go_wp2_with fail
                refine(HFk.out _ _ HRq.out rfl).mono ?_
                rintro e w1 ⟨rfl,rfl⟩
                go_wp2
                go_roundw
                case rel=>exact⟨k+1,by omega,by go_num,HBq,HK2⟩
                case measure=>simp[intOf];omega
              · have hF1:F>0:=by omega
                by_cases hz:z=0
                · subst hz
                  have HF2:=Lib.hid (HBk.out (by rw[EB.out];exact fun h=>by rcases h hx with h | h;omega;exact h.1 rfl))
                  clear HQ EB HBk
                  go_wp2_with fail
                  try rw[hmod]
                  refine(HFk.out _ _ HRq.out rfl).mono ?_
                  rintro e w1 ⟨rfl,rfl⟩
                  go_wp2
                  go_ret
                  exact⟨ret_bool HF2.out.symm,HBq.out⟩
                · have hz1:(z == 0)=false:=by simp[hz]
                  by_cases hG:G<F-1
                  · have HF2:=Lib.hid (HBk.out (by rw[EB.out];exact fun h=>by rcases h hx with h | h;omega;have:=h.2;omega))
                    clear HQ EB HBk
                    go_wp2_with fail
                    try rw[hmod]
                    refine(HFk.out _ _ HRq.out rfl).mono ?_
                    rintro e w1 ⟨rfl,rfl⟩
                    go_wp2_with fail
                    refine(HFp.out _ _ HRq.out rfl).mono ?_
                    rintro e w1 ⟨rfl,rfl⟩
                    go_wp2_with fail
                    refine(HFk.out _ _ HRq.out rfl).mono ?_
                    rintro e w1 ⟨rfl,rfl⟩
                    go_wp2
                    go_ret
                    exact⟨ret_bool HF2.out.symm,HBq.out⟩
                  · have HK2:=Lib.hid (HQ.out (by rw[EB.out];exact fun h=>.inr ⟨hz,by omega⟩))
                    clear HQ EB HBk
                    go_wp2_with fail
                    try rw[hmod]
                    refine(HFk.out _ _ HRq.out rfl).mono ?_
                    rintro e w1 ⟨rfl,rfl⟩
                    go_wp2_with fail
                    refine(HFp.out _ _ HRq.out rfl).mono ?_
                    rintro e w1 ⟨rfl,rfl⟩
                    go_wp2_with fail
                    refine(HFk.out _ _ HRq.out rfl).mono ?_
                    rintro e w1 ⟨rfl,rfl⟩
                    go_wp2
                    go_roundw
                    case rel=>exact⟨k+1,by omega,by go_num,HBq,HK2⟩
                    case measure=>simp[intOf];omega
          · obtain rfl:k=T.length:=by omega
            have HF2:=Lib.hid (HAA.out HK.out)
            go_wp2
            go_ret
            exact⟨ret_bool HF2.out.symm,HBq.out⟩
  · obtain rfl:T = []:=List.length_eq_zero_iff.1 (by omega)
    obtain⟨a,c,rfl,-,-⟩:=hr.slice
    clear hr
    go_enter Tryz.func154,Tryz.ntmps154
    go_wp2
    go_loopw [3,4] (fun i _ wr=>i = .int .i64 0∧w=wr) (fun i _ _=>0)
    case atStart=>exact⟨rfl,rfl⟩
    case round =>
      obtain⟨rfl,rfl⟩:=hrel
      go_wp2
      go_loopw [5,6] (fun i _ wr=>i = .int .i64 0∧w=wr) (fun i _ _=>0)
      case atStart=>exact⟨rfl,rfl⟩
      case round =>
        obtain⟨rfl,rfl⟩:=hrel
        go_wp2
        go_ret
        exact⟨ret_bool rfl,Below.refl _ _⟩
end Go.Proofs.YtmgeiaglandedaaGreatDoor.Pro

namespace Go.Proofs.YtmgeiaglandedaaGreatDoor.Pro
open Go.RowKit
set_option linter.unusedVariables false
set_option maxRecDepth 100000 in
theorem has_any (u:Value) (T:List Cel) (x:Int) (w:World) (hr:CRow w u T) (hn:T.length≤1000) :
    Calls Tryz.prog 158 #[u,.int .u32 x] w fun e w'=>e = .returned (.bool (T.any fun a=>decide (a.1=x)))∧w=w':=by
  by_cases h0:0<T.length
  · obtain⟨b,off,c,rfl,q1,q2,hblt,hc⟩:=hr.open h0
    have HC:=Lib.hid hc
    have HY:=Lib.hid (any_take (fun a=>decide (a.1=x)) T)
    have HN:=Lib.hid (any_none (fun a=>decide (a.1=x)) T)
    clear hc hr
    go_enter Tryz.func158,Tryz.ntmps158
    go_wp2
    go_loopw [5] (fun i wr=>∃ k:Nat,k≤T.length∧i = .int .i64 k∧w=wr∧Hid (∀ j,j<k→decide ((gt T j).1=x)=false)) (fun i _=>T.length-(intOf i).toNat)
    case atStart=>exact⟨0,Nat.zero_le _,rfl,rfl,fun j hj=>by omega⟩
    case round =>
      obtain⟨k,hk,rfl,rfl,HK⟩:=hrel
      by_cases hlt:k<T.length
      · have hlt1:(k:Int)<(T.length:Int):=by omega
        obtain⟨c1,-⟩:=HC.out k hlt
        have HYk:=Lib.hid (HY.out k hlt)
        have HKn:Hid ((gt T k).1≠x→∀ j,j<k+1→decide ((gt T j).1=x)=false):=fun q j hj=>by
          by_cases e:j=k
          · subst e;exact decide_eq_false q
          · exact HK.out j (by omega)
        generalize (gt T k).1=z at *
        by_cases hz:z=x
        · have HF:=Lib.hid (HYk.out (decide_eq_true hz))
          have hz1:(z == x)=true:=by simp[hz]
          clear HKn HYk hz
          go_wp2
          go_ret
          exact⟨ret_bool HF.out.symm,rfl⟩
        · have hz1:(z == x)=false:=by simp[hz]
          have HK2:=Lib.hid (HKn.out hz)
          clear HKn HYk hz
          go_wp2
          go_roundw
          case rel=>exact⟨k+1,by omega,by go_num,by first | rfl | trivial,HK2⟩
          case measure=>simp[intOf];omega
      · obtain rfl:k=T.length:=by omega
        have HF:=Lib.hid (HN.out HK.out)
        go_wp2
        go_ret
        exact⟨ret_bool HF.out.symm,rfl⟩
  · obtain rfl:T = []:=List.length_eq_zero_iff.1 (by omega)
    obtain⟨a,c,rfl,-,-⟩:=hr.slice
    clear hr
    go_enter Tryz.func158,Tryz.ntmps158
    go_wp2
    go_loopw [5] (fun i wr=>i = .int .i64 0∧w=wr) (fun i _=>0)
    case atStart=>exact⟨rfl,rfl⟩
    case round =>
      obtain⟨rfl,rfl⟩:=hrel
      go_wp2
      go_ret
      exact⟨rfl,rfl⟩
set_option maxRecDepth 100000 in
theorem place_any (u:Value) (T:List Cel) (h k0:Nat) (w:World) (hr:CRow w u T) (hn:T.length≤1000) (H:RTf T.length (gt T)) (hh:h<T.length) (hk0:k0<T.length)
    (hs:∀ j,j<k0→¬ Opn T.length (gt T) h (ps T.length h j)) (ho:Opn T.length (gt T) h (ps T.length h k0)) :
    Calls Tryz.prog 159 #[u,.int .i64 (h:Int)] w fun e w'=>e = .returned (.int .i64 (ps T.length h k0:Nat))∧w=w':=by
  have HR:=Lib.hid hr
  obtain⟨b,off,c,rfl,q1,q2,hblt,hc⟩:=hr.open H.pos
  have HC:=Lib.hid hc
  have HS:Hid (∀ j,j<k0→(gt T (ps T.length h j)).1≠0∧¬ fr T (ps T.length h j)<j):=fun j hj=>by
    have:=hs j hj
    unfold Opn at this
    rw[dI_ps hh (by omega)] at this
    exact⟨fun q=>this (.inl q),fun q=>this (.inr q)⟩
  have HO:Hid ((gt T (ps T.length h k0)).1=0∨fr T (ps T.length h k0)<k0):=by
    unfold Opn at ho
    rw[dI_ps hh hk0] at ho
    exact ho
  have HF:=Lib.hid (fun p hp x W hW hx=>rfar_any (.slice (some ⟨b,off,none⟩) T.length c) T p x W hW hp (by omega) hx)
  clear hc hr hs ho H
  go_enter Tryz.func159,Tryz.ntmps159
  go_wp2
  go_loopw [5,6] (fun i _ wr=>∃ k:Nat,k≤k0∧i = .int .i64 k∧w=wr) (fun i _ _=>T.length-(intOf i).toNat)
  case atStart=>exact⟨0,Nat.zero_le _,rfl,rfl⟩
  case round =>
    obtain⟨k,hk,rfl,rfl⟩:=hrel
    have hlt1:(k:Int)<(T.length:Int):=by omega
    have hpl:=ps_lt (i:=k) hh (by omega)
    obtain⟨c1,-⟩:=HC.out _ hpl
    have hmod:((h:Int)+k) % (T.length:Int)=(ps T.length h k:Nat):=by rw[←mod_ps hh (by omega),Int.natCast_emod,Int.natCast_add]
    have HFk:=Lib.hid (HF.out _ hpl)
    have HSk:=Lib.hid (HS.out k)
    have hkk:=HO.out
    by_cases e:k=k0
    · subst e
      clear HSk HS HO
      generalize (gt T (ps T.length h k)).1=z at *
      generalize fr T (ps T.length h k)=F at *
      generalize hpe:ps T.length h k=p at *
      have HP:=Lib.hid hpe
      clear hpe
      have hp1:(p:Int)<(T.length:Int):=by omega
      by_cases hz:z=0
      · have hz1:(z == 0)=true:=by simp[hz]
        clear hkk hz
        go_wp2
        go_ret
        exact⟨by rw[HP.out];first | rfl | exact ret_int hmod,rfl⟩
      · have hz1:(z == 0)=false:=by simp[hz]
        have hF:F<(k:Int):=by rcases hkk with h1 | h1;exact absurd h1 hz;exact h1
        clear hkk hz
        go_wp2_with fail
        try rw[hmod]
        refine(HFk.out _ _ HR.out rfl).mono ?_
        rintro e w1 ⟨rfl,rfl⟩
        go_wp2
        go_ret
        exact⟨by rw[HP.out];first | rfl | exact ret_int hmod,rfl⟩
    · obtain⟨hz,hF⟩:=HSk.out (by omega)
      clear HSk hkk
      generalize (gt T (ps T.length h k)).1=z at *
      generalize fr T (ps T.length h k)=F at *
      generalize ps T.length h k=p at *
      have hp1:(p:Int)<(T.length:Int):=by omega
      have hz1:(z == 0)=false:=by simp[hz]
      clear hz
      go_wp2_with fail
      try rw[hmod]
      refine(HFk.out _ _ HR.out rfl).mono ?_
      rintro e w1 ⟨rfl,rfl⟩
      go_wp2
      go_roundw
      case rel=>exact⟨k+1,by omega,by go_num,by first | rfl | trivial⟩
      case measure=>simp[intOf];omega
theorem rf_none {T:List Cel} (H:RTf T.length (gt T)) {x:Int} {h k:Nat} (hx:x≠0) (hh:h<T.length) (hk:k≤T.length) (h1:∀ j,j<k→gt T (ps T.length h j)≠(x,(h:Int)))
    (h2:k<T.length→(gt T (ps T.length h k)).1=0∨fr T (ps T.length h k)<k):fiC T (x,(h:Int)) h=(0,false):=by
  refine fi_none H.pos (fun i hi he=>?_)
  have hne:(gt T i).1≠0:=by rw[he];exact hx
  obtain⟨h',d,e1,e2,hh',hd,hps,-⟩:=far_nat H hi hne
  rw[he] at e1
  simp only at e1
  have e3:h=h':=by omega
  subst e3
  have hdk:k≤d:=by
    rcases Nat.lt_or_ge d k with q | q
    · exact absurd (by rw[hps];exact he) (h1 d q)
    · exact q
  have h3:=h2 (by omega)
  rcases Nat.lt_or_ge k d with q | q
  · have:=not_open H hi hne (by rw[he]) e2 k q
    unfold Opn at this
    rw[dI_ps hh (by omega)] at this
    exact this h3
  · obtain rfl:k=d:=by omega
    rw[hps,he] at h3
    rcases h3 with h3 | h3
    · exact hx h3
    · have e4:fr T i=k:=e2
      omega
set_option maxRecDepth 100000 in
set_option maxHeartbeats 1000000 in
theorem rFind_any (u:Value) (T:List Cel) (x y:Int) (w:World) (hr:CRow w u T) (hn:T.length≤1000) :
    Calls Tryz.prog 89 #[u,.int .u32 x,.int .i64 y] w fun e w'=>e = .returned (.tuple #[.int .i64 ((FiC T (x,y)).1:Int),.bool (FiC T (x,y)).2])∧Below w.heap.size w w':=by
  have HR:=Lib.hid hr
  have HT:=Lib.hid (rright_any u T w hr hn)
  obtain⟨a,c,rfl,q1,q2⟩:=id hr.slice
  by_cases hna:naC T (x,y)=true
  · obtain⟨h,rfl,hh⟩:=na_home hna
    have hx:x≠0:=by
      have:=of_decide_eq_true hna
      exact this.1
    have hx1:(x == 0)=false:=by simp[hx]
    have hh1:¬ ((h:Int)≥(T.length:Int)):=by omega
    cases hrc:RC T with
    | false =>
      rw[hrc] at HT
      have E:=Lib.hid (show FiC T (x,(h:Int))=(0,false) by rw[FiC,if_neg (by simp[ckC,hna,hrc])])
      rw[E.out]
      clear hr E hrc hna HR
      go_enter Tryz.func89,Tryz.ntmps89
      go_wp2_with fail
      refine HT.out.mono ?_
      rintro e w1 ⟨rfl,hb1⟩
      go_wp2
      go_ret2
      exact⟨rfl,hb1⟩
    | true =>
      rw[hrc] at HT
      have H:=rc_rtf hrc
      have E:=Lib.hid (show FiC T (x,(h:Int))=fiC T (x,(h:Int)) h by rw[FiC,if_pos (by simp[ckC,hna,hrc])];simp)
      rw[E.out]
      obtain⟨b,off,c2,e0,-,-,hblt,hc⟩:=hr.open H.pos
      injection e0 with e0 e1 e2
      subst e0 e2
      have HC:=Lib.hid hc
      have HFo:=Lib.hid (fun i hi he=>fi_found H (i:=i) (h:=h) (x:=x) hi he hx)
      have HFn:=Lib.hid (fun k hk h1 h2=>rf_none H (k:=k) hx hh hk h1 h2)
      have HF:=Lib.hid (fun p hp z W hW hz=>rfar_any (.slice (some ⟨b,off,none⟩) T.length c) T p z W hW hp (by omega) hz)
      generalize fiC T (x,(h:Int)) h=R at *
      clear hr E hrc hna hc H e1
      go_enter Tryz.func89,Tryz.ntmps89
      go_wp2_with fail
      refine HT.out.mono ?_
      rintro e w1 ⟨rfl,hb1⟩
      have HB1:=Lib.hid hb1
      clear hb1
      go_wp2
      go_loopw [8,9] (fun i _ wr=>∃ k:Nat,k≤T.length∧i = .int .i64 k∧Hid (Below w.heap.size w wr)∧Hid (∀ j,j<k→gt T (ps T.length h j)≠(x,(h:Int)))) (fun i _ _=>T.length-(intOf i).toNat)
      case atStart=>exact⟨0,Nat.zero_le _,rfl,HB1,fun j hj=>by omega⟩
      case round =>
        obtain⟨k,hk,rfl,HB,HK⟩:=hrel
        by_cases hlt:k<T.length
        · have hlt1:(k:Int)<(T.length:Int):=by omega
          have hpl:=ps_lt (i:=k) hh (by omega)
          obtain⟨d1,d2⟩:=HC.out _ hpl
          have c1:=(HB.out.cell (p:=⟨b,off+ps T.length h k*2,none⟩) hblt).trans d1
          have c2:=(HB.out.cell (p:=⟨b,off+ps T.length h k*2+1,none⟩) hblt).trans d2
          have hmod:((h:Int)+k) % (T.length:Int)=(ps T.length h k:Nat):=by rw[←mod_ps hh (by omega),Int.natCast_emod,Int.natCast_add]
          have HFk:=Lib.hid (HF.out _ hpl)
          have HRk:=Lib.hid (HR.out.mono HB.out (Nat.le_refl _))
          have HNk:=Lib.hid (fun h2=>HFn.out k hk HK.out h2)
          have HYk:=Lib.hid (HFo.out _ hpl)
          have HE:=Lib.hid (show gt T (ps T.length h k)=(x,(h:Int))↔(gt T (ps T.length h k)).1=x∧(gt T (ps T.length h k)).2=h from ⟨fun q=>by rw[q];exact⟨rfl,rfl⟩,fun⟨q1,q2⟩=>Prod.ext q1 q2⟩)
          have HQ:Hid (gt T (ps T.length h k)≠(x,(h:Int))→∀ j,j<k+1→gt T (ps T.length h j)≠(x,(h:Int))):=fun q j hj=>by
            by_cases e:j=k
            · subst e;exact q
            · exact HK.out j (by omega)
          rw[HE.out] at HYk
          have HQ2:Hid (¬ ((gt T (ps T.length h k)).1=x∧(gt T (ps T.length h k)).2=h)→∀ j,j<k+1→gt T (ps T.length h j)≠(x,(h:Int))):=fun q=>HQ.out (fun e=>q (HE.out.1 e))
          clear HQ HE d1 d2
          generalize (gt T (ps T.length h k)).1=z at *
          generalize (gt T (ps T.length h k)).2=v at *
          generalize fr T (ps T.length h k)=F at *
          generalize ps T.length h k=p at *
          have hp1:(p:Int)<(T.length:Int):=by omega
          by_cases hz:z=0
          · have hz1:(z == 0)=true:=by simp[hz]
            have HR2:=Lib.hid (HNk.out (fun _=>.inl hz))
            clear HQ2 HYk HNk hz
            go_wp2
            go_ret2
            exact⟨by rw[HR2.out];rfl,HB.out⟩
          · have hz1:(z == 0)=false:=by simp[hz]
            by_cases hF:F<(k:Int)
            · have HR2:=Lib.hid (HNk.out (fun _=>.inr hF))
              clear HQ2 HYk HNk hz
              go_wp2_with fail
              try rw[hmod]
              refine(HFk.out _ _ HRk.out rfl).mono ?_
              rintro e w1 ⟨rfl,rfl⟩
              go_wp2
              go_ret2
              exact⟨by rw[HR2.out];rfl,HB.out⟩
            · by_cases hzx : z = x
              · have hz2:(z == x)=true:=by simp[hzx]
                by_cases hv:v=(h:Int)
                · have hv2:(v == (h:Int))=true:=by simp[hv]
                  have HR2:=Lib.hid (HYk.out ⟨hzx,hv⟩)
                  clear HQ2 HYk HNk hz hzx hv
                  go_wp2_with fail
                  try rw[hmod]
                  refine(HFk.out _ _ HRk.out rfl).mono ?_
                  rintro e w1 ⟨rfl,rfl⟩
                  go_wp2
                  go_ret2
                  exact⟨by rw[HR2.out];rfl,HB.out⟩
                · have hv2:(v == (h:Int))=false:=by simp[hv]
                  have HK2:=Lib.hid (HQ2.out (fun q=>hv q.2))
                  clear HQ2 HYk HNk hz hzx hv
                  go_wp2_with fail
                  try rw[hmod]
                  refine(HFk.out _ _ HRk.out rfl).mono ?_
                  rintro e w1 ⟨rfl,rfl⟩
                  go_wp2
                  go_roundw
                  case rel=>exact⟨k+1,by omega,by go_num,HB,HK2⟩
                  case measure=>simp[intOf];omega
              · have hz2:(z == x)=false:=by simp[hzx]
                have HK2:=Lib.hid (HQ2.out (fun q=>hzx q.1))
                clear HQ2 HYk HNk hz hzx
                go_wp2_with fail
                try rw[hmod]
                refine(HFk.out _ _ HRk.out rfl).mono ?_
                rintro e w1 ⟨rfl,rfl⟩
                go_wp2
                go_roundw
                case rel=>exact⟨k+1,by omega,by go_num,HB,HK2⟩
                case measure=>simp[intOf];omega
        · obtain rfl:k=T.length:=by omega
          have HR2:=Lib.hid (HFn.out _ (Nat.le_refl _) HK.out (fun q=>absurd q (by omega)))
          go_wp2
          go_ret2
          exact⟨by rw[HR2.out];rfl,HB.out⟩
  · have E:=Lib.hid (show FiC T (x,y)=(0,false) by rw[FiC,if_neg (by simp[ckC,hna])])
    rw[E.out]
    have hna2:x=0∨y<0∨(T.length:Int)≤y:=by
      unfold naC at hna
      simp only[decide_eq_true_eq] at hna
      omega
    clear hr E hna HR HT
    by_cases hx:x=0
    · have hx1:(x == 0)=true:=by simp[hx]
      clear hx hna2
      go_enter Tryz.func89,Tryz.ntmps89
      go_wp2
      go_ret2
      exact⟨rfl,Below.refl _ _⟩
    · have hx1:(x == 0)=false:=by simp[hx]
      by_cases hy:y<0
      · go_enter Tryz.func89,Tryz.ntmps89
        go_wp2
        go_ret2
        exact⟨rfl,Below.refl _ _⟩
      · have hy2:y≥(T.length:Int):=by omega
        go_enter Tryz.func89,Tryz.ntmps89
        go_wp2
        go_ret2
        exact⟨rfl,Below.refl _ _⟩
end Go.Proofs.YtmgeiaglandedaaGreatDoor.Pro

namespace Go.Proofs.YtmgeiaglandedaaGreatDoor.Pro
open Go.RowKit
set_option linter.unusedVariables false
def nV (T:List Cel) (c:Cel) (p:Nat):Nat→Cel
  | 0=>c
  | j+1=>gt T (ps T.length p j)
def rS (T:List Cel) (c:Cel) (p:Nat):Nat→List Cel
  | 0=>T
  | j+1=>(rS T c p j).set (ps T.length p j) (nV T c p j)
theorem rS_length (T:List Cel) (c:Cel) (p j:Nat):(rS T c p j).length=T.length:=by
  induction j with
  | zero=>rfl
  | succ j ih=>rw[rS,List.length_set,ih]
theorem rS_gt {T:List Cel} {c:Cel} {p:Nat} (hp:p<T.length) (j:Nat) (hj:j≤T.length) (q:Nat) (hq:q<T.length) :
    gt (rS T c p j) q=if off T.length p q<j then (if off T.length p q=0 then c else gt T (pv T.length q)) else gt T q:=by
  induction j with
  | zero=>rw[if_neg (by omega)];rfl
  | succ j ih =>
    have hpl:=ps_lt (i:=j) hp (by omega)
    have o1:=off_ps (i:=j) hp (by omega)
    rw[rS,gt_set _ _ _ _ (by rw[rS_length];exact hpl),ih (by omega)]
    by_cases e:q=ps T.length p j
    · rw[if_pos e,e,o1,if_pos (by omega)]
      cases j with
      | zero=>rw[if_pos rfl];rfl
      | succ j=>rw[if_neg (by omega),nV,pv_ps hp (by omega)]
    · have n1:off T.length p q≠j:=fun h=>e (by rw[←h,ps_off hp hq])
      rw[if_neg e]
      by_cases h1:off T.length p q<j
      · have h2:off T.length p q<j+1:=by omega
        simp only[h1,h2,if_true]
      · have h2:¬ off T.length p q<j+1:=by omega
        simp only[h1,h2,if_false]
theorem rS_here {T:List Cel} {c:Cel} {p j:Nat} (hp:p<T.length) (hj:j<T.length):gt (rS T c p j) (ps T.length p j)=gt T (ps T.length p j):=by
  rw[rS_gt hp j (by omega) _ (ps_lt hp (by omega)),off_ps hp hj,if_neg (by omega)]
theorem rS_ins {T:List Cel} {x:Int} {h:Nat} (he:eI T (x,(h:Int))=0):rS T (x,(h:Int)) (ps T.length h (opK T h)) (moK T (ps T.length h (opK T h))+1)=insT T (x,(h:Int)) h:=by
  obtain⟨I,hh⟩:=ins_h he
  refine gt_tab (n:=T.length) (f:=insf T.length (gt T) (x,(h:Int)) (ps T.length h (opK T h)) (moK T (ps T.length h (opK T h)))) (rS_length _ _ _ _) (fun j hj=>?_) _ (insT_length _ _ _) (ins_gt he)
  rw[rS_gt I.pn _ (by have:=I.mn;omega) j hj]
  unfold insf
  by_cases h1:off T.length (ps T.length h (opK T h)) j<moK T (ps T.length h (opK T h))+1
  · rw[if_pos h1]
    by_cases h2:off T.length (ps T.length h (opK T h)) j=0
    · rw[if_pos h2,if_pos h2]
    · rw[if_neg h2,if_neg h2,if_pos (by omega)]
  · rw[if_neg h1,if_neg (by omega),if_neg (by omega)]
theorem TA.other {w:World} {g b o:Nat} {T:List Cel} (h:TA w g T) (u:Value) (hb:b≠g):TA (w.setCell ⟨b,o,none⟩ u) g T:=by
  refine⟨by simpa[World.setCell] using h.1,fun i hi=>?_⟩
  obtain⟨⟨e1,e2⟩,f1,f2⟩:=h.2 i hi
  refine⟨⟨?_,?_⟩,by rw[World.frozen?_setCell];exact f1,by rw[World.frozen?_setCell];exact f2⟩
  · rw[World.cell?_setCell_other _ _ _ _ (by intro q;injection q with q _ _;exact hb q)];exact e1
  · rw[World.cell?_setCell_other _ _ _ _ (by intro q;injection q with q _ _;exact hb q)];exact e2
theorem set_box {w:World} {b:Nat} {x y:Int} {T:TypeId} (h:w.heap[b]? = some (.cells #[.int .u32 x,.int .i64 y] T (0,0))) (x' y':Int) :
    ((w.setCell ⟨b,0,none⟩ (.int .u32 x')).setCell ⟨b,1,none⟩ (.int .i64 y')).heap[b]? = some (.cells #[.int .u32 x',.int .i64 y'] T (0,0)):=two_set1 (two_set0 h _) _
theorem box_cells {w:World} {b:Nat} {x y:Int} {T:TypeId} (h:w.heap[b]? = some (.cells #[.int .u32 x,.int .i64 y] T (0,0))) :
    w.cell? ⟨b,0,none⟩=some (.int .u32 x)∧w.cell? ⟨b,1,none⟩=some (.int .i64 y)∧w.frozen? ⟨b,0,none⟩=false∧w.frozen? ⟨b,1,none⟩=false :=
  ⟨by rw[cell_block h];rfl,by rw[cell_block h];rfl,frozen_own h _,frozen_own h _⟩
def InsG (w:World) (n:Nat) (T:List Cel) (e:Ending) (w':World):Prop:=∃ g cap,e = .returned (.tuple #[.slice (some ⟨g,0,none⟩) n cap,.int .i64 0])∧w.heap.size≤g∧Below w.heap.size w w'∧CRow w' (.slice (some ⟨g,0,none⟩) n cap) T
theorem InsG.any {w:World} {n:Nat} {T:List Cel} {e:Ending} {w':World} (h:InsG w n T e w'):InsR w T 0 e w':=by
  obtain⟨g,cap,h1,-,h2,h3⟩:=h
  exact⟨_,h1,h2,h3⟩
set_option maxRecDepth 100000 in
set_option maxHeartbeats 2000000 in
theorem rInsert_new (u:Value) (T:List Cel) (x:Int) (h:Nat) (w:World) (hr:CRow w u T) (hn:T.length≤1000) (he:eI T (x,(h:Int))=0) :
    Calls Tryz.prog 78 #[u,.int .u32 x,.int .i64 (h:Int)] w (InsG w T.length (insT T (x,(h:Int)) h)):=by
  obtain⟨I,hh⟩:=ins_h he
  obtain⟨hck,ha,hem⟩:=ei_zero he
  obtain⟨hna,hrc⟩:=ck_ok hck
  have H:=rc_rtf hrc
  have hem2:(T.any fun a=>decide (a.1=0))=true:=by
    obtain⟨c,hc,hce⟩:=List.any_eq_true.1 hem
    rw[List.any_eq_true]
    exact⟨c,hc,by rw[(emC_iff c).1 hce];rfl⟩
  have hx:=I.id
  simp only at hx
  have hx1:(x == 0)=false:=by simp[hx]
  have hh1:¬ ((h:Int)≥(T.length:Int)):=by omega
  have HT:=Lib.hid (rright_any u T w hr hn)
  rw[hrc] at HT
  have HH:=Lib.hid (fun W (hW:Below w.heap.size w W) z=>has_any u T z W (hr.mono hW (Nat.le_refl _)) hn)
  have HHx:=Lib.hid (fun W hW=>HH.out W hW x)
  rw[ha] at HHx
  have HH0:=Lib.hid (fun W hW=>HH.out W hW 0)
  rw[hem2] at HH0
  have HPl:=Lib.hid (fun W (hW:Below w.heap.size w W)=>place_any u T h (opK T h) W (hr.mono hW (Nat.le_refl _)) hn H hh I.kn I.shut I.opn)
  have hRe:=rS_ins he
  have hpn:=I.pn
  have hmn:=I.mn
  have HS0:Hid (∀ j,j<moK T (ps T.length h (opK T h))→(gt T (ps T.length (ps T.length h (opK T h)) j)).1≠0):=I.run
  have HS1:Hid ((gt T (ps T.length (ps T.length h (opK T h)) (moK T (ps T.length h (opK T h))))).1=0):=I.hole
  generalize opK T h=k at *
  generalize ps T.length h k=p at *
  generalize moK T p=m at *
  have HRe:=Lib.hid hRe
  have HRl:=Lib.hid (insT_length T (x,(h:Int)) h)
  generalize insT T (x,(h:Int)) h=R at *
  obtain⟨i0,hi,hz0,hz1,hz2⟩:=info_parts infoR
  obtain⟨b,off,c,rfl,q1,q2,hblt,-⟩:=hr.open H.pos
  have HRow:=Lib.hid hr
  have HV:=Lib.hid (valsA_length encC_len T)
  have HV1:=Lib.hid (valsC_one T)
  have h0:=H.pos
  have HTA:=Lib.hid (fun(W:World) (v:Value) (hO:W.ownsRow w.heap.size 132 2 v T.length (valsA encC T))=>TA.own hO h0)
  clear hr I hck ha hem hna hrc H hem2 he hRe HH
  go_enter Tryz.func78,Tryz.ntmps78
  go_wp2_with fail
  refine HT.out.mono ?_
  rintro e w1 ⟨rfl,hb1⟩
  have HB1:=Lib.hid hb1
  clear hb1
  go_wp2_with fail
  refine(HHx.out _ HB1.out).mono ?_
  rintro e w2 ⟨rfl,rfl⟩
  go_wp2_with fail
  refine(HH0.out _ HB1.out).mono ?_
  rintro e w2 ⟨rfl,rfl⟩
  have HOw:Hid ((w1.alloc (.cells #[] 132)).ownsRow w.heap.size 132 2 (.slice (some ⟨w1.heap.size,0,none⟩) 0 0) 0 (valsA encC [])) :=
    ⟨rfl,.inr ⟨w1.heap.size,0,#[],rfl,HB1.out.size,heap_alloc_new _ _,by omega,by unfold maxLen;omega,rfl,rfl⟩⟩
  have HB2:=Lib.hid (HB1.out.alloc HB1.out.size (.cells #[] 132))
  have HCe:=Lib.hid (cell_cells (HRow.out.mono HB2.out (Nat.le_refl _)))
  have hsz:=size_alloc w1 (.cells #[] 132)
  have hsz1:=HB1.out.size
  go_wp2_with (at_builtin;refine wpList_append_own _ rfl (.tmp 33) (.tmp 34) 74 rfl w.heap.size 132 i0 (.agg #[.int .u32 0,.int .i64 0]) 2 16 Tryz.underlying74 hi hz0 hz1 hz2 rfl (by decide) _ _ _ rfl HOw.out ⟨b,off,none⟩ T.length c (valsA encC T) rfl HV.out HCe.out HV1.out (by unfold maxLen;omega) (by omega) (by omega) ?_)
  intro v' w3 hown' hgrow _
  have HB3:Hid (Below w.heap.size w w3):=HB2.out.grown hgrow (by omega) (fun r hr=>by have:w1.heap.size=r:=Option.some.inj hr;omega)
  obtain⟨g,cap,rfl,k1,k2,k3,k4⟩:=HTA.out _ _ hown'
  have HT3:=Lib.hid k4
  have hg3:=k4.1
  clear hown' hgrow k4 HOw HCe HB2 hsz hi hz0 hz1 hz2
  go_wp2_with fail
  refine(HPl.out _ HB3.out).mono ?_
  rintro e w4 ⟨rfl,rfl⟩
  obtain⟨w5,hw5⟩:∃ w5,w5=w3.alloc (.cells #[.int .u32 x,.int .i64 (h:Int)] 132):=⟨_,rfl⟩
  have hs5:w5.heap.size=w3.heap.size+1:=by rw[hw5,size_alloc]
  have hX5:w5.heap[w3.heap.size]? = some (.cells #[.int .u32 x,.int .i64 (h:Int)] 132 (0,0)):=by rw[hw5];exact heap_alloc_new _ _
  have HB35:Hid (Below w3.heap.size w3 w5):=by rw[hw5];exact below_made _ _
  have HB5:=Lib.hid (HB3.out.trans (HB35.out.mono HB3.out.size))
  have HT5:=Lib.hid (HT3.out.below HB35.out)
  have HX5:=Lib.hid hX5
  have hw3s:=HB3.out.size
  clear hX5 HT3 HB35
  go_upto_region 12 with fail
  rw[←hw5]
  clear hw5
  obtain⟨B,hB⟩:∃ B,B=w3.heap.size:=⟨_,rfl⟩
  rw[←hB] at HX5 hs5 hw3s hg3 ⊢
  clear hB
  have hBg:B≠g:=by omega
  go_loopw [9,11] (fun a9 _ wr=>∃ j:Nat,j≤m∧Hid (a9 = .int .i64 (ps T.length p j:Nat))∧Hid (Below w.heap.size w wr)∧Hid (TA wr g (rS T (x,(h:Int)) p j))∧Hid (wr.heap[B]? = some (.cells #[.int .u32 (nV T (x,(h:Int)) p j).1,.int .i64 (nV T (x,(h:Int)) p j).2] 132 (0,0)))) (fun a9 _ _=>T.length-offI T.length p a9)
  case atStart=>exact⟨0,Nat.zero_le _,by unfold Hid;rw[ps_zero hpn],HB5,HT5,HX5⟩
  case round =>
    obtain⟨j,hj,ha9,HB,HT',HX⟩:=hrel
    have e9:=ha9.out
    subst e9
    clear ha9 HT5 HX5 HB5
    have hpl:=ps_lt (i:=j) hpn (by omega)
    have hl:=rS_length T (x,(h:Int)) p j
    obtain⟨⟨a1,a2⟩,f1,f2⟩:=HT'.out.2 (ps T.length p j) (by rw[hl];exact hpl)
    rw[rS_here hpn (by omega)] at a1 a2
    have HSe:=Lib.hid (fun(W:World) (hW:TA W g (rS T (x,(h:Int)) p j))=>hW.set (ps T.length p j) (by rw[hl];exact hpl) (nV T (x,(h:Int)) p j))
    rw[show (rS T (x,(h:Int)) p j).set (ps T.length p j) (nV T (x,(h:Int)) p j)=rS T (x,(h:Int)) p (j+1) from rfl] at HSe
    have hmod:(((ps T.length p j:Nat):Int)+1) % (T.length:Int)=(ps T.length p (j+1):Nat):=by
      rw[←mod_ps hpn (show j+1≤T.length by omega),←mod_ps hpn (show j≤T.length by omega),Int.natCast_emod,Int.natCast_emod]
      rw[Int.natCast_add,Int.natCast_add,Int.emod_add_emod]
      congr 1
      try omega
    have o1:=off_ps (i:=j) hpn (by omega)
    have HNx:Hid (nV T (x,(h:Int)) p (j+1)=gt T (ps T.length p j)):=rfl
    generalize (nV T (x,(h:Int)) p j).1=nx at *
    generalize (nV T (x,(h:Int)) p j).2=ny at *
    by_cases hjm:j<m
    · have hz:=HS0.out j hjm
      have o2:=off_ps (i:=j+1) hpn (by omega)
      have HN1:Hid ((nV T (x,(h:Int)) p (j+1)).1=(gt T (ps T.length p j)).1∧(nV T (x,(h:Int)) p (j+1)).2=(gt T (ps T.length p j)).2):=⟨rfl,rfl⟩
      generalize (gt T (ps T.length p j)).1=zx at *
      generalize (gt T (ps T.length p j)).2=zy at *
      generalize hpq:ps T.length p j=a at *
      generalize hpr:ps T.length p (j+1)=a' at *
      have HO1:=Lib.hid o1
      have HO2:=Lib.hid o2
      have HPr:=Lib.hid hpr
      clear hpq hpr o1 o2 HNx
      have hz1:(zx != 0)=true:=by simp[hz]
      have hai:(a:Int)<(T.length:Int):=by omega
      obtain⟨b1,b2,b3,b4⟩:=box_cells HX.out
      have hsr:=HB.out.size
      have hgr:=HT'.out.1
      have hBr:=(Array.getElem?_eq_some_iff.1 HX.out).1
      obtain⟨wb,hwb⟩:∃ wb,wb=wr.alloc (.cells #[.int .u32 zx,.int .i64 zy] 132):=⟨_,rfl⟩
      have hsb:wb.heap.size=wr.heap.size+1:=by rw[hwb,size_alloc]
      have hY:wb.heap[wr.heap.size]? = some (.cells #[.int .u32 zx,.int .i64 zy] 132 (0,0)):=by rw[hwb];exact heap_alloc_new _ _
      have hBb:Below wr.heap.size wr wb:=by rw[hwb];exact below_made _ _
      have HTb:=Lib.hid (HT'.out.below hBb)
      have HXb:=Lib.hid ((hBb.block B hBr).trans HX.out)
      have HBb:=Lib.hid (HB.out.trans (hBb.mono HB.out.size))
      have HYb:=Lib.hid hY
      go_upto_region 14 with fail
      rw[←hwb]
      clear hwb a1 a2 f1 f2 b1 b2 b3 b4 hY hBb HX HT' HB
      obtain⟨⟨a1,a2⟩,f1,f2⟩:=HTb.out.2 a (by rw[hl];omega)
      obtain⟨b1,b2,b3,b4⟩:=box_cells HXb.out
      have HTc:=Lib.hid (HSe.out _ HTb.out)
      obtain⟨wc,hwc⟩:∃ wc,wc=(wb.setCell ⟨g,a*2,none⟩ (.int .u32 nx)).setCell ⟨g,a*2+1,none⟩ (.int .i64 ny):=⟨_,rfl⟩
      rw[←hwc] at HTc
      have hfc:Fr wb.heap.size (fun b=>b=g) wb wc:=by rw[hwc];exact Fr.setCell (Fr.setCell (Fr.refl wb.heap.size (fun b=>b=g) wb) (p:=⟨g,a*2,none⟩) (.inr rfl) _) (p:=⟨g,a*2+1,none⟩) (.inr rfl) _
      have HXc:=Lib.hid ((hfc.block B (by omega) hBg).trans HXb.out)
      have HYc:=Lib.hid ((hfc.block wr.heap.size (by omega) (by omega)).trans HYb.out)
      have HBc:=Lib.hid (HBb.out.trans (hfc.toBelow (by omega) (fun k hk e=>by subst e;omega)))
      clear hfc
      go_upto_region 15 with fail
      rw[←hwc]
      clear hwc a1 a2 f1 f2 b1 b2 b3 b4 HTb HXb HYb HBb
      obtain⟨b1,b2,b3,b4⟩:=box_cells HXc.out
      obtain⟨d1,d2,-,-⟩:=box_cells HYc.out
      obtain⟨wd,hwd⟩:∃ wd,wd=(wc.setCell ⟨B,0,none⟩ (.int .u32 zx)).setCell ⟨B,1,none⟩ (.int .i64 zy):=⟨_,rfl⟩
      have HXd:Hid (wd.heap[B]? = some (.cells #[.int .u32 zx,.int .i64 zy] 132 (0,0))):=by rw[hwd];exact set_box HXc.out _ _
      have HTd:Hid (TA wd g (rS T (x,(h:Int)) p (j+1))):=by rw[hwd];exact(HTc.out.other _ hBg).other _ hBg
      have HBd:Hid (Below w.heap.size w wd):=by rw[hwd];exact(HBc.out.setCell (by show w.heap.size≤B;omega) _).setCell (by show w.heap.size≤B;omega) _
      go_upto_region 16 with fail
      rw[←hwd]
      clear hwd b1 b2 b3 b4 d1 d2 HXc HYc HTc HBc
      rw[←HN1.out.1,←HN1.out.2] at HXd
      go_wp2
      try rw[hmod]
      go_roundw
      case rel=>exact⟨j+1,by omega,by unfold Hid;rw[HPr.out],HBd,HTd,HXd⟩
      case measure =>
        have a1:=HO1.out
        have a2:=HO2.out
        simp[offI,intOf]
        omega
    · obtain rfl:j=m:=by omega
      have hz:=HS1.out
      generalize (gt T (ps T.length p j)).1=zx at *
      generalize (gt T (ps T.length p j)).2=zy at *
      generalize ps T.length p j=a at *
      have hz1:(zx != 0)=false:=by simp[hz]
      have hai:(a:Int)<(T.length:Int):=by omega
      obtain⟨b1,b2,b3,b4⟩:=box_cells HX.out
      have HTe:=Lib.hid (HSe.out _ HT'.out)
      rw[HRe.out] at HTe
      have HBe:Hid (Below w.heap.size w ((wr.setCell ⟨g,a*2,none⟩ (.int .u32 nx)).setCell ⟨g,a*2+1,none⟩ (.int .i64 ny))):=(HB.out.setCell (by show w.heap.size≤g;omega) _).setCell (by show w.heap.size≤g;omega) _
      clear hz HSe
      go_wp2
      go_ret2
      refine⟨_,_,rfl,k3,HBe.out,?_⟩
      rw[←HRl.out]
      exact HTe.out.row (by rw[HRl.out];exact k1) k2
theorem rInsert_ok (u:Value) (T:List Cel) (x:Int) (h:Nat) (w:World) (hr:CRow w u T) (hn:T.length≤1000) (he:eI T (x,(h:Int))=0) :
    Calls Tryz.prog 78 #[u,.int .u32 x,.int .i64 (h:Int)] w (InsR w (insT T (x,(h:Int)) h) 0) :=
  (rInsert_new u T x h w hr hn he).mono fun e w' q=>q.any
end Go.Proofs.YtmgeiaglandedaaGreatDoor.Pro

namespace Go.Proofs.YtmgeiaglandedaaGreatDoor.Pro
open Go.RowKit
set_option linter.unusedVariables false
theorem na_no {T:List Cel} {x y:Int} (h:naC T (x,y)=false):x=0∨(x≠0∧y<0)∨(x≠0∧¬ y<0∧(T.length:Int)≤y):=by
  unfold naC at h
  simp only[decide_eq_false_iff_not] at h
  omega
theorem any_em {T:List Cel} (h:RC T=true):(T.any fun a=>decide (a.1=0))=T.any emC:=by
  have H:=rc_rtf h
  rw[Bool.eq_iff_iff,List.any_eq_true,List.any_eq_true]
  constructor
  · rintro ⟨c,hc,h1⟩
    obtain⟨i,hi,rfl⟩:=List.getElem_of_mem hc
    refine⟨_,hc,?_⟩
    have:=(em_iff H hi).2 (by simp[gt,List.getD,hi];simpa using h1)
    simpa[gt,List.getD,hi] using this
  · rintro ⟨c,hc,h1⟩
    exact⟨c,hc,by rw[(emC_iff c).1 h1];rfl⟩
set_option maxRecDepth 100000 in
theorem rInsert_any (u:Value) (T:List Cel) (x y:Int) (w:World) (hr:CRow w u T) (hn:T.length≤1000) :
    Calls Tryz.prog 78 #[u,.int .u32 x,.int .i64 y] w (InsR w (rI T (x,y)) (eI T (x,y))):=by
  cases hna:naC T (x,y) with
  | false =>
    have E:eI T (x,y)=2:=by rw[eI,if_neg (by simp[ckC,hna])];simp[ckC,hna]
    have E2:rI T (x,y) = []:=by rw[rI,if_neg (by omega)]
    rw[E,E2]
    obtain⟨a,c,rfl,-,-⟩:=hr.slice
    clear hr E E2
    rcases na_no hna with h | ⟨h,h'⟩ | ⟨h,h',h''⟩
    · have hx1:(x == 0)=true:=by simp[h]
      clear h hna
      go_enter Tryz.func78,Tryz.ntmps78
      go_wp2
      go_ret2
      exact⟨_,rfl,Below.refl _ _,CRow.nil _⟩
    · have hx1:(x == 0)=false:=by simp[h]
      clear h hna
      go_enter Tryz.func78,Tryz.ntmps78
      go_wp2
      go_ret2
      exact⟨_,rfl,Below.refl _ _,CRow.nil _⟩
    · have hx1:(x == 0)=false:=by simp[h]
      have hy1:y≥(T.length:Int):=h''
      clear h hna
      go_enter Tryz.func78,Tryz.ntmps78
      go_wp2
      go_ret2
      exact⟨_,rfl,Below.refl _ _,CRow.nil _⟩
  | true =>
    obtain⟨h,rfl,hh⟩:=na_home hna
    have hx:x≠0:=(of_decide_eq_true hna).1
    have hx1:(x == 0)=false:=by simp[hx]
    have hh1:¬ ((h:Int)≥(T.length:Int)):=by omega
    have HT:=Lib.hid (rright_any u T w hr hn)
    have HH:=Lib.hid (fun W (hW:Below w.heap.size w W) z=>has_any u T z W (hr.mono hW (Nat.le_refl _)) hn)
    by_cases he:eI T (x,(h:Int))=0
    · have E2:rI T (x,(h:Int))=insT T (x,(h:Int)) h:=by rw[rI,if_pos he];simp
      rw[E2,he]
      exact rInsert_ok u T x h w hr hn he
    · have E2:rI T (x,(h:Int)) = []:=by rw[rI,if_neg he]
      rw[E2]
      cases hrc:RC T with
      | false =>
        have E:eI T (x,(h:Int))=4:=by rw[eI,if_neg (by simp[ckC,hna,hrc])];simp[ckC,hna,hrc]
        rw[E]
        rw[hrc] at HT
        obtain⟨a,c,rfl,-,-⟩:=hr.slice
        clear hr E E2 he HH hrc hna hx
        go_enter Tryz.func78,Tryz.ntmps78
        go_wp2_with fail
        refine HT.out.mono ?_
        rintro e w1 ⟨rfl,hb1⟩
        go_wp2
        go_ret2
        exact⟨_,rfl,hb1,CRow.nil _⟩
      | true =>
        have hck:ckC T (x,(h:Int))=0:=by simp[ckC,hna,hrc]
        rw[hrc] at HT
        have HHx:=Lib.hid (fun W hW=>HH.out W hW x)
        cases ha:T.any (fun a=>decide (a.1=x)) with
        | true =>
          have E:eI T (x,(h:Int))=8:=by rw[eI,if_pos hck,if_pos ha]
          rw[E]
          rw[ha] at HHx
          obtain⟨a,c,rfl,-,-⟩:=hr.slice
          clear hr E E2 he HH hrc hna hx ha hck
          go_enter Tryz.func78,Tryz.ntmps78
          go_wp2_with fail
          refine HT.out.mono ?_
          rintro e w1 ⟨rfl,hb1⟩
          have HB1:=Lib.hid hb1
          clear hb1
          go_wp2_with fail
          refine(HHx.out _ HB1.out).mono ?_
          rintro e w2 ⟨rfl,rfl⟩
          go_wp2
          go_ret2
          exact⟨_,rfl,HB1.out,CRow.nil _⟩
        | false =>
          have hem:T.any emC=false:=by
            cases q:T.any emC with
            | false=>rfl
            | true=>exact absurd (by rw[eI,if_pos hck];simp[ha,q]) he
          have E:eI T (x,(h:Int))=5:=by rw[eI,if_pos hck];simp[ha,hem]
          rw[E]
          rw[ha] at HHx
          have HH0:=Lib.hid (fun W hW=>HH.out W hW 0)
          rw[any_em hrc,hem] at HH0
          obtain⟨a,c,rfl,-,-⟩:=hr.slice
          clear hr E E2 he HH hrc hna hx ha hck hem
          go_enter Tryz.func78,Tryz.ntmps78
          go_wp2_with fail
          refine HT.out.mono ?_
          rintro e w1 ⟨rfl,hb1⟩
          have HB1:=Lib.hid hb1
          clear hb1
          go_wp2_with fail
          refine(HHx.out _ HB1.out).mono ?_
          rintro e w2 ⟨rfl,rfl⟩
          go_wp2_with fail
          refine(HH0.out _ HB1.out).mono ?_
          rintro e w2 ⟨rfl,rfl⟩
          go_wp2
          go_ret2
          exact⟨_,rfl,HB1.out,CRow.nil _⟩
theorem car_here {T:List Cel} {p j:Nat} (hp:p<T.length) (hj:j+1<T.length):gt (carT (T.set p (0,0)) (ps T.length p) j) (ps T.length p j)=(0,0)∧gt (carT (T.set p (0,0)) (ps T.length p) j) (ps T.length p (j+1))=gt T (ps T.length p (j+1)):=by
  have l1:=ps_lt (i:=j) hp (by omega)
  have l2:=ps_lt (i:=j+1) hp (by omega)
  rw[car_fore T p hp j (by omega) _ l1,car_fore T p hp j (by omega) _ l2,delf_b (off_ps hp (by omega)),delf_c (by rw[off_ps hp hj];omega)]
  exact⟨rfl,rfl⟩
set_option maxRecDepth 100000 in
set_option maxHeartbeats 2000000 in
theorem rDelete_new (u:Value) (T:List Cel) (x:Int) (h p:Nat) (w:World) (hr:CRow w u T) (hn:T.length≤1000) (hh:h<T.length) (hx:x≠0) (hrc:RC T=true) (hf:FiC T (x,(h:Int))=(p,true)) (hpn:p<T.length) :
    Calls Tryz.prog 73 #[u,.int .u32 x,.int .i64 (h:Int)] w (InsG w T.length (delT T p)):=by
  have H:=rc_rtf hrc
  have hx1:(x == 0)=false:=by simp[hx]
  have hh1:¬ ((h:Int)≥(T.length:Int)):=by omega
  have hpi:(p:Int)<(T.length:Int):=by omega
  have HT:=Lib.hid (rright_any u T w hr hn)
  rw[hrc] at HT
  have HFi:=Lib.hid (fun W (hW:Below w.heap.size w W)=>rFind_any u T x h W (hr.mono hW (Nat.le_refl _)) hn)
  rw[hf] at HFi
  have D:=he_del H hpn
  have E:delT T p=carT (T.set p (0,0)) (ps T.length p) (heK (T.set p (0,0)) (p+1)):=rfl
  rw[E]
  have HRl:=Lib.hid (carT_length (T.set p (0,0)) (ps T.length p))
  rw[List.length_set] at HRl
  have HHr:=Lib.hid (fun j hj=>car_here (T:=T) (p:=p) (j:=j) hpn hj)
  have HSw:=Lib.hid (fun(W:World) (g j:Nat) (hW:TA W g (carT (T.set p (0,0)) (ps T.length p) j)) (h1:ps T.length p j<T.length) (h2:ps T.length p (j+1)<T.length)=>hW.swp (ps T.length p j) (ps T.length p (j+1)) (by rw[HRl.out];exact h1) (by rw[HRl.out];exact h2))
  have HSt:=Lib.hid (fun(W:World) (g:Nat) (hW:TA W g T)=>hW.set p hpn ((0:Int),(0:Int)))
  have HNx:Hid (∀ j,swp (carT (T.set p (0,0)) (ps T.length p) j) (ps T.length p j) (ps T.length p (j+1))=carT (T.set p (0,0)) (ps T.length p) (j+1)):=fun j=>rfl
  have HC0:Hid (T.set p (0,0)=carT (T.set p (0,0)) (ps T.length p) 0):=rfl
  have HD:=Lib.hid D
  have hmn:=D.mn
  have HFr:Hid (∀ j,j+1<T.length→fr (carT (T.set p (0,0)) (ps T.length p) j) (ps T.length p (j+1))=frf T.length (gt T) (ps T.length p (j+1))):=fun j hj=>by
    unfold fr frf
    rw[(HHr.out j hj).2,HRl.out]
  generalize heK (T.set p (0,0)) (p+1)=m at *
  generalize hQ:carT (T.set p (0,0)) (ps T.length p)=Q at *
  obtain⟨i0,hi,hz0,hz1,hz2⟩:=info_parts infoR
  obtain⟨b,off,c,rfl,q1,q2,hblt,-⟩:=hr.open H.pos
  have HRow:=Lib.hid hr
  have HV:=Lib.hid (valsA_length encC_len T)
  have HV1:=Lib.hid (valsC_one T)
  have h0:=H.pos
  have HTA:=Lib.hid (fun(W:World) (v:Value) (hO:W.ownsRow w.heap.size 132 2 v T.length (valsA encC T))=>TA.own hO h0)
  clear hr hrc H hf D E hQ
  go_enter Tryz.func73,Tryz.ntmps73
  go_wp2_with fail
  refine HT.out.mono ?_
  rintro e w1 ⟨rfl,hb1⟩
  have HB0:=Lib.hid hb1
  clear hb1
  go_wp2_with fail
  refine(HFi.out _ HB0.out).mono ?_
  rintro e w1 ⟨rfl,hb1⟩
  have HB1:=Lib.hid (HB0.out.trans (hb1.mono HB0.out.size))
  clear hb1
  have HOw:Hid ((w1.alloc (.cells #[] 132)).ownsRow w.heap.size 132 2 (.slice (some ⟨w1.heap.size,0,none⟩) 0 0) 0 (valsA encC [])) :=
    ⟨rfl,.inr ⟨w1.heap.size,0,#[],rfl,HB1.out.size,heap_alloc_new _ _,by omega,by unfold maxLen;omega,rfl,rfl⟩⟩
  have HB2:=Lib.hid (HB1.out.alloc HB1.out.size (.cells #[] 132))
  have HCe:=Lib.hid (cell_cells (HRow.out.mono HB2.out (Nat.le_refl _)))
  have hsz:=size_alloc w1 (.cells #[] 132)
  have hsz1:=HB1.out.size
  go_wp2_with (at_builtin;refine wpList_append_own _ rfl (.tmp 37) (.tmp 38) 74 rfl w.heap.size 132 i0 (.agg #[.int .u32 0,.int .i64 0]) 2 16 Tryz.underlying74 hi hz0 hz1 hz2 rfl (by decide) _ _ _ rfl HOw.out ⟨b,off,none⟩ T.length c (valsA encC T) rfl HV.out HCe.out HV1.out (by unfold maxLen;omega) (by omega) (by omega) ?_)
  intro v' w3 hown' hgrow _
  have HB3:Hid (Below w.heap.size w w3):=HB2.out.grown hgrow (by omega) (fun r hr=>by have:w1.heap.size=r:=Option.some.inj hr;omega)
  obtain⟨g,cap,rfl,k1,k2,k3,k4⟩:=HTA.out _ _ hown'
  obtain⟨⟨a1,a2⟩,f1,f2⟩:=k4.2 p hpn
  have HT3:=Lib.hid (HSt.out _ _ k4)
  have hg3:=k4.1
  have HB4:Hid (Below w.heap.size w ((w3.setCell ⟨g,p*2,none⟩ (.int .u32 0)).setCell ⟨g,p*2+1,none⟩ (.int .i64 0))):=(HB3.out.setCell (by show w.heap.size≤g;omega) _).setCell (by show w.heap.size≤g;omega) _
  rw[HC0.out] at HT3
  clear hown' hgrow k4 HOw HCe HB2 hsz hi hz0 hz1 hz2
  go_wp2
  go_loopw [8,11,12] (fun a8 i _ wr=>∃ j:Nat,j≤m∧i = .int .i64 ((j:Int)+1)∧Hid (a8 = .int .i64 (ps T.length p j:Nat))∧Hid (Below w.heap.size w wr)∧Hid (TA wr g (Q j))) (fun _ i _ _=>T.length-(intOf i).toNat)
  case atStart=>exact⟨0,Nat.zero_le _,rfl,by unfold Hid;rw[ps_zero hpn],HB4,HT3⟩
  case round =>
    obtain⟨j,hj,rfl,ha8,HB,HT'⟩:=hrel
    have e8:=ha8.out
    subst e8
    clear ha8 HT3 HB4 a1 a2 f1 f2
    have hpl:=ps_lt (i:=j) hpn (by omega)
    by_cases hjn:j+1<T.length
    · have hjn1:(j:Int)+1<(T.length:Int):=by omega
      have hpl2:=ps_lt (i:=j+1) hpn (by omega)
      obtain⟨r1,r2⟩:=HHr.out j hjn
      obtain⟨⟨a1,a2⟩,f1,f2⟩:=HT'.out.2 (ps T.length p j) (by rw[HRl.out];exact hpl)
      obtain⟨⟨b1,b2⟩,f3,f4⟩:=HT'.out.2 (ps T.length p (j+1)) (by rw[HRl.out];exact hpl2)
      have HS:=Lib.hid (HSw.out _ _ _ HT'.out hpl hpl2)
      rw[r1,r2,HNx.out] at HS
      rw[r1] at a1 a2
      rw[r2] at b1 b2
      have hmod:(((ps T.length p j:Nat):Int)+1) % (T.length:Int)=(ps T.length p (j+1):Nat):=by
        rw[←mod_ps hpn (show j+1≤T.length by omega),←mod_ps hpn (show j≤T.length by omega),Int.natCast_emod,Int.natCast_emod]
        rw[Int.natCast_add,Int.natCast_add,Int.emod_add_emod]
        congr 1
        try omega
      have HFa:=Lib.hid (rfar_any _ (Q j) (ps T.length p (j+1)) _ wr (HT'.out.row (by rw[HRl.out];exact k1) k2) (by rw[HRl.out];exact hpl2) (by rw[HRl.out];omega) rfl)
      rw[HRl.out,HFr.out j hjn] at HFa
      have HRun:=Lib.hid (HD.out.run j)
      have HSto:=Lib.hid (HD.out.stop)
      have hne:=ps_ne (s:=j) hpn (by omega) (by omega)
      by_cases hjm:j<m
      · obtain⟨s1,s2⟩:=HRun.out hjm
        generalize (gt T (ps T.length p (j+1))).1=zx at *
        generalize (gt T (ps T.length p (j+1))).2=zy at *
        generalize frf T.length (gt T) (ps T.length p (j+1))=F at *
        generalize hpr:ps T.length p (j+1)=a' at *
        generalize ps T.length p j=a at *
        have HPr:=Lib.hid hpr
        clear hpr HRun HSto r1 r2
        have hz1:(zx == 0)=false:=by simp[s1]
        have hz2:(F == 0)=false:=by simp[s2]
        have hai:(a:Int)<(T.length:Int):=by omega
        have hai2:(a':Int)<(T.length:Int):=by omega
        have HB2:Hid (Below w.heap.size w ((((wr.setCell ⟨g,a*2,none⟩ (.int .u32 zx)).setCell ⟨g,a*2+1,none⟩ (.int .i64 zy)).setCell ⟨g,a'*2,none⟩ (.int .u32 0)).setCell ⟨g,a'*2+1,none⟩ (.int .i64 0))):=(((HB.out.setCell (by show w.heap.size≤g;omega) _).setCell (by show w.heap.size≤g;omega) _).setCell (by show w.heap.size≤g;omega) _).setCell (by show w.heap.size≤g;omega) _
        go_wp2_with fail
        try rw[hmod]
        refine HFa.out.mono ?_
        rintro e w4 ⟨rfl,rfl⟩
        go_wp2
        try rw[hmod]
        go_roundw
        case rel=>exact⟨j+1,by omega,by go_num,by unfold Hid;rw[HPr.out],HB2,HS⟩
        case measure=>simp[intOf];omega
      · obtain rfl:j=m:=by omega
        have hst:=HSto.out hjn
        generalize (gt T (ps T.length p (j+1))).1=zx at *
        generalize (gt T (ps T.length p (j+1))).2=zy at *
        generalize frf T.length (gt T) (ps T.length p (j+1))=F at *
        generalize ps T.length p (j+1)=a' at *
        generalize ps T.length p j=a at *
        have hai2:(a':Int)<(T.length:Int):=by omega
        by_cases hz:zx=0
        · have hz1:(zx == 0)=true:=by simp[hz]
          clear hst hz HS
          go_wp2
          go_ret2
          refine⟨_,_,rfl,k3,HB.out,?_⟩
          rw[←HRl.out j]
          exact HT'.out.row (by rw[HRl.out];exact k1) k2
        · have hz1:(zx == 0)=false:=by simp[hz]
          have hz2:(F == 0)=true:=by rcases hst with q | q;exact absurd q hz;simp[q]
          clear hst hz HS
          go_wp2_with fail
          try rw[hmod]
          refine HFa.out.mono ?_
          rintro e w4 ⟨rfl,rfl⟩
          go_wp2
          go_ret2
          refine⟨_,_,rfl,k3,HB.out,?_⟩
          rw[←HRl.out j]
          exact HT'.out.row (by rw[HRl.out];exact k1) k2
    · have hjn1:¬ (j:Int)+1<(T.length:Int):=by omega
      obtain rfl:j=m:=by omega
      go_wp2
      go_ret2
      refine⟨_,_,rfl,k3,HB.out,?_⟩
      rw[←HRl.out j]
      exact HT'.out.row (by rw[HRl.out];exact k1) k2
theorem rDelete_ok (u:Value) (T:List Cel) (x:Int) (h p:Nat) (w:World) (hr:CRow w u T) (hn:T.length≤1000) (hh:h<T.length) (hx:x≠0) (hrc:RC T=true) (hf:FiC T (x,(h:Int))=(p,true)) (hpn:p<T.length) :
    Calls Tryz.prog 73 #[u,.int .u32 x,.int .i64 (h:Int)] w (InsR w (delT T p) 0) :=
  (rDelete_new u T x h p w hr hn hh hx hrc hf hpn).mono fun e w' q=>q.any
end Go.Proofs.YtmgeiaglandedaaGreatDoor.Pro

namespace Go.Proofs.YtmgeiaglandedaaGreatDoor.Pro
open Go.RowKit
set_option linter.unusedVariables false
set_option maxRecDepth 100000 in
theorem rDelete_any (u:Value) (T:List Cel) (x y:Int) (w:World) (hr:CRow w u T) (hn:T.length≤1000) :
    Calls Tryz.prog 73 #[u,.int .u32 x,.int .i64 y] w (InsR w (rD T (x,y)) (eD T (x,y))):=by
  cases hna:naC T (x,y) with
  | false =>
    have E:eD T (x,y)=2:=by rw[eD,if_neg (by simp[ckC,hna])];simp[ckC,hna]
    have E2:rD T (x,y) = []:=by rw[rD,if_neg (by omega)]
    rw[E,E2]
    obtain⟨a,c,rfl,-,-⟩:=hr.slice
    clear hr E E2
    rcases na_no hna with h | ⟨h,h'⟩ | ⟨h,h',h''⟩
    · have hx1:(x == 0)=true:=by simp[h]
      clear h hna
      go_enter Tryz.func73,Tryz.ntmps73
      go_wp2
      go_ret2
      exact⟨_,rfl,Below.refl _ _,CRow.nil _⟩
    · have hx1:(x == 0)=false:=by simp[h]
      clear h hna
      go_enter Tryz.func73,Tryz.ntmps73
      go_wp2
      go_ret2
      exact⟨_,rfl,Below.refl _ _,CRow.nil _⟩
    · have hx1:(x == 0)=false:=by simp[h]
      have hy1:y≥(T.length:Int):=h''
      clear h hna
      go_enter Tryz.func73,Tryz.ntmps73
      go_wp2
      go_ret2
      exact⟨_,rfl,Below.refl _ _,CRow.nil _⟩
  | true =>
    obtain⟨h,rfl,hh⟩:=na_home hna
    have hx:x≠0:=(of_decide_eq_true hna).1
    have hx1:(x == 0)=false:=by simp[hx]
    have hh1:¬ ((h:Int)≥(T.length:Int)):=by omega
    have HT:=Lib.hid (rright_any u T w hr hn)
    cases hrc:RC T with
    | false =>
      have E:eD T (x,(h:Int))=4:=by rw[eD,if_neg (by simp[ckC,hna,hrc])];simp[ckC,hna,hrc]
      have E2:rD T (x,(h:Int)) = []:=by rw[rD,if_neg (by omega)]
      rw[E,E2]
      rw[hrc] at HT
      obtain⟨a,c,rfl,-,-⟩:=hr.slice
      clear hr E E2 hrc hna hx
      go_enter Tryz.func73,Tryz.ntmps73
      go_wp2_with fail
      refine HT.out.mono ?_
      rintro e w1 ⟨rfl,hb1⟩
      go_wp2
      go_ret2
      exact⟨_,rfl,hb1,CRow.nil _⟩
    | true =>
      have hck:ckC T (x,(h:Int))=0:=by simp[ckC,hna,hrc]
      have EF:FiC T (x,(h:Int))=fiC T (x,(h:Int)) h:=by rw[FiC,if_pos hck];simp
      rcases hf:fiC T (x,(h:Int)) h with⟨p,b⟩
      cases b with
      | true =>
        have E:eD T (x,(h:Int))=0:=by rw[eD,if_pos hck];simp[hf]
        have E2:rD T (x,(h:Int))=delT T p:=by rw[rD,if_pos E];simp[hf]
        rw[E,E2]
        refine rDelete_ok u T x h p w hr hn hh hx hrc (by rw[EF,hf]) ?_
        have:=fiC_lt T (x,(h:Int)) h (by omega)
        rwa [hf] at this
      | false =>
        have E:eD T (x,(h:Int))=7:=by rw[eD,if_pos hck];simp[hf]
        have E2:rD T (x,(h:Int)) = []:=by rw[rD,if_neg (by omega)]
        have HFi:=Lib.hid (fun W (hW:Below w.heap.size w W)=>rFind_any u T x h W (hr.mono hW (Nat.le_refl _)) hn)
        rw[EF,hf] at HFi
        rw[E,E2]
        rw[hrc] at HT
        obtain⟨a,c,rfl,-,-⟩:=hr.slice
        clear hr E E2 hrc hna hx hf EF hck
        go_enter Tryz.func73,Tryz.ntmps73
        go_wp2_with fail
        refine HT.out.mono ?_
        rintro e w1 ⟨rfl,hb1⟩
        have HB1:=Lib.hid hb1
        clear hb1
        go_wp2_with fail
        refine(HFi.out _ HB1.out).mono ?_
        rintro e w2 ⟨rfl,hb2⟩
        go_wp2
        go_ret2
        exact⟨_,rfl,HB1.out.trans (hb2.mono HB1.out.size),CRow.nil _⟩
end Go.Proofs.YtmgeiaglandedaaGreatDoor.Pro
