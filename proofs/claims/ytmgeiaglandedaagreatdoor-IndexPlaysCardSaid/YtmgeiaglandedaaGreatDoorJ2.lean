/- Plain mathematics of the index: slots in a ring that hold places; where a place is at home is told by a function. -/
import Derived.Test.YtmgeiaglandedaaGreatDoorJ1
namespace Go.Proofs.YtmgeiaglandedaaGreatDoor.Ind
open Pro
set_option linter.unusedVariables false
def ce (hm:Nat→Nat) (x:Nat):Cel:=if x=0 then (0,0) else ((x:Int),(hm x:Int))
def tb (hm:Nat→Nat) (K:Nat→Nat) (i:Nat):Cel:=ce hm (K i)
theorem ce_one (hm:Nat→Nat) (x:Nat):(ce hm x).1=(x:Int):=by unfold ce;split<;>simp_all
theorem ce_two {hm:Nat→Nat} {x:Nat} (h:x≠0):(ce hm x).2=(hm x:Int):=by unfold ce;rw[if_neg h]
theorem ce_eq {hm:Nat→Nat} {x y:Nat} (h:ce hm x=ce hm y):x=y:=by
  have:=congrArg Prod.fst h
  rw[ce_one,ce_one] at this
  omega
theorem tb_one (hm K:Nat→Nat) (i:Nat):(tb hm K i).1=(K i:Int):=ce_one _ _
theorem tb_nz {hm K:Nat→Nat} {i:Nat} : (tb hm K i).1≠0↔K i≠0:=by rw[tb_one];omega
theorem tb_z {hm K:Nat→Nat} {i:Nat} : (tb hm K i).1=0↔K i=0:=by rw[tb_one];omega
structure Ok (n:Nat) (hm K:Nat→Nat):Prop where
  rt:RTf n (tb hm K)
  free:∃ z,z<n∧((tb hm K z).1=0∨frf n (tb hm K) z=0)
def In (n:Nat) (K:Nat→Nat) (x:Nat):Prop:=∃ q,q<n∧K q=x
theorem Ok.home {n:Nat} {hm K:Nat→Nat} (O:Ok n hm K) {i:Nat} (hi:i<n) (h:K i≠0):hm (K i)<n:=by
  have:=O.rt.hm i hi (tb_nz.2 h)
  unfold tb at this
  rw[ce_two h] at this
  omega
theorem Ok.one {n:Nat} {hm K:Nat→Nat} (O:Ok n hm K) {i j:Nat} (hi:i<n) (hj:j<n) (h:K i≠0) (e:K i=K j):i=j:=by
  refine Decidable.byContradiction fun hne=>?_
  have:=O.rt.ne i j hi hj hne (tb_nz.2 h)
  rw[tb_one,tb_one,e] at this
  exact this rfl
theorem Ok.far {n:Nat} {hm K:Nat→Nat} (O:Ok n hm K) {i:Nat} (hi:i<n) (h:K i≠0):frf n (tb hm K) i=(off n (hm (K i)) i:Int):=by
  unfold frf
  rw[show (tb hm K i).2=(hm (K i):Int) from ce_two h]
  exact dI_off (O.home hi h) hi
theorem ok_zero {n:Nat} (hn:0<n) (hm:Nat→Nat) {K:Nat→Nat} (h:∀ i,i<n→K i=0):Ok n hm K:=by
  have e:∀ i,i<n→tb hm K i=(0,0):=fun i hi=>by unfold tb ce;rw[h i hi,if_pos rfl]
  refine⟨⟨hn,fun i hi _=>by rw[e i hi],fun i hi q=>absurd (by rw[e i hi]) q,fun i k hi hk _ q=>absurd (by rw[e i hi]) q,fun i hi q=>absurd (by rw[e i hi]) q⟩,0,hn,.inl (by rw[e 0 hn])⟩
theorem ok_congr {n:Nat} {hm hm' K K':Nat→Nat} (O:Ok n hm K) (h:∀ i,i<n→K' i=K i) (h2:∀ i,i<n→K i≠0→hm' (K i)=hm (K i)):Ok n hm' K':=by
  have e:∀ i,i<n→tb hm' K' i=tb hm K i:=fun i hi=>by
    unfold tb ce
    rw[h i hi]
    by_cases q:K i=0
    · rw[if_pos q,if_pos q]
    · rw[if_neg q,if_neg q,h2 i hi q]
  have f:∀ i,i<n→frf n (tb hm' K') i=frf n (tb hm K) i:=fun i hi=>by unfold frf;rw[e i hi]
  obtain⟨⟨r1,r2,r3,r4,r5⟩,z,hz,hz2⟩:=O
  refine⟨⟨r1,fun i hi=>?_,fun i hi=>?_,fun i k hi hk=>?_,fun i hi=>?_⟩,z,hz,?_⟩
  · rw[e i hi];exact r2 i hi
  · rw[e i hi];exact r3 i hi
  · rw[e i hi,e k hk];exact r4 i k hi hk
  · rw[f i hi,e i hi,e _ (pv_lt hi),f _ (pv_lt hi)];exact r5 i hi
  · rw[e z hz,f z hz];exact hz2
def opb (n:Nat) (hm K:Nat→Nat) (h p:Nat):Bool:=decide (K p=0) || decide (off n (hm (K p)) p<off n h p)
theorem opb_iff {n:Nat} {hm K:Nat→Nat} (O:Ok n hm K) {h p:Nat} (hh:h<n) (hp:p<n):opb n hm K h p=true↔Opn n (tb hm K) h p:=by
  unfold opb Opn
  rw[Bool.or_eq_true,decide_eq_true_eq,decide_eq_true_eq,tb_z,dI_off hh hp]
  by_cases q:K p=0
  · simp[q]
  · rw[O.far hp q]
    simp only[q,false_or]
    omega
def opn (n:Nat) (hm K:Nat→Nat) (h:Nat):Nat:=sk (fun s=>opb n hm K h (ps n h s)) n
def emp (n:Nat) (K:Nat→Nat) (p:Nat):Nat:=sk (fun s=>decide (K (ps n p s)=0)) n
def insk (n:Nat) (K:Nat→Nat) (x p m q:Nat):Nat:=if off n p q=0 then x else if off n p q≤m then K (pv n q) else K q
def delk (n:Nat) (K:Nat→Nat) (p m q:Nat):Nat:=if off n p q<m then K (nx n q) else if off n p q=m then 0 else K q
theorem tb_ins (n:Nat) (hm K:Nat→Nat) (x p m q:Nat):tb hm (insk n K x p m) q=insf n (tb hm K) (ce hm x) p m q:=by
  unfold tb insk insf
  split
  · rfl
  · split<;>rfl
theorem tb_del (n:Nat) (hm K:Nat→Nat) (p m q:Nat):tb hm (delk n K p m) q=delf n (tb hm K) p m q:=by
  unfold tb delk delf
  split
  · rfl
  · split
    · rfl
    · rfl
theorem sk_lt {P:Nat→Bool} {n j:Nat} (hj:j<n) (h:P j=true):sk P n≤j:=by
  rcases Nat.lt_or_ge j (sk P n) with q | q
  · rw[sk_no q] at h;cases h
  · exact q
theorem emp_lt {n:Nat} {K:Nat→Nat} {p z:Nat} (hp:p<n) (hz:z<n) (h:K z=0):emp n K p<n:=by
  have:=off_lt hp hz
  have h2:=sk_lt (P:=fun s=>decide (K (ps n p s)=0)) (n:=n) this (by rw[decide_eq_true_eq,ps_off hp hz];exact h)
  unfold emp
  omega
theorem opn_lt {n:Nat} {hm K:Nat→Nat} {h z:Nat} (hh:h<n) (hz:z<n) (hk:K z=0):opn n hm K h<n:=by
  have:=off_lt hh hz
  have h2:=sk_lt (P:=fun s=>opb n hm K h (ps n h s)) (n:=n) this (by rw[ps_off hh hz];unfold opb;simp[hk])
  unfold opn
  omega
def insF (n:Nat) (hm K:Nat→Nat) (x:Nat):Nat→Nat:=insk n K x (ps n (hm x) (opn n hm K (hm x))) (emp n K (ps n (hm x) (opn n hm K (hm x))))
theorem ins_h {n:Nat} {hm K:Nat→Nat} (O:Ok n hm K) {x z:Nat} (hx:x≠0) (hh:hm x<n) (hf:∀ i,i<n→K i≠x) (hz:z<n) (hk:K z=0) :
    InsH n (tb hm K) (ce hm x) (hm x) (opn n hm K (hm x)) (emp n K (ps n (hm x) (opn n hm K (hm x)))):=by
  have h1:=opn_lt (hm:=hm) (h:=hm x) hh hz hk
  have hp:=ps_lt (i:=opn n hm K (hm x)) hh (by omega)
  have h2:=emp_lt hp hz hk
  refine⟨O.rt,by rw[ce_one];omega,ce_two hx,hh,fun i hi=>?_,h1,fun j hj=>?_,?_,h2,fun j hj=>?_,?_⟩
  · rw[tb_one,ce_one]
    have:=hf i hi
    omega
  · rw[←opb_iff O hh (ps_lt hh (by omega))]
    have:=sk_no (P:=fun s=>opb n hm K (hm x) (ps n (hm x) s)) (n:=n) hj
    rw[this]
    simp
  · rw[←opb_iff O hh hp]
    exact sk_yes (P:=fun s=>opb n hm K (hm x) (ps n (hm x) s)) (n:=n) h1
  · rw[tb_nz]
    have:=sk_no (P:=fun s=>decide (K (ps n (ps n (hm x) (opn n hm K (hm x))) s)=0)) (n:=n) hj
    simpa using this
  · rw[tb_z]
    have:=sk_yes (P:=fun s=>decide (K (ps n (ps n (hm x) (opn n hm K (hm x))) s)=0)) (n:=n) h2
    exact of_decide_eq_true this
theorem frf_congr {n:Nat} {t t':Nat→Cel} {i:Nat} (h:t i=t' i):frf n t i=frf n t' i:=by unfold frf;rw[h]
theorem rtf_eq {n:Nat} {t t':Nat→Cel} (H:RTf n t) (h:∀ j,j<n→t' j=t j):RTf n t':=by
  obtain⟨h1,h2,h3,h4,h5⟩:=H
  refine⟨h1,fun i hi=>?_,fun i hi=>?_,fun i k hi hk=>?_,fun i hi=>?_⟩
  · rw[h i hi];exact h2 i hi
  · rw[h i hi];exact h3 i hi
  · rw[h i hi,h k hk];exact h4 i k hi hk
  · rw[frf_congr (h i hi),frf_congr (h _ (pv_lt hi)),h i hi,h _ (pv_lt hi)];exact h5 i hi
theorem in_tb {n:Nat} {hm K:Nat→Nat} {x:Nat} : In n K x↔∃ q,q<n∧tb hm K q=ce hm x :=
  ⟨fun⟨q,hq,h⟩=>⟨q,hq,by unfold tb;rw[h]⟩,fun⟨q,hq,h⟩=>⟨q,hq,ce_eq h⟩⟩
theorem ok_ins {n:Nat} {hm K:Nat→Nat} (O:Ok n hm K) {x z:Nat} (hx:x≠0) (hh:hm x<n) (hf:∀ i,i<n→K i≠x) (hz:z<n) (hk:K z=0) :
    Ok n hm (insF n hm K x)∧∀ y,y≠0→(In n (insF n hm K x) y↔y=x∨In n K y):=by
  have I:=ins_h O hx hh hf hz hk
  have e:=tb_ins n hm K x (ps n (hm x) (opn n hm K (hm x))) (emp n K (ps n (hm x) (opn n hm K (hm x))))
  refine⟨⟨rtf_eq I.rtf fun j _=>e j,?_⟩,fun y hy=>?_⟩
  · obtain⟨z,hz,h⟩:=I.free
    refine⟨z,hz,?_⟩
    unfold insF
    rw[e z,frf_congr (e z)]
    exact h
  · have:=I.mem (ce hm y) (by rw[ce_one];omega)
    unfold insF
    rw[in_tb (hm:=hm),in_tb (hm:=hm) (K:=K)]
    constructor
    · rintro ⟨q,hq,h⟩
      rcases this.1 ⟨q,hq,by rw[←e];exact h⟩ with h | h
      · exact .inl (ce_eq h)
      · exact .inr h
    · intro h
      obtain⟨q,hq,h⟩:=this.2 (h.imp (fun h=>by rw[h]) id)
      exact⟨q,hq,by rw[e];exact h⟩
def up (K:Nat→Nat) (p x q:Nat):Nat:=if q=p then x else K q
theorem up_at (K:Nat→Nat) (p x:Nat):up K p x p=x:=if_pos rfl
theorem up_ne (K:Nat→Nat) {p q:Nat} (x:Nat) (h:q≠p):up K p x q=K q:=if_neg h
def stb (n:Nat) (hm K:Nat→Nat) (p:Nat):Bool:=decide (K p=0) || decide (off n (hm (K p)) p=0)
def sta (n:Nat) (hm K:Nat→Nat) (p:Nat):Nat:=sk (fun s=>stb n hm (up K p 0) (ps n (nx n p) s)) n
def delF (n:Nat) (hm K:Nat→Nat) (p:Nat):Nat→Nat:=delk n K p (sta n hm K p)
theorem sta_lt {n:Nat} {hm K:Nat→Nat} {p:Nat} (hp:p<n):sta n hm K p<n:=by
  have e:ps n (nx n p) (n-1)=p:=by unfold ps nx;(repeat' split)<;>omega
  have:=sk_lt (P:=fun s=>stb n hm (up K p 0) (ps n (nx n p) s)) (n:=n) (j:=n-1) (by omega) (by
    rw[e]
    unfold stb
    rw[up_at]
    simp)
  unfold sta
  omega
theorem stb_iff {n:Nat} {hm K:Nat→Nat} (O:Ok n hm K) {p j:Nat} (hp:p<n) (hj:j+1<n) :
    stb n hm (up K p 0) (ps n (nx n p) j)=true↔(tb hm K (ps n p (j+1))).1=0∨frf n (tb hm K) (ps n p (j+1))=0:=by
  rw[ps_nx hp (by omega)]
  have hq:=ps_lt (i:=j+1) hp (by omega)
  have hne:ps n p (j+1)≠p:=fun e=>by
    have:=off_ps (i:=j+1) hp hj
    rw[e,off_self] at this
    omega
  unfold stb
  rw[up_ne _ _ hne,tb_z,Bool.or_eq_true,decide_eq_true_eq,decide_eq_true_eq]
  by_cases q:K (ps n p (j+1))=0
  · simp[q]
  · rw[O.far hq q]
    simp only[q,false_or]
    omega
theorem del_h {n:Nat} {hm K:Nat→Nat} (O:Ok n hm K) {p:Nat} (hp:p<n):DelH n (tb hm K) p (sta n hm K p):=by
  have hlt:=sta_lt (hm:=hm) (K:=K) hp
  refine⟨O.rt,hp,hlt,fun j hj=>?_,fun h=>?_⟩
  · have:=sk_no (P:=fun s=>stb n hm (up K p 0) (ps n (nx n p) s)) (n:=n) hj
    have h2:=stb_iff O hp (j:=j) (by omega)
    rw[this] at h2
    refine⟨fun e=>?_,fun e=>?_⟩
    · cases h2.2 (.inl e)
    · cases h2.2 (.inr e)
  · have:=sk_yes (P:=fun s=>stb n hm (up K p 0) (ps n (nx n p) s)) (n:=n) hlt
    exact(stb_iff O hp h).1 this
theorem ok_del {n:Nat} {hm K:Nat→Nat} (O:Ok n hm K) {p:Nat} (hp:p<n) (hk:K p≠0) :
    Ok n hm (delF n hm K p)∧∀ y,y≠0→(In n (delF n hm K p) y↔y≠K p∧In n K y):=by
  have D:=del_h O hp
  have e:=tb_del n hm K p (sta n hm K p)
  refine⟨⟨rtf_eq (D.rtf O.free (tb_nz.2 hk)) fun j _=>e j,?_⟩,fun y hy=>?_⟩
  · obtain⟨z,hz,h⟩:=D.free
    refine⟨z,hz,.inl ?_⟩
    unfold delF
    rw[e z]
    exact h
  · have:=D.mem (ce hm y) (by rw[ce_one];omega) (tb_nz.2 hk)
    unfold delF
    rw[in_tb (hm:=hm),in_tb (hm:=hm) (K:=K)]
    constructor
    · rintro ⟨q,hq,h⟩
      obtain⟨h1,h2⟩:=this.1 ⟨q,hq,by rw[←e];exact h⟩
      exact⟨fun h=>h1 (by rw[h];rfl),h2⟩
    · rintro ⟨h1,h2⟩
      obtain⟨q,hq,h⟩:=this.2 ⟨fun h=>h1 (ce_eq h),h2⟩
      exact⟨q,hq,by rw[e];exact h⟩
theorem ok_move {n:Nat} {hm K:Nat→Nat} (O:Ok n hm K) {p y:Nat} (hp:p<n) (hk:K p≠0) (hy:y≠0) (hh:hm y=hm (K p)) (hf:∀ i,i<n→K i≠y) :
    Ok n hm (up K p y)∧∀ z,z≠0→(In n (up K p y) z↔z=y∨z≠K p∧In n K z):=by
  have far:∀ i,frf n (tb hm (up K p y)) i=frf n (tb hm K) i:=fun i=>by
    unfold frf
    by_cases e:i=p
    · subst e
      rw[show tb hm (up K i y) i=ce hm y by unfold tb;rw[up_at],ce_two hy,hh,show (tb hm K i).2=(hm (K i):Int) from ce_two hk]
    · rw[show tb hm (up K p y) i=tb hm K i by unfold tb;rw[up_ne _ _ e]]
  have nz:∀ i,(tb hm (up K p y) i).1≠0↔(tb hm K i).1≠0:=fun i=>by
    rw[tb_nz,tb_nz]
    by_cases e:i=p
    · subst e;rw[up_at];exact⟨fun _=>hk,fun _=>hy⟩
    · rw[up_ne _ _ e]
  have sec:∀ i,(tb hm (up K p y) i).2=(tb hm K i).2:=fun i=>by
    by_cases e:i=p
    · subst e
      rw[show tb hm (up K i y) i=ce hm y by unfold tb;rw[up_at],ce_two hy,hh,show (tb hm K i).2=(hm (K i):Int) from ce_two hk]
    · rw[show tb hm (up K p y) i=tb hm K i by unfold tb;rw[up_ne _ _ e]]
  refine⟨⟨⟨O.rt.pos,fun i hi he=>?_,fun i hi he=>?_,fun i j hi hj hne he=>?_,fun i hi he=>?_⟩,?_⟩,fun z hz=>?_⟩
  · rw[sec]
    refine O.rt.emp i hi (Decidable.byContradiction fun h=>?_)
    exact(nz i).2 h he
  · rw[sec]
    exact O.rt.hm i hi ((nz i).1 he)
  · rw [tb_one, tb_one]
    by_cases e:i=p
    · subst e
      rw[up_at,up_ne _ _ (Ne.symm hne)]
      have:=hf j hj
      omega
    · rw[up_ne _ _ e]
      by_cases e2:j=p
      · subst e2
        rw[up_at]
        have:=hf i hi
        omega
      · rw[up_ne _ _ e2]
        have:=O.rt.ne i j hi hj hne ((nz i).1 he)
        rw[tb_one,tb_one] at this
        exact this
  · rw[far,far,nz]
    exact O.rt.led i hi ((nz i).1 he)
  · obtain⟨z,hz,h⟩:=O.free
    refine⟨z,hz,?_⟩
    rw[far]
    refine h.imp (fun h=>Decidable.byContradiction fun q=>(nz z).1 q h) id
  · constructor
    · rintro ⟨q,hq,h⟩
      by_cases e:q=p
      · subst e;rw[up_at] at h;exact .inl h.symm
      · rw[up_ne _ _ e] at h
        exact .inr ⟨fun e2=>e (O.one hq hp (by omega) (by omega)),q,hq,h⟩
    · rintro (h | ⟨h,q,hq,h2⟩)
      · exact⟨p,hp,by rw[up_at,h]⟩
      · exact⟨q,hq,by rw[up_ne _ _ (by rintro rfl;exact h h2.symm)];exact h2⟩
def hit (K:Nat→Nat) (P:Nat→Bool) (q:Nat):Bool:=decide (K q≠0) && P (K q)
def enK (n:Nat) (hm K:Nat→Nat) (h:Nat) (P:Nat→Bool):Nat:=sk (fun s=>hit K P (ps n h s) || opb n hm K h (ps n h s)) n
def slF (n:Nat) (hm K:Nat→Nat) (h:Nat) (P:Nat→Bool):Option Nat :=
  if enK n hm K h P<n∧hit K P (ps n h (enK n hm K h P))=true then some (ps n h (enK n hm K h P)) else none
theorem slF_some {n:Nat} {hm K:Nat→Nat} {h q:Nat} {P:Nat→Bool} (hh:h<n) (e:slF n hm K h P=some q):q<n∧K q≠0∧P (K q)=true:=by
  unfold slF at e
  split at e
  · rename_i c
    cases e
    refine⟨ps_lt hh (by omega),?_⟩
    have:=c.2
    unfold hit at this
    rw[Bool.and_eq_true,decide_eq_true_eq] at this
    exact this
  · cases e
theorem slF_found {n:Nat} {hm K:Nat→Nat} (O:Ok n hm K) {P:Nat→Bool} {i:Nat} (hi:i<n) (hk:K i≠0) (hP:P (K i)=true):∃ q,slF n hm K (hm (K i)) P=some q:=by
  have hh:=O.home hi hk
  have hd:=off_lt hh hi
  have hit':hit K P i=true:=by unfold hit;simp[hk,hP]
  have h1:enK n hm K (hm (K i)) P≤off n (hm (K i)) i:=sk_lt hd (by rw[ps_off hh hi,hit'];rfl)
  refine⟨_,if_pos ⟨by omega,?_⟩⟩
  rcases Nat.lt_or_ge (enK n hm K (hm (K i)) P) (off n (hm (K i)) i) with q | q
  · have h2:=sk_yes (P:=fun s=>hit K P (ps n (hm (K i)) s) || opb n hm K (hm (K i)) (ps n (hm (K i)) s)) (n:=n) (show enK n hm K (hm (K i)) P<n by omega)
    simp only[Bool.or_eq_true] at h2
    rcases h2 with h2 | h2
    · exact h2
    · exfalso
      refine not_open O.rt hi (tb_nz.2 hk) (ce_two hk) (O.far hi hk) _ q ?_
      exact(opb_iff O hh (ps_lt hh (by omega))).1 h2
  · rw[show enK n hm K (hm (K i)) P=off n (hm (K i)) i by omega,ps_off hh hi]
    exact hit'
theorem slF_one {n:Nat} {hm K:Nat→Nat} (O:Ok n hm K) {i:Nat} (hi:i<n) (hk:K i≠0):slF n hm K (hm (K i)) (fun x=>decide (x=K i))=some i:=by
  obtain⟨q,hq⟩:=slF_found O (P:=fun x=>decide (x=K i)) hi hk (by simp)
  obtain⟨h1,h2,h3⟩:=slF_some (O.home hi hk) hq
  rw[hq,O.one h1 hi h2 (by simpa using h3)]
theorem slF_none {n:Nat} {hm K:Nat→Nat} {h x:Nat} (hh:h<n) (hx:∀ i,i<n→K i≠x):slF n hm K h (fun y=>decide (y=x))=none:=by
  cases e:slF n hm K h (fun y=>decide (y=x)) with
  | none=>rfl
  | some q =>
    obtain⟨h1,h2,h3⟩:=slF_some hh e
    exact absurd (by simpa using h3) (hx q h1)
end Go.Proofs.YtmgeiaglandedaaGreatDoor.Ind
