/- Plain mathematics of the index: the slots as the document's table. -/
import Derived.Test.YtmgeiaglandedaaGreatDoorJ2
import Derived.Test.YtmgeiaglandedaaGreatDoorJ1
namespace Go.Proofs.YtmgeiaglandedaaGreatDoor.Ind
open Pro
set_option linter.unusedVariables false
def tbl (hm K:Nat→Nat):List Cel:=(List.range 224).map (tb hm K)
theorem tbl_len (hm K:Nat→Nat):(tbl hm K).length=224:=by simp[tbl]
section
variable {hm K K':Nat→Nat} {x y z h i p:Nat}
theorem gt_in (hm K:Nat→Nat) (hi:i<224):gt (tbl hm K) i=tb hm K i:=by
  simp[gt,tbl,List.getD,hi]
theorem gt_tbl (hz:∀ i,224≤i→K i=0):gt (tbl hm K)=tb hm K:=by
  funext i
  by_cases hi:i<224
  · exact gt_in hm K hi
  · have e:tb hm K i=(0,0):=by unfold tb ce;rw[hz i (by omega),if_pos rfl]
    rw[e]
    simp[gt,tbl,List.getD,hi]
theorem eq_tbl {T:List Cel} (hl:T.length=224) (h:∀ i,i<224→gt T i=tb hm K i):T=tbl hm K:=by
  refine List.ext_getElem (by rw[hl,tbl_len]) (fun i h1 h2=>?_)
  have e1:=h i (by omega)
  rw[←gt_in hm K (by omega)] at e1
  simpa[gt,List.getD,h1,h2] using e1
theorem tbl_congr {hm':Nat→Nat} (h:∀ i,i<224→K' i=K i) (h2:∀ i,i<224→K i≠0→hm' (K i)=hm (K i)):tbl hm' K'=tbl hm K:=by
  refine eq_tbl (tbl_len _ _) (fun i hi=>?_)
  rw[gt_in _ _ hi]
  unfold tb ce
  rw[h i hi]
  by_cases q:K i=0
  · rw[if_pos q,if_pos q]
  · rw[if_neg q,if_neg q,h2 i hi q]
theorem rc_tbl (O:Ok 224 hm K):RC (tbl hm K)=true:=by
  refine rtf_rc ?_
  rw[tbl_len]
  exact rtf_eq O.rt (fun j hj=>gt_in hm K hj)
theorem ck_tbl (O:Ok 224 hm K) (hx:x≠0) (hh:h<224):ckC (tbl hm K) ((x:Int),(h:Int))=0:=by
  have e:naC (tbl hm K) ((x:Int),(h:Int))=true:=by
    unfold naC
    rw[tbl_len]
    simp
    omega
  unfold ckC
  rw[e,rc_tbl O]
  rfl
theorem any_id:((tbl hm K).any fun a=>decide (a.1=(x:Int)))=true↔In 224 K x:=by
  rw[List.any_eq_true]
  constructor
  · rintro ⟨c,hc,h⟩
    obtain⟨i,hi,rfl⟩:=List.mem_map.1 hc
    have h2:(tb hm K i).1=(x:Int):=by simpa using h
    rw[tb_one] at h2
    exact⟨i,List.mem_range.1 hi,by omega⟩
  · rintro ⟨i,hi,h⟩
    exact⟨tb hm K i,List.mem_map.2 ⟨i,List.mem_range.2 hi,rfl⟩,by rw[tb_one,h];simp⟩
theorem any_emp:((tbl hm K).any emC)=true↔∃ z,z<224∧K z=0:=by
  rw[List.any_eq_true]
  constructor
  · rintro ⟨c,hc,h⟩
    obtain⟨i,hi,rfl⟩:=List.mem_map.1 hc
    have h2:=(emC_iff _).1 h
    have h3:=tb_one hm K i
    rw[h2] at h3
    exact⟨i,List.mem_range.1 hi,by have:(0:Int)=(K i:Int):=h3;omega⟩
  · rintro ⟨i,hi,h⟩
    refine⟨tb hm K i,List.mem_map.2 ⟨i,List.mem_range.2 hi,rfl⟩,(emC_iff _).2 ?_⟩
    unfold tb ce
    rw[h,if_pos rfl]
theorem eI_tbl (O:Ok 224 hm K) (hx:x≠0) (hh:h<224):eI (tbl hm K) ((x:Int),(h:Int))=if (tbl hm K).any (fun a=>decide (a.1=(x:Int))) then 8 else if (tbl hm K).any emC then 0 else 5:=by
  unfold eI
  rw[if_pos (ck_tbl O hx hh)]
theorem eI_in (O:Ok 224 hm K) (hx:x≠0) (hh:h<224) (hi:In 224 K x):eI (tbl hm K) ((x:Int),(h:Int))=8:=by
  rw[eI_tbl O hx hh,if_pos (any_id.2 hi)]
theorem eI_full (O:Ok 224 hm K) (hx:x≠0) (hh:h<224) (hi:¬ In 224 K x) (hf:∀ i,i<224→K i≠0):eI (tbl hm K) ((x:Int),(h:Int))=5:=by
  rw[eI_tbl O hx hh,if_neg (fun q=>hi (any_id.1 q)),if_neg (fun q=>by obtain⟨z,hz,h⟩:=any_emp.1 q;exact hf z hz h)]
theorem eI_ok (O:Ok 224 hm K) (hx:x≠0) (hh:h<224) (hi:¬ In 224 K x) (hf:∃ z,z<224∧K z=0):eI (tbl hm K) ((x:Int),(h:Int))=0:=by
  rw[eI_tbl O hx hh,if_neg (fun q=>hi (any_id.1 q)),if_pos (any_emp.2 hf)]
theorem sk_cong {P P':Nat→Bool} {n:Nat} (h:∀ s,s<n→P' s=P s):sk P' n=sk P n:=by
  refine sk_eq (sk_le _ _) (fun i hi=>?_) (fun hi=>?_)
  · rw[h i (Nat.lt_of_lt_of_le hi (sk_le _ _))];exact sk_no hi
  · rw[h _ hi];exact sk_yes hi
theorem emC_tb:emC (tb hm K i)=decide (K i=0):=by
  by_cases q:K i=0
  · rw[decide_eq_true q]
    refine(emC_iff _).2 ?_
    unfold tb ce
    rw[if_pos q]
  · rw[decide_eq_false q]
    cases e:emC (tb hm K i) with
    | false=>rfl
    | true =>
      have:=tb_one hm K i
      rw[(emC_iff _).1 e] at this
      exact absurd (by have:(0:Int)=(K i:Int):=this;omega) q
theorem opC_tbl (O:Ok 224 hm K) (hz:∀ i,224≤i→K i=0) (hh:h<224) (hp:p<224):opC (tbl hm K) p (h:Int)=opb 224 hm K h p:=by
  unfold opC opb fr
  rw[gt_tbl hz,tbl_len,emC_tb]
  by_cases q:K p=0
  · simp[q]
  · rw[O.far hp q,dI_off hh hp]
    simp[q]
theorem opK_tbl (O:Ok 224 hm K) (hz:∀ i,224≤i→K i=0) (hh:h<224):opK (tbl hm K) h=opn 224 hm K h:=by
  unfold opK opn
  rw[tbl_len]
  refine sk_cong (fun s hs=>?_)
  rw[mod_ps hh (Nat.le_of_lt hs)]
  exact opC_tbl O hz hh (ps_lt hh (Nat.le_of_lt hs))
theorem moK_tbl (hz:∀ i,224≤i→K i=0) (hp:p<224):moK (tbl hm K) p=emp 224 K p:=by
  unfold moK emp
  rw[tbl_len,gt_tbl hz]
  refine sk_cong (fun s hs=>?_)
  rw[mod_ps hp (Nat.le_of_lt hs),emC_tb]
theorem rI_tbl (O:Ok 224 hm K) (hz:∀ i,224≤i→K i=0) (hx:x≠0) (hh:hm x<224) (hi:¬ In 224 K x) (hf:∃ z,z<224∧K z=0):rI (tbl hm K) ((x:Int),(hm x:Int))=tbl hm (insF 224 hm K x):=by
  have he:=eI_ok O hx hh hi hf
  obtain⟨z,hz1,hz2⟩:=hf
  have hp:ps 224 (hm x) (opn 224 hm K (hm x))<224:=ps_lt hh (Nat.le_of_lt (opn_lt hh hz1 hz2))
  unfold rI
  rw[if_pos he]
  show insT (tbl hm K) ((x:Int),(hm x:Int)) (hm x)=_
  refine eq_tbl (by rw[insT_length,tbl_len]) (fun j hj=>?_)
  rw[Pro.ins_gt he j (by rw[tbl_len];exact hj),tbl_len,gt_tbl hz,opK_tbl O hz hh,moK_tbl hz hp]
  unfold insF
  rw[tb_ins]
  unfold ce
  rw[if_neg hx]
theorem fi_tbl (O:Ok 224 hm K) (hz:∀ i,224≤i→K i=0) (hx:x≠0) (hh:hm x<224):fiC (tbl hm K) ((x:Int),(hm x:Int)) (hm x)=match slF 224 hm K (hm x) (fun y=>decide (y=x)) with | some q=>(q,true) | none=>(0,false):=by
  have hc:∀ p,(decide (gt (tbl hm K) p=((x:Int),(hm x:Int))))=hit K (fun y=>decide (y=x)) p:=fun p=>by
    rw[gt_tbl hz]
    unfold hit
    by_cases q:K p=x
    · have e:tb hm K p=((x:Int),(hm x:Int)):=by unfold tb ce;rw[q,if_neg hx]
      rw[decide_eq_true e]
      simp[q,hx]
    · have e:¬ tb hm K p=((x:Int),(hm x:Int)):=fun e=>by
        have:=tb_one hm K p
        rw[e] at this
        exact q (by have:(x:Int)=(K p:Int):=this;omega)
      rw[decide_eq_false e]
      simp[q]
  have hk:fiK (tbl hm K) ((x:Int),(hm x:Int)) (hm x)=enK 224 hm K (hm x) (fun y=>decide (y=x)):=by
    unfold fiK enK
    rw[tbl_len]
    refine sk_cong (fun s hs=>?_)
    rw[mod_ps hh (Nat.le_of_lt hs),hc,opC_tbl O hz hh (ps_lt hh (Nat.le_of_lt hs))]
  have hle:enK 224 hm K (hm x) (fun y=>decide (y=x))≤224:=sk_le _ _
  have hd:(gt (tbl hm K) (ps 224 (hm x) (enK 224 hm K (hm x) fun y=>decide (y=x)))=((x:Int),(hm x:Int)))↔hit K (fun y=>decide (y=x)) (ps 224 (hm x) (enK 224 hm K (hm x) fun y=>decide (y=x)))=true:=by
    rw[←hc,decide_eq_true_iff]
  unfold fiC
  rw[hk,tbl_len,mod_ps hh hle]
  unfold slF
  by_cases q:hit K (fun y=>decide (y=x)) (ps 224 (hm x) (enK 224 hm K (hm x) fun y=>decide (y=x)))=true
  · have hlt:enK 224 hm K (hm x) (fun y=>decide (y=x))<224:=by
      rcases Nat.lt_or_ge (enK 224 hm K (hm x) (fun y=>decide (y=x))) 224 with h | h
      · exact h
      · have e:enK 224 hm K (hm x) (fun y=>decide (y=x))=224:=by omega
        rw[e,show ps 224 (hm x) 224=ps 224 (hm x) 0 by unfold ps;(repeat' split)<;>omega] at q
        have:enK 224 hm K (hm x) (fun y=>decide (y=x))≤0:=sk_lt (by omega) (by show (hit _ _ _ || _)=true;rw[q];rfl)
        omega
    rw[if_pos (hd.2 q),if_pos ⟨hlt,q⟩]
  · rw[if_neg (fun h=>q (hd.1 h)),if_neg (fun h=>q h.2)]
theorem eD_tbl (O:Ok 224 hm K) (hx:x≠0) (hh:hm x<224):eD (tbl hm K) ((x:Int),(hm x:Int))=if (fiC (tbl hm K) ((x:Int),(hm x:Int)) (hm x)).2 then 0 else 7:=by
  unfold eD
  rw[if_pos (ck_tbl O hx hh)]
  rfl
theorem eD_out (O:Ok 224 hm K) (hz:∀ i,224≤i→K i=0) (hx:x≠0) (hh:hm x<224) (hi:∀ i,i<224→K i≠x):eD (tbl hm K) ((x:Int),(hm x:Int))=7:=by
  rw[eD_tbl O hx hh,fi_tbl O hz hx hh,slF_none hh hi]
  rfl
theorem eD_in (O:Ok 224 hm K) (hz:∀ i,224≤i→K i=0) (hx:x≠0) (hp:p<224) (hk:K p=x):eD (tbl hm K) ((x:Int),(hm x:Int))=0∧rD (tbl hm K) ((x:Int),(hm x:Int))=tbl hm (delF 224 hm K p):=by
  have hkp:K p≠0:=by omega
  have hh:hm x<224:=by have:=O.home hp hkp;rwa [hk] at this
  have h1:=slF_one O hp hkp
  rw[hk] at h1
  have h2:=fi_tbl O hz hx hh
  rw[h1] at h2
  have he:eD (tbl hm K) ((x:Int),(hm x:Int))=0:=by rw[eD_tbl O hx hh,h2];rfl
  refine⟨he,?_⟩
  unfold rD
  rw[if_pos he]
  show delT (tbl hm K) (fiC (tbl hm K) ((x:Int),(hm x:Int)) (hm x)).1=_
  rw[h2]
  refine eq_tbl (by rw[delT_length,tbl_len]) (fun j hj=>?_)
  have D:DelH (tbl hm K).length (gt (tbl hm K)) p (sta 224 hm K p):=by rw[tbl_len,gt_tbl hz];exact del_h O hp
  rw[Pro.del_gt D j (by rw[tbl_len];exact hj),tbl_len,gt_tbl hz]
  unfold delF
  rw[tb_del]
theorem Fi_tbl (O:Ok 224 hm K) (hz:∀ i,224≤i→K i=0) (hx:x≠0) (hh:hm x<224):(if ckC (tbl hm K) ((x:Int),(hm x:Int))=0 then fiC (tbl hm K) ((x:Int),(hm x:Int)) (((hm x:Nat):Int)).toNat else (0,false))=match slF 224 hm K (hm x) (fun y=>decide (y=x)) with | some q=>(q,true) | none=>(0,false):=by
  rw[if_pos (ck_tbl O hx hh),Int.toNat_natCast]
  exact fi_tbl O hz hx hh
end
end Go.Proofs.YtmgeiaglandedaaGreatDoor.Ind
