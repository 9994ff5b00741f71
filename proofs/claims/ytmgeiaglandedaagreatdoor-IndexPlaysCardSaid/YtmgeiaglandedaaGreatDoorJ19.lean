/- Plain mathematics of slabs: which blocks are live behind each call. The landed slabs: blocks that are written and read; the bytes behind all were given back; acts, as they come in. Slabs within a statement: the memory, rows of places, what calls come to. Places of live blocks; rows of bytes between two bounds. Rows of one's own: what they are; a live block lies in its memory. Plain mathematics of SlabOnce: blocks that are live, each with its size and its bytes. -/
import Derived.Test.YtmgeiaglandedaaGreatDoorJ18
import Derived.Test.YtmgeiaglandedaaGreatDoorJ0
import Derived.Lib.SlBytesConst
namespace Go.Proofs.YtmgeiaglandedaaGreatDoor.Sla
open Go.RowKit Num
open Cls (szC blC pdC)
set_option linter.unusedVariables false
structure Tk (S:Nat) (T:List Sl):Prop where
  l:T.length=S
  ok:∀ j,j<S→(T.getD j Sl.zero).Ok
theorem pl_inj {S N j j' k k':Nat} {c c':Int} (hk:k<blC c) (hk':k'<blC c') (h:pl (aT S N j) c k=pl (aT S N j') c' k'):j=j'∧(c=c'→k=k'):=by
  have h1:=bl_in hk
  have h2:=bl_in hk'
  have hj:j=j':=by
    unfold pl aT at h
    omega
  refine⟨hj,?_⟩
  rintro rfl
  subst hj
  unfold pl at h
  rcases Nat.lt_trichotomy k k' with q | q | q
  · have:=bl_apart c q
    omega
  · exact q
  · have:=bl_apart c q
    omega
def Lv (S N:Nat) (T:List Sl) (a:Nat):Prop:=∃ j k,j<S∧k∈(T.getD j Sl.zero).v∧a=pl (aT S N j) (T.getD j Sl.zero).c k
theorem range_up_not (n k:Nat) (hn:1≤n):k<n∧k ∉ (List.range (n-1)).map (·+1)↔k=0:=by
  simp only[List.mem_map,List.mem_range,not_exists,not_and]
  constructor
  · rintro ⟨h1,h2⟩
    rcases Nat.eq_zero_or_pos k with q | q
    · exact q
    · exact absurd (by omega:k-1+1=k) (h2 (k-1) (by omega))
  · rintro rfl
    exact⟨by omega,fun x _=>by omega⟩
structure Tkn (S N:Nat) (T T':List Sl) (c:Int) (j k:Nat):Prop where
  hj:j<S
  c1:1≤c
  c9:c≤9
  hk:k<blC c
  cls:((T'.getD j Sl.zero).c:Int)=c
  oth:∀ i,i≠j→T'.getD i Sl.zero=T.getD i Sl.zero
  mem:∀ x,x∈(T'.getD j Sl.zero).v↔x=k∨x∈(T.getD j Sl.zero).v
  new:k ∉ (T.getD j Sl.zero).v
  old:((T.getD j Sl.zero).c:Int)=c∨(T.getD j Sl.zero).c=0
  ok:Tk S T'
theorem tk_spec {S N:Nat} {T:List Sl} (hT:Tk S T) (c:Int) :
    ((tkF S N T c).1.2≠0∧(tkF S N T c).2=T)∨((tkF S N T c).1.2=0∧∃ j k,(tkF S N T c).1.1=(pl (aT S N j) c k:Int)∧Tkn S N T (tkF S N T c).2 c j k):=by
  have hl:=hT.l
  unfold tkF
  by_cases hz:szC c=0
  · rw[if_pos hz]
    exact .inl ⟨by simp,rfl⟩
  rw[if_neg hz]
  have hb:=Cls.szC_is hz
  have hbp:=Cls.blC_pos hz
  obtain⟨n,rfl⟩:∃ n:Nat,c=n:=⟨c.toNat,by omega⟩
  rw[Int.toNat_natCast]
  have hn1:1≤n:=by omega
  unfold tkJ
  cases hj:fi T (n:Int) with
  | some j =>
    obtain⟨j1,j2,-⟩:=fi_some hj
    obtain⟨q1,q2⟩:=lst_pos hn1 j2
    have hjS:j<S:=by omega
    have hok:=hT.ok j hjS
    simp only
    cases hx:(T.getD j Sl.zero).f with
    | nil=>exact absurd hx q2
    | cons k f =>
      simp only
      refine .inr ⟨trivial,j,k,rfl,?_⟩
      have hTj:(T.set j ⟨n,f⟩).getD j Sl.zero=⟨n,f⟩:=getD_set1 _ _ _ (by omega)
      have hnd:=hok.nd
      rw[hx] at hnd
      obtain⟨d1,d2⟩:=List.nodup_cons.1 hnd
      have hk:k<blC (n:Int):=by rw[←q1];exact hok.lt k (by rw[hx];simp)
      refine⟨hjS,by omega,by omega,hk,by rw[hTj],fun i hi=>getD_set2 _ _ (by omega) hi,fun x=>?_,?_,.inl (by rw[q1]),?_⟩
      · rw[hTj,Sl.mem_v,Sl.mem_v,q1,hx]
        simp only[List.mem_cons,not_or]
        constructor
        · rintro ⟨a1,a2⟩
          by_cases e:x=k
          · exact .inl e
          · exact .inr ⟨a1,e,a2⟩
        · rintro (rfl | ⟨a1,a2,a3⟩)
          · exact⟨hk,d1⟩
          · exact⟨a1,a3⟩
      · rw[Sl.mem_v,hx]
        simp
      · refine⟨by rw[List.length_set];exact hl,fun i hi=>?_⟩
        by_cases e:i=j
        · subst e
          rw[hTj]
          exact⟨by have:=hok.c;rw[q1] at this;exact this,d2,fun y hy=>by have:=hok.lt y (by rw[hx];simp[hy]);rw[q1] at this;exact this⟩
        · rw[getD_set2 _ _ (by omega) e]
          exact hT.ok i hi
  | none =>
    simp only
    cases hj0:fi T 0 with
    | none=>exact .inl ⟨by simp,rfl⟩
    | some j =>
      obtain⟨j1,j2,-⟩:=fi_some hj0
      have hjS:j<S:=by omega
      have hc0:=lst_zero.1 j2
      have hTs:(T.set j ⟨n,List.range (blC (n:Int))⟩).getD j Sl.zero=⟨n,List.range (blC (n:Int))⟩:=getD_set1 _ _ _ (by omega)
      simp only
      rw[hTs]
      simp only
      rw[range_cons (blC (n:Int)) (by omega)]
      simp only
      refine .inr ⟨trivial,j,0,rfl,?_⟩
      have hss:(T.set j ⟨n,0::(List.range (blC (n:Int)-1)).map (·+1)⟩).set j ⟨n,(List.range (blC (n:Int)-1)).map (·+1)⟩=T.set j ⟨n,(List.range (blC (n:Int)-1)).map (·+1)⟩:=List.set_set ..
      rw[hss]
      have hTj:(T.set j ⟨n,(List.range (blC (n:Int)-1)).map (·+1)⟩).getD j Sl.zero=⟨n,(List.range (blC (n:Int)-1)).map (·+1)⟩:=getD_set1 _ _ _ (by omega)
      refine⟨hjS,by omega,by omega,by omega,by rw[hTj],fun i hi=>getD_set2 _ _ (by omega) hi,fun x=>?_,?_,.inr hc0,?_⟩
      · rw[hTj,Sl.mem_v,zero_v hc0]
        simp only
        rw[range_up_not _ _ (by omega)]
        simp
      · rw[zero_v hc0]
        simp
      · refine⟨by rw[List.length_set];exact hl,fun i hi=>?_⟩
        by_cases e:i=j
        · subst e
          rw[hTj]
          have hr9:(List.range (blC (n:Int))).Nodup:=List.nodup_range
          rw[range_cons (blC (n:Int)) (by omega)] at hr9
          refine⟨by show n≤9;omega,(List.nodup_cons.1 hr9).2,fun y hy=>?_⟩
          simp only[List.mem_map,List.mem_range] at hy
          obtain⟨z,h1,rfl⟩:=hy
          show z+1<blC (n:Int)
          omega
        · rw[getD_set2 _ _ (by omega) e]
          exact hT.ok i hi
theorem Tkn.fresh {S N:Nat} {T T':List Sl} {c:Int} {j k:Nat} (h:Tkn S N T T' c j k):¬ Lv S N T (pl (aT S N j) c k):=by
  rintro ⟨i,y,h1,h2,h3⟩
  obtain⟨rfl,hkk⟩:=pl_inj h.hk (mem_lt h2).1 h3
  rcases h.old with q | q
  · exact h.new ((hkk q.symm) ▸ h2)
  · rw[zero_v q] at h2;cases h2
structure Gvn (S N:Nat) (T T':List Sl) (j k:Nat):Prop where
  oth:∀ i,i≠j→T'.getD i Sl.zero=T.getD i Sl.zero
  mem:∀ x,x∈(T'.getD j Sl.zero).v↔x≠k∧x∈(T.getD j Sl.zero).v
  cls:(T'.getD j Sl.zero).v ≠ []→(T'.getD j Sl.zero).c=(T.getD j Sl.zero).c
  ok:Tk S T'
theorem fnd_live {S N:Nat} {T:List Sl} (hr:Lay.rightC (S:Int) (N:Int)=true) {j k:Nat} (hj:j<S) (hk:k<blC (T.getD j Sl.zero).c):fnd S N T (pl (aT S N j) (T.getD j Sl.zero).c k:Int)=some (j,k):=by
  have hin:=bl_in hk
  have:=fnd_at (N:=N) (T:=T) hr hj hk (show 0<_ by omega)
  rw[Nat.add_zero] at this
  exact this
theorem gv_yes {S N:Nat} {T:List Sl} (hT:Tk S T) (hr:Lay.rightC (S:Int) (N:Int)=true) {j k:Nat} (hj:j<S) (hk:k∈(T.getD j Sl.zero).v) :
    (gvF S N T (pl (aT S N j) (T.getD j Sl.zero).c k:Int)).1=0∧Gvn S N T (gvF S N T (pl (aT S N j) (T.getD j Sl.zero).c k:Int)).2 j k:=by
  obtain⟨h1,h2⟩:=mem_lt hk
  have hl:=hT.l
  have hok:=hT.ok j hj
  unfold gvF
  rw[fnd_live hr hj h1]
  simp only
  rw[if_pos ⟨trivial,h2⟩]
  refine⟨rfl,?_⟩
  have hfo:(Sl.mk (T.getD j Sl.zero).c (k::(T.getD j Sl.zero).f)).Ok:=⟨hok.c,List.nodup_cons.2 ⟨h2,hok.nd⟩,fun y hy=>by
    rcases List.mem_cons.1 hy with rfl | hy
    · exact h1
    · exact hok.lt y hy⟩
  by_cases hm:(T.getD j Sl.zero).f.length+1=blC ((T.getD j Sl.zero).c:Int)
  · rw [if_pos hm]
    have hTj:=getD_set1 T j Sl.zero (by omega)
    have hlen:=hfo.len
    simp only[List.length_cons] at hlen
    have hnil:(Sl.mk (T.getD j Sl.zero).c (k::(T.getD j Sl.zero).f)).v = []:=List.length_eq_zero_iff.1 (by omega)
    refine⟨fun i hi=>getD_set2 _ _ (by omega) hi,fun x=>?_,fun q=>?_,⟨by rw[List.length_set];exact hl,fun i hi=>?_⟩⟩
    · rw [hTj, zero_v (s := Sl.zero) rfl]
      constructor
      · intro q;cases q
      · rintro ⟨q1,q2⟩
        have:x∈(Sl.mk (T.getD j Sl.zero).c (k::(T.getD j Sl.zero).f)).v:=by
          rw[Sl.mem_v] at q2 ⊢
          exact⟨q2.1,by simp only[List.mem_cons,not_or];exact⟨q1,q2.2⟩⟩
        rw[hnil] at this
        cases this
    · rw[hTj,zero_v (s:=Sl.zero) rfl] at q
      exact absurd rfl q
    · by_cases e : i = j
      · subst e
        rw[hTj]
        exact Sl.zero_ok
      · rw[getD_set2 _ _ (by omega) e]
        exact hT.ok i hi
  · rw [if_neg hm]
    have hTj:=getD_set1 T j (Sl.mk (T.getD j Sl.zero).c (k::(T.getD j Sl.zero).f)) (by omega)
    refine⟨fun i hi=>getD_set2 _ _ (by omega) hi,fun x=>?_,fun q=>by rw[hTj],⟨by rw[List.length_set];exact hl,fun i hi=>?_⟩⟩
    · rw[hTj,Sl.mem_v,Sl.mem_v]
      simp only[List.mem_cons,not_or]
      constructor
      · rintro ⟨a1,a2,a3⟩
        exact⟨a2,a1,a3⟩
      · rintro ⟨a1,a2,a3⟩
        exact⟨a2,a1,a3⟩
    · by_cases e : i = j
      · subst e
        rw[hTj]
        exact hfo
      · rw[getD_set2 _ _ (by omega) e]
        exact hT.ok i hi
end Go.Proofs.YtmgeiaglandedaaGreatDoor.Sla

namespace Go.Proofs.YtmgeiaglandedaaGreatDoor.Sla
open Go.RowKit Num
open Mem (Mm MemC MRet Hm rd blkM)
open Lis (Cf LM LR Tb at_ Nx Pv Rep Hx valsN)
open Cls (szC blC pdC)
open Arn (wrL is64)
set_option linter.unusedVariables false
theorem set_self (T:List Sl) (j:Nat) (hj:j<T.length):T.set j (T.getD j Sl.zero)=T:=by
  unfold List.getD
  rw[List.getElem?_eq_getElem hj,Option.getD_some,List.set_getElem_self]
section
variable {h:Hm} {S N:Nat} {l0 l l':List Int} {T T':List Sl} {w W W':World}
theorem St.tk (d:St h S N l0 l T w):Tk S T:=⟨d.tl.1,fun j hj=>d.ok hj⟩
end
end Go.Proofs.YtmgeiaglandedaaGreatDoor.Sla

namespace Go.Proofs.YtmgeiaglandedaaGreatDoor.Sla
open Go.RowKit Num
open Mem (Mm MemC MRet Hm rd blkM)
open Lis (Cf LM LR Tb at_ Nx Pv Rep Hx valsN)
open Cls (szC blC pdC)
open Arn (wrL is64)
set_option linter.unusedVariables false
section
variable {w0 W W':World} {h:Hm} {n S N:Nat} {l0 l l':List Int} {T T':List Sl}
end
end Go.Proofs.YtmgeiaglandedaaGreatDoor.Sla

namespace Go.Proofs.YtmgeiaglandedaaGreatDoor.Sla
open Go.RowKit Num
open Mem (Mm MemC MRet Hm rd blkM)
open Lis (Cf LM LR Tb at_ Nx Pv Rep Hx valsN)
open Cls (szC blC pdC)
open Arn (wrL is64)
set_option linter.unusedVariables false
end Go.Proofs.YtmgeiaglandedaaGreatDoor.Sla

namespace Go.Proofs.YtmgeiaglandedaaGreatDoor.Sla
open Go.RowKit Num
open Mem (Mm MemC MRet Hm rd blkM)
open Lis (Cf LM LR Tb at_ Nx Pv Rep Hx valsN)
open Cls (szC blC pdC)
open Arn (wrL is64)
set_option linter.unusedVariables false
section
variable {W W':World} {u u':Value} {A A':List Nat} {x:Nat}
end
end Go.Proofs.YtmgeiaglandedaaGreatDoor.Sla

namespace Go.Proofs.YtmgeiaglandedaaGreatDoor.Sla
open Go.RowKit Num
open Cls (szC blC pdC)
open Mem (Mm MemC MRet Hm rd blkM)
open Arn (wrL is64)
set_option linter.unusedVariables false
theorem blk_apart {S N:Nat} {T:List Sl} {j j' k k':Nat} (hk:k<blC (T.getD j Sl.zero).c) (hk':k'<blC (T.getD j' Sl.zero).c)
    (hne:¬ (j=j'∧k=k')):pl (aT S N j) (T.getD j Sl.zero).c k+szC (T.getD j Sl.zero).c≤pl (aT S N j') (T.getD j' Sl.zero).c k'∨pl (aT S N j') (T.getD j' Sl.zero).c k'+szC (T.getD j' Sl.zero).c≤pl (aT S N j) (T.getD j Sl.zero).c k:=by
  have h1:=bl_in hk
  have h2:=bl_in hk'
  rcases Nat.lt_trichotomy j j' with q | q | q
  · left;unfold pl aT;omega
  · subst q
    rcases Nat.lt_trichotomy k k' with r | r | r
    · have:=bl_apart ((T.getD j Sl.zero).c:Int) r
      left;unfold pl;omega
    · exact absurd ⟨rfl,r⟩ hne
    · have:=bl_apart ((T.getD j Sl.zero).c:Int) r
      right;unfold pl;omega
  · right;unfold pl aT;omega
section
variable {N:Nat} {T T':List Sl} {l l':List Int} {A Z M:List Nat}
end
end Go.Proofs.YtmgeiaglandedaaGreatDoor.Sla
