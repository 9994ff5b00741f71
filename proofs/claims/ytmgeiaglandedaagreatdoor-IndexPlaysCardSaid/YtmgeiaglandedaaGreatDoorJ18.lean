/- Plain mathematics of slabs: which blocks they have, and what their bytes and kinds say. The landed slabs: a memory with its tables; blocks that are blanked, live, free, dissolved. The landed slabs: what becomes of a block; the class of a slab. Slabs in a memory: what its bytes and kinds say of all of them; the calls of lists on it. The landed slabs: a memory that is made, the class of a slab, a visit of each block. The landed slabs: which blocks of a slab are of a kind. The landed slabs: the blocks of a kind, found. The landed slabs: a memory and the boxes of a call; the block that contains an offset. The landed slabs: the block that begins at an offset; the first free one; heads that are noted; what is told. The landed slabs: a slab that is opened or shut; blocks that are taken or given back. The landed slabs: the first free block of a slab; heads that are noted; what is told. The landed slabs: a slab that is opened, or shut; where a block is taken from. Plain mathematics of slabs: what is taken and given back. The landed slabs: Take. The landed slabs: Give. The landed slabs: Take and Give of slabs that hang together. The landed slabs: a memory that is begun; what is told; the example. -/
import Derived.Test.YtmgeiaglandedaaGreatDoorJ15
import Derived.Test.YtmgeiaglandedaaGreatDoorJ16
import Derived.Test.YtmgeiaglandedaaGreatDoorJ17
import Derived.Test.YtmgeiaglandedaaGreatDoorJ9
import Derived.Test.YtmgeiaglandedaaGreatDoorJ11
import Derived.Deep.RegionHeld3
import Derived.Test.YtmgeiaglandedaaGreatDoorJ0
namespace Go.Proofs.YtmgeiaglandedaaGreatDoor.Sla
open Go.RowKit Num
open Cls (szC blC pdC)
open Arn (wrL)
set_option linter.unusedVariables false
theorem bl_in {c:Int} {k:Nat} (h:k<blC c):k*szC c+szC c≤blC c*szC c∧blC c*szC c≤1024∧32≤szC c:=by
  have hz:¬ szC c=0:=fun e=>by rw[Cls.blC_no e] at h;omega
  obtain⟨h1,-⟩:=Cls.blC_fit hz
  have h2:=Nat.mul_le_mul_right (szC c) (show k+1≤blC c from h)
  rw[Nat.add_mul,Nat.one_mul] at h2
  rcases Cls.szC_bd c with e | e
  · exact absurd e hz
  · exact⟨h2,h1,e.1⟩
theorem bl_apart (c:Int) {k j:Nat} (h:k<j):k*szC c+szC c≤j*szC c:=by
  have h2:=Nat.mul_le_mul_right (szC c) (show k+1≤j from h)
  rwa [Nat.add_mul,Nat.one_mul] at h2
theorem sz_mod (c:Int):szC c % 16=0∧pdC c % 16=0:=by
  rcases Cls.cls_cases c with h | rfl | rfl | rfl | rfl | rfl | rfl | rfl | rfl | rfl
  · have h0:=Cls.szC_no h
    refine⟨by rw[h0],?_⟩
    unfold pdC
    rw[if_pos h0]
  all_goals decide
theorem sz_le (c:Int):szC c≤512:=by rcases Cls.szC_bd c with e | e<;>omega
theorem pd_end (c:Int) (h:¬ szC c=0):blC c*szC c+pdC c=1024:=(Cls.pdC_less h).1
theorem mul_mod (c:Int) (k:Nat):k*szC c % 16=0:=by
  obtain⟨m,hm⟩:∃ m,szC c=16*m:=⟨szC c / 16,by have:=(sz_mod c).1;omega⟩
  rw[hm,Nat.mul_left_comm]
  omega
structure Sl where
  c:Nat
  f:List Nat
def Sl.zero:Sl:=⟨0,[]⟩
structure Sl.Ok (s:Sl):Prop where
  c:s.c≤9
  nd:s.f.Nodup
  lt:∀ k,k∈s.f→k<blC s.c
def Sl.v (s:Sl):List Nat:=(List.range (blC s.c)).filter fun k=>decide (k ∉ s.f)
theorem Sl.mem_v (s:Sl) (k:Nat):k∈s.v↔k<blC s.c∧k ∉ s.f:=by simp[Sl.v]
theorem Sl.zero_ok:Sl.zero.Ok:=⟨by simp[Sl.zero],by simp[Sl.zero],by simp[Sl.zero]⟩
def pl (A:Nat) (c:Int) (k:Nat):Nat:=A+k*szC c
def lk (A:Nat) (c:Int):List Nat→Nat
  | []=>0
  | k::_=>pl A c k
def fr (nm:Int):List Int := [0,0,0,0]++Hea.p4 nm
def FB (l:List Int) (a z:Nat) (nm:Int):Prop:=∀ i,i<z→l.getD (a+i) 0=(fr nm).getD i 0
def Lks (l:List Int) (A:Nat) (c:Int):List Nat→Prop
  | []=>True
  | k::r=>FB l (pl A c k) (szC c) (lk A c r)∧Lks l A c r
theorem fr_len (nm:Int):(fr nm).length=8:=rfl
theorem fr_out (nm:Int) {i:Nat} (h:8≤i):(fr nm).getD i 0=0:=by
  rw[List.getD,List.getElem?_eq_none (by rw[fr_len];exact h)]
  rfl
structure SlabOk (l x:List Int) (A:Nat) (s:Sl):Prop where
  ok:s.Ok
  k:∀ k,k<blC s.c→∀ i,i<szC s.c→x.getD (pl A s.c k+i) 0=if k∈s.f then 6 else 5
  f:Lks l A s.c s.f
  p:∀ t,A+blC s.c*szC s.c≤t→t<A+1024→x.getD t 0=(if s.c=0 then 7 else 8)∧l.getD t 0=0
theorem Lks.same {l l':List Int} {A:Nat} {c:Int} : ∀ {f:List Nat},Lks l A c f→(∀ k,k∈f→∀ i,i<szC c→l'.getD (pl A c k+i) 0=l.getD (pl A c k+i) 0)→Lks l' A c f
  | [],_,_=>trivial
  | k::r,h,hs=>⟨fun i hi=>(hs k (by simp) i hi).trans (h.1 i hi),Lks.same h.2 (fun j hj=>hs j (by simp[hj]))⟩
theorem SlabOk.same {l x l' x':List Int} {A:Nat} {s:Sl} (h:SlabOk l x A s) (hs:∀ t,A≤t→t<A+1024→l'.getD t 0=l.getD t 0∧x'.getD t 0=x.getD t 0):SlabOk l' x' A s:=by
  refine⟨h.ok,fun k hk i hi=>?_,h.f.same (fun k hk i hi=>?_),fun t h1 h2=>?_⟩
  · have:=bl_in hk
    rw[(hs _ (by unfold pl;omega) (by unfold pl;omega)).2]
    exact h.k k hk i hi
  · have:=bl_in (h.ok.lt k hk)
    exact(hs _ (by unfold pl;omega) (by unfold pl;omega)).1
  · rw[(hs t (by omega) h2).1,(hs t (by omega) h2).2]
    exact h.p t h1 h2
def wrF (l:List Int) (a z:Nat) (nm:Int):List Int:=wrL (wrL l a (List.replicate z 0)) a (fr nm)
theorem wrF_length {l:List Int} {a z:Nat} (h:a+z≤l.length) (hz:8≤z) (nm:Int):(wrF l a z nm).length=l.length:=by
  have h1:(wrL l a (List.replicate z (0:Int))).length=l.length:=Arn.wrL_length _ _ _ (by simp;omega)
  unfold wrF
  rw[Arn.wrL_length _ _ _ (by rw[h1,fr_len];omega),h1]
theorem wrF_get {l:List Int} {a z:Nat} (h:a+z≤l.length) (hz:8≤z) (nm:Int) (t:Nat):(wrF l a z nm).getD t 0=if a≤t∧t<a+z then (fr nm).getD (t-a) 0 else l.getD t 0:=by
  have h1:(wrL l a (List.replicate z (0:Int))).length=l.length:=Arn.wrL_length _ _ _ (by simp;omega)
  unfold wrF
  rw[Mem.wr_get _ _ _ _ (by rw[h1,fr_len];omega),Mem.wr_rep _ _ _ _ _ h,fr_len]
  by_cases h8:a≤t∧t<a+8
  · rw[if_pos h8,if_pos (by omega)]
  · rw[if_neg h8]
    by_cases hz1:a≤t∧t<a+z
    · rw[if_pos hz1,if_pos hz1,fr_out nm (by omega)]
    · rw[if_neg hz1,if_neg hz1]
theorem rep_length {l:List Int} {a z:Nat} (h:a+z≤l.length) (k:Int):(wrL l a (List.replicate z k)).length=l.length:=Arn.wrL_length _ _ _ (by simp;omega)
theorem SlabOk.take {l x:List Int} {A c k:Nat} {r:List Nat} (h:SlabOk l x A ⟨c,k::r⟩) (hl:A+1024≤l.length) (hx:A+1024≤x.length) :
    SlabOk (wrL l (pl A c k) (List.replicate (szC c) 0)) (wrL x (pl A c k) (List.replicate (szC c) 5)) A ⟨c,r⟩:=by
  have hok:=h.ok
  have hk:=hok.lt k (by simp)
  have hnd:k ∉ r∧r.Nodup:=by have:=hok.nd;simpa using this
  simp only at hk
  have hin:=bl_in hk
  have hp:pl A c k+szC c≤A+1024:=by unfold pl;omega
  have gl:=fun t=>Mem.wr_rep l (pl A c k) (szC c) t 0 (by omega)
  have gx:=fun t=>Mem.wr_rep x (pl A c k) (szC c) t 5 (by omega)
  refine⟨⟨hok.c,hnd.2,fun j hj=>hok.lt j (by simp[hj])⟩,fun j hj i hi=>?_,?_,fun t h1 h2=>?_⟩
  · simp only at hj hi ⊢
    have hji:=bl_in hj
    rw[gx]
    by_cases e:j=k
    · subst e
      rw[if_pos (by omega),if_neg hnd.1]
    · have hn:¬ (pl A c k≤pl A c j+i∧pl A c j+i<pl A c k+szC c):=by
        rcases Nat.lt_or_gt_of_ne e with q | q
        · have:=bl_apart c q
          unfold pl;omega
        · have:=bl_apart c q
          unfold pl;omega
      rw[if_neg hn]
      have:=h.k j hj i hi
      simp only at this
      rw[this]
      simp[e]
  · refine h.f.2.same (fun j hj i hi=>?_)
    simp only at hi ⊢
    have e:j≠k:=by rintro rfl;exact hnd.1 hj
    rw[gl]
    refine if_neg ?_
    rcases Nat.lt_or_gt_of_ne e with q | q
    · have:=bl_apart c q
      unfold pl;omega
    · have:=bl_apart c q
      unfold pl;omega
  · simp only at h1 ⊢
    have hpt:pl A c k+szC c≤A+blC c*szC c:=by unfold pl;omega
    have hn:¬ (pl A c k≤t∧t<pl A c k+szC c):=by omega
    rw[gl,gx,if_neg hn,if_neg hn]
    exact h.p t h1 h2
theorem SlabOk.give {l x:List Int} {A c k:Nat} {f:List Nat} (h:SlabOk l x A ⟨c,f⟩) (hk:k<blC c) (hf:k ∉ f) (hl:A+1024≤l.length) (hx:A+1024≤x.length) :
    SlabOk (wrF l (pl A c k) (szC c) (lk A c f)) (wrL x (pl A c k) (List.replicate (szC c) 6)) A ⟨c,k::f⟩:=by
  have hok:=h.ok
  have hin:=bl_in hk
  have hp:pl A c k+szC c≤A+1024:=by unfold pl;omega
  have gl:=fun t=>wrF_get (l:=l) (a:=pl A c k) (z:=szC c) (by omega) (by omega) (lk A c f) t
  have gx:=fun t=>Mem.wr_rep x (pl A c k) (szC c) t 6 (by omega)
  refine⟨⟨hok.c,List.nodup_cons.2 ⟨hf,hok.nd⟩,fun j hj=>?_⟩,fun j hj i hi=>?_,⟨fun i hi=>?_,?_⟩,fun t h1 h2=>?_⟩
  · simp only[List.mem_cons] at hj
    rcases hj with rfl | hj
    · exact hk
    · exact hok.lt j hj
  · simp only at hj hi ⊢
    have hji:=bl_in hj
    rw[gx]
    by_cases e:j=k
    · subst e
      rw[if_pos (by omega),if_pos (by simp)]
    · have hn:¬ (pl A c k≤pl A c j+i∧pl A c j+i<pl A c k+szC c):=by
        rcases Nat.lt_or_gt_of_ne e with q | q
        · have:=bl_apart c q
          unfold pl;omega
        · have:=bl_apart c q
          unfold pl;omega
      rw[if_neg hn]
      have:=h.k j hj i hi
      simp only at this
      rw[this]
      simp[e]
  · simp only at hi ⊢
    rw[gl,if_pos (by omega)]
    congr 1
    omega
  · refine h.f.same (fun j hj i hi=>?_)
    simp only at hj hi ⊢
    have e:j≠k:=by rintro rfl;exact hf hj
    rw[gl]
    refine if_neg ?_
    rcases Nat.lt_or_gt_of_ne e with q | q
    · have:=bl_apart c q
      unfold pl;omega
    · have:=bl_apart c q
      unfold pl;omega
  · simp only at h1 ⊢
    have hpt:pl A c k+szC c≤A+blC c*szC c:=by unfold pl;omega
    have hn:¬ (pl A c k≤t∧t<pl A c k+szC c):=by omega
    rw[gl,gx,if_neg hn,if_neg hn]
    exact h.p t h1 h2
def nxt (A:Nat) (c:Int) (i:Nat):Nat:=if i+1<blC c then pl A c (i+1) else 0
structure Op (l x:List Int) (A:Nat) (c:Int) (i:Nat):Prop where
  k:∀ k,k<i→∀ o,o<szC c→x.getD (pl A c k+o) 0=6
  f:∀ k,k<i→FB l (pl A c k) (szC c) (nxt A c k)
theorem Op.zero (l x:List Int) (A:Nat) (c:Int):Op l x A c 0:=⟨fun k h=>by omega,fun k h=>by omega⟩
theorem Op.step {l x:List Int} {A:Nat} {c:Int} {i:Nat} (h:Op l x A c i) (hi:i<blC c) (hl:A+1024≤l.length) (hx:A+1024≤x.length) :
    Op (wrF l (pl A c i) (szC c) (nxt A c i)) (wrL x (pl A c i) (List.replicate (szC c) 6)) A c (i+1):=by
  have hin:=bl_in hi
  have hp:pl A c i+szC c≤A+1024:=by unfold pl;omega
  have gl:=fun t=>wrF_get (l:=l) (a:=pl A c i) (z:=szC c) (by omega) (by omega) (nxt A c i) t
  have gx:=fun t=>Mem.wr_rep x (pl A c i) (szC c) t 6 (by omega)
  refine⟨fun k hk o ho=>?_,fun k hk o ho=>?_⟩
  · rw[gx]
    by_cases e:k=i
    · subst e
      exact if_pos (by omega)
    · have:=bl_apart c (show k<i by omega)
      rw[if_neg (by unfold pl;omega)]
      exact h.k k (by omega) o ho
  · rw[gl]
    by_cases e:k=i
    · subst e
      rw[if_pos (by omega)]
      congr 1
      omega
    · have:=bl_apart c (show k<i by omega)
      rw[if_neg (by unfold pl;omega)]
      exact h.f k (by omega) o ho
theorem Op.lks {l x:List Int} {A:Nat} {c:Int} (h:Op l x A c (blC c)):∀ (m i:Nat),i+m=blC c→Lks l A c (List.range' i m)
  | 0,i,_=>trivial
  | m+1,i,hm=>by
    refine⟨?_,Op.lks h m (i+1) (by omega)⟩
    have h1:=h.f i (by omega)
    unfold nxt at h1
    cases m with
    | zero =>
      rw[if_neg (by omega)] at h1
      exact h1
    | succ m =>
      rw[if_pos (by omega)] at h1
      exact h1
theorem Op.done {l x:List Int} {A c:Nat} (h:Op l x A c (blC c)) (hc:1≤c) (h9:c≤9) (hl:A+1024≤l.length) (hx:A+1024≤x.length) :
    SlabOk (wrL l (A+1024-pdC c) (List.replicate (pdC c) 0)) (wrL x (A+1024-pdC c) (List.replicate (pdC c) 8)) A ⟨c,List.range (blC c)⟩:=by
  have hz:¬ szC (c:Int)=0:=by rw[Cls.szC_zero];omega
  have hpd:=pd_end (c:Int) hz
  have gl:=fun t=>Mem.wr_rep l (A+1024-pdC c) (pdC c) t 0 (by omega)
  have gx:=fun t=>Mem.wr_rep x (A+1024-pdC c) (pdC c) t 8 (by omega)
  have hr:=h.lks (blC (c:Int)) 0 (by omega)
  refine⟨⟨h9,List.nodup_range,fun k hk=>by simpa using hk⟩,fun j hj i hi=>?_,?_,fun t h1 h2=>?_⟩
  · simp only at hj hi ⊢
    have hji:=bl_in hj
    rw[gx,if_neg (by unfold pl;omega),if_pos (by simpa using hj)]
    exact h.k j hj i hi
  · simp only
    rw[List.range_eq_range']
    refine hr.same (fun j hj i hi=>?_)
    have hj':j<blC (c:Int):=by simp at hj;omega
    have hji:=bl_in hj'
    rw[gl,if_neg (by unfold pl;omega)]
  · simp only at h1 ⊢
    have hn:A+1024-pdC (c:Int)≤t∧t<A+1024-pdC (c:Int)+pdC (c:Int):=by omega
    rw[gl,gx,if_pos hn,if_pos hn,if_neg (show ¬ c=0 by omega)]
    exact⟨rfl,rfl⟩
def Sh (l x:List Int) (A m:Nat):Prop:=∀ t,A≤t→t<A+m→x.getD t 0=7∧l.getD t 0=0
theorem Sh.step {l x:List Int} {A m a z m':Nat} (h:Sh l x A m) (ha:a=A+m) (hm:m'=m+z) (hl:a+z≤l.length) (hx:a+z≤x.length):Sh (wrL l a (List.replicate z 0)) (wrL x a (List.replicate z 7)) A m':=by
  intro t h1 h2
  rw[Mem.wr_rep _ _ _ _ _ hl,Mem.wr_rep _ _ _ _ _ hx]
  by_cases e:a≤t∧t<a+z
  · rw[if_pos e,if_pos e];exact⟨rfl,rfl⟩
  · rw[if_neg e,if_neg e]
    exact h t h1 (by omega)
theorem Sh.done {l x:List Int} {A:Nat} (h:Sh l x A 1024):SlabOk l x A Sl.zero:=by
  refine⟨Sl.zero_ok,fun k hk=>?_,trivial,fun t h1 h2=>?_⟩
  · rw[show blC (Sl.zero.c:Int)=0 from rfl] at hk
    omega
  · rw[show blC (Sl.zero.c:Int)=0 from rfl] at h1
    have:=h t (by omega) h2
    exact⟨this.1.trans rfl,this.2⟩
structure Out (A n:Nat) (l l' x x':List Int):Prop where
  ll:l'.length=l.length
  lx:x'.length=x.length
  l:∀ t,t<A∨A+n≤t→l'.getD t 0=l.getD t 0
  x:∀ t,t<A∨A+n≤t→x'.getD t 0=x.getD t 0
theorem Out.refl (A n:Nat) (l x:List Int):Out A n l l x x:=⟨rfl,rfl,fun _ _=>rfl,fun _ _=>rfl⟩
theorem Out.trans {A n:Nat} {a b c x y z:List Int} (h:Out A n a b x y) (k:Out A n b c y z):Out A n a c x z:=⟨k.ll.trans h.ll,k.lx.trans h.lx,fun t ht=>(k.l t ht).trans (h.l t ht),fun t ht=>(k.x t ht).trans (h.x t ht)⟩
theorem Out.wide {A n B m:Nat} {a b x y:List Int} (h:Out A n a b x y) (h1:B≤A) (h2:A+n≤B+m):Out B m a b x y:=⟨h.ll,h.lx,fun t ht=>h.l t (by omega),fun t ht=>h.x t (by omega)⟩
theorem Out.blank {a z:Nat} {l x:List Int} (hl:a+z≤l.length) (hx:a+z≤x.length) (k:Int):Out a z l (wrL l a (List.replicate z 0)) x (wrL x a (List.replicate z k)) :=
  ⟨rep_length hl 0,rep_length hx k,fun t ht=>by rw[Mem.wr_rep _ _ _ _ _ hl,if_neg (by omega)],fun t ht=>by rw[Mem.wr_rep _ _ _ _ _ hx,if_neg (by omega)]⟩
theorem Out.link {a z:Nat} {l x:List Int} (hl:a+z≤l.length) (hz:8≤z) (hx:a+z≤x.length) (k nm:Int):Out a z l (wrF l a z nm) x (wrL x a (List.replicate z k)) :=
  ⟨wrF_length hl hz nm,rep_length hx k,fun t ht=>by rw[wrF_get hl hz,if_neg (by omega)],fun t ht=>by rw[Mem.wr_rep _ _ _ _ _ hx,if_neg (by omega)]⟩
end Go.Proofs.YtmgeiaglandedaaGreatDoor.Sla

namespace Go.Proofs.YtmgeiaglandedaaGreatDoor.Sla
open Go.RowKit Num
open Mem (Mm MemC MRet Hm rd blkM)
open Lis (Cf LM LR Tb)
open Cls (szC blC pdC)
open Arn (wrL)
set_option linter.unusedVariables false
structure SM (h:Hm) (C:Cf) (l:List Int) (w:World):Prop where
  m:LM h C l w
  t:Hea.Tab w
def SR (h:Hm) (C:Cf) (l:List Int) (r:Value) (w:World) (e:Ending) (w':World):Prop:=e = .returned r∧SM h C l w'∧Fr w.heap.size (blkM h) w w'
abbrev pV (h:Hm):Value:=.pointer (some ⟨h.g,0,none⟩)
section
variable {h:Hm} {C C':Cf} {l l':List Int} {r r':Value} {w w1 w2 w':World} {e e':Ending} {lk:Int}
theorem SM.below (hs:SM h C l w) (hb:Below w.heap.size w w'):SM h C l w':=⟨hs.m.below hb,hs.t.keep hb⟩
theorem SM.mret (hs:SM h C l w) (hr:MRet h w (pV h) (C'.mm l' lk) r e w'):SR h C' l' r w e w':=by
  obtain⟨ht,lk0,hm⟩:=id hs.m
  exact⟨hr.1,⟨⟨ht.fr hm hr.2.2,lk,hr.2.1⟩,hs.t.fr hm hr.2.2⟩,hr.2.2⟩
theorem SM.lr (hs:SM h C l w) (hr:LR h C' l' r w e w'):SR h C' l' r w e w':=by
  obtain⟨ht,lk0,hm⟩:=id hs.m
  exact⟨hr.1,⟨hr.2.1,hs.t.fr hm hr.2.2⟩,hr.2.2⟩
theorem SM.xlen (hs:SM h C l w):l.length=C.x.length∧C.x.length≤1048576:=by
  refine⟨hs.m.len,?_⟩
  obtain⟨ht,lk0,hm⟩:=id hs.m
  exact Hea.memC_bd hm
end
def Cf.withX (C:Cf) (x:List Int):Cf := { C with x:=x }
theorem each_ok (k:Int) (hk:k≠0):∀ (m:Nat) (M:Mm) (a:Nat),(∀ j,j<m→M.x.getD (a+j) 0=k)→a+m≤M.x.length→∃ lk,Mm.each k m M (a:Int)=(true,{ M with lk:=lk })
  | 0,M,a,_,_=>⟨M.lk,rfl⟩
  | m+1,M,a,h,hl=>by
    have h1:Wat.lookA M.x (a:Int) 1 k=true:=Mem.look_iff (n:=1).2 ⟨by decide,by omega,by omega,hk,fun j hj=>h j (by omega)⟩
    obtain⟨lk,hlk⟩:=each_ok k hk m (M.ticked true) (a+1) (fun j hj=>by
      have:=h (j+1) (by omega)
      rw[show a+1+j=a+(j+1) by omega]
      exact this) (by show a+1+m≤M.x.length;omega)
    refine⟨lk,?_⟩
    rw[Mm.each,if_pos h1,show ((a:Int)+1)=((a+1:Nat):Int) by omega,hlk]
    rfl
theorem look_ok {M:Mm} {a n:Nat} {k:Int} (hk:k≠0) (h:∀ j,j<n→M.x.getD (a+j) 0=k) (hl:a+n≤M.x.length) (he:M.x.length=M.l.length):∃ lk,M.look a n k=(true,{ M with lk:=lk }):=by
  obtain⟨lk,hlk⟩:=each_ok k hk n M a h hl
  refine⟨lk,?_⟩
  rw[Mm.look,if_pos (Arn.fitB_of (by omega)),Int.toNat_natCast,hlk]
theorem SM.mark {h:Hm} {C:Cf} {l:List Int} {w:World} (hs:SM h C l w) (a n:Nat) (k:Int) (ha:a+n≤C.x.length) (h4:a % 4=0) (n4:n % 4=0) (k1:1≤k) (k8:k≤8) :
    Calls Tryz.prog 243 #[pV h,.int .i64 (a:Int),.int .i64 (n:Int),.int .i64 k] w (SR h (Cf.withX C (wrL C.x a (List.replicate n k))) l (.int .i64 0) w):=by
  have hx:=hs.xlen
  obtain⟨ht,lk0,hm⟩:=id hs.m
  refine(Mem.mark_any h _ (C.mm l lk0) a n k w hm (by unfold Arn.is64;omega)).mono ?_
  intro e w' hq
  rw[Mm.mark,show (C.mm l lk0).x=C.x from rfl,Mem.mark_yes ha h4 n4 (by omega) k8] at hq
  exact hs.mret (C':=Cf.withX C (wrL C.x a (List.replicate n k))) (lk:=lk0) hq
theorem SM.zero {h:Hm} {C:Cf} {l:List Int} {w:World} (hs:SM h C l w) (a n:Nat) (k:Int) (ha:a+n≤C.x.length) (k1:1≤k) (hk:∀ j,j<n→C.x.getD (a+j) 0=k) :
    Calls Tryz.prog 244 #[pV h,.int .i64 (a:Int),.int .i64 (n:Int),.int .i64 k] w (SR h C (wrL l a (List.replicate n 0)) (.bool true) w):=by
  have hx:=hs.xlen
  obtain⟨ht,lk0,hm⟩:=id hs.m
  refine(Mem.zero_any h _ (C.mm l lk0) a n k w hm (by unfold Arn.is64;omega) (by unfold Arn.is64;omega)).mono ?_
  intro e w' hq
  obtain⟨lk,hlk⟩:=look_ok (M:=C.mm l lk0) (show k≠0 by omega) hk ha hm.lenx
  rw[Mm.zero,hlk,if_pos rfl,Int.toNat_natCast,Int.toNat_natCast] at hq
  exact hs.mret (lk:=lk) hq
theorem SM.blank {h:Hm} {C:Cf} {l:List Int} {w:World} (hs:SM h C l w) (a n:Nat) (k:Int) (ha:a+n≤C.x.length) (h4:a % 4=0) (n4:n % 4=0) (k1:1≤k) (k8:k≤8) :
    Calls Tryz.prog 203 #[pV h,.int .i64 (a:Int),.int .i64 (n:Int),.int .i64 k] w (SR h (Cf.withX C (wrL C.x a (List.replicate n k))) (wrL l a (List.replicate n 0)) (.tuple #[]) w):=by
  have H1:=Lib.hid (hs.mark a n k ha h4 n4 k1 k8)
  have H2:=Lib.hid (fun W (hW:SM h (Cf.withX C (wrL C.x a (List.replicate n k))) l W)=>hW.zero a n k (by show a+n≤(wrL C.x a (List.replicate n k)).length;rw[rep_length ha];exact ha) k1 (fun j hj=>(Mem.wr_rep _ _ _ _ _ ha).trans (if_pos (by omega))))
  generalize Cf.withX C (wrL C.x a (List.replicate n k))=C' at H1 H2 ⊢
  generalize wrL l a (List.replicate n 0)=l' at H1 H2 ⊢
  clear hs ha h4 n4 k1 k8
  go_enter Tryz.func203,Tryz.ntmps203
  go_wp2_with fail
  refine H1.out.mono ?_
  rintro e w1 ⟨rfl,hm1,hf1⟩
  have HF:=Lib.hid hf1
  clear hf1 H1
  go_wp2_with fail
  refine(H2.out _ hm1).mono ?_
  rintro e w2 ⟨rfl,hm2,hf2⟩
  have HG:Hid (SM h C' l' w2∧Fr w.heap.size (blkM h) w w2):=⟨hm2,HF.out.trans (hf2.mono HF.out.size (fun _ _ q=>q))⟩
  clear hm1 hm2 hf2 H2 HF
  go_wp2
  refine bodyPost_end (results_none rfl _ _ _) rfl ⟨rfl,HG.out.1,HG.out.2⟩
def bCells (h:Hm) (j c a nx:Nat):Array Value := #[pV h,.int .i64 (j:Int),.int .i64 (c:Int),.int .i64 (a:Int),.int .i64 (nx:Int)]
def bV (h:Hm) (j c a nx:Nat):Value:=.agg (bCells h j c a nx)
structure BX (w:World) (h:Hm) (C:Cf) (l:List Int) (N j c a nx:Nat) (W:World):Prop where
  m:SM h C l W
  b:W.heap[N]? = some (.cells (bCells h j c a nx) 153 (0,0))
  n:¬ blkM h N
  f:Fr w.heap.size (blkM h) w W
section
variable {w W W':World} {h:Hm} {C C':Cf} {l l':List Int} {N j c a nx:Nat} {r:Value} {e:Ending}
theorem BX.made (hs:SM h C l w) (j c a nx:Nat):BX w h C l w.heap.size j c a nx (w.alloc (.cells (bCells h j c a nx) 153)) :=
  ⟨hs.below (below_made _ _),heap_alloc_new _ _,fun q=>by have:=hs.m.lt _ q;omega,Fr.of_below (below_made _ _)⟩
theorem BX.lt (d:BX w h C l N j c a nx W):N<W.heap.size:=(Array.getElem?_eq_some_iff.1 d.b).1
theorem BX.below (d:BX w h C l N j c a nx W) (hb:Below W.heap.size W W'):BX w h C l N j c a nx W':=⟨d.m.below hb,(hb.block _ d.lt).trans d.b,d.n,d.f.trans ((Fr.of_below hb).mono d.f.size (fun _ _ q=>q))⟩
theorem BX.drew (d:BX w h C l N j c a nx W):BX w h C l N j c a nx W.drew:=d.below (Below.refl _ _).drew
theorem BX.sr (d:BX w h C l N j c a nx W) (hr:SR h C' l' r W e W'):BX w h C' l' N j c a nx W':=⟨hr.2.1,(hr.2.2.block _ d.lt d.n).trans d.b,d.n,d.f.trans (hr.2.2.mono d.f.size (fun _ _ q=>q))⟩
theorem BX.cells (d:BX w h C l N j c a nx W):W.cell? ⟨N,0,none⟩=some (pV h)∧W.cell? ⟨N,1,none⟩=some (.int .i64 (j:Int))∧W.cell? ⟨N,2,none⟩=some (.int .i64 (c:Int))∧W.cell? ⟨N,3,none⟩=some (.int .i64 (a:Int))∧W.cell? ⟨N,4,none⟩=some (.int .i64 (nx:Int)) :=
  ⟨(cell_block d.b 0).trans rfl,(cell_block d.b 1).trans rfl,(cell_block d.b 2).trans rfl,(cell_block d.b 3).trans rfl,(cell_block d.b 4).trans rfl⟩
theorem BX.sr' (d:BX w h C l N j c a nx W) (r:Value):SR h C l r w (.returned r) W:=⟨rfl,d.m,d.f⟩
end
set_option maxRecDepth 100000 in
theorem size_any (p:Value) (j c a nx:Int) (w:World) (ht:Cls.Tab w) :
    Calls Tryz.prog 204 #[.agg #[p,.int .i64 j,.int .i64 c,.int .i64 a,.int .i64 nx]] w fun e w'=>e = .returned (.int .i64 (szC c))∧Below w.heap.size w w':=by
  have hb:=below_made w (.cells #[p,.int .i64 j,.int .i64 c,.int .i64 a,.int .i64 nx] 153)
  have HS:=Lib.hid (fun W (hW:Cls.Tab W)=>Cls.size_any c W hW)
  have HT:=Lib.hid (tab_keep hb ht)
  have c2:=(cell_block (heap_alloc_new w (.cells #[p,.int .i64 j,.int .i64 c,.int .i64 a,.int .i64 nx] 153)) 2).trans rfl
  have HB:=Lib.hid hb
  clear hb ht
  go_enter Tryz.func204,Tryz.ntmps204
  go_wp2_with fail
  refine(HS.out _ HT.out).mono ?_
  rintro e w1 ⟨rfl,rfl⟩
  go_wp2
  go_ret
  exact⟨rfl,HB.out⟩
set_option maxRecDepth 100000 in
theorem kind_any (h:Hm) (C:Cf) (l:List Int) (j c a nx:Nat) (w:World) (hs:SM h C l w) (ha:a≤2000000) :
    Calls Tryz.prog 121 #[bV h j c a nx] w fun e w'=>e = .returned (.int .i64 (Wat.kndA C.x a 4))∧Below w.heap.size w w':=by
  have hb:=below_made w (.cells (bCells h j c a nx) 153)
  have hd:=BX.made hs j c a nx
  obtain⟨c0,c1,c2,c3,c4⟩:=hd.cells
  have hk:Calls Tryz.prog 35 #[pV h,.int .i64 (a:Int),.int .i64 4] (w.alloc (.cells (bCells h j c a nx) 153)) fun e w'=>e = .returned (.int .i64 (Wat.kndA C.x a 4))∧Below (w.alloc (.cells (bCells h j c a nx) 153)).heap.size (w.alloc (.cells (bCells h j c a nx) 153)) w':=by
    obtain⟨-,lk,hm⟩:=id hd.m.m
    exact Mem.kind_any h _ _ a 4 _ hm (by unfold Arn.is64;omega)
  have HK:=Lib.hid hk
  have HB:=Lib.hid hb
  clear hk hb hd hs
  unfold bV
  unfold bCells at HK HB c0 c1 c2 c3 c4 ⊢
  unfold pV at HK HB c0 c1 c2 c3 c4 ⊢
  go_enter Tryz.func121,Tryz.ntmps121
  go_wp2_with fail
  refine HK.out.mono ?_
  rintro e w1 ⟨rfl,hb1⟩
  go_wp2
  go_ret
  exact⟨rfl,HB.out.trans (hb1.mono HB.out.size)⟩
end Go.Proofs.YtmgeiaglandedaaGreatDoor.Sla

namespace Go.Proofs.YtmgeiaglandedaaGreatDoor.Sla
open Go.RowKit Num
open Mem (Mm MemC MRet Hm rd blkM)
open Lis (Cf LM LR Tb)
open Cls (szC blC pdC)
open Arn (wrL)
set_option linter.unusedVariables false
theorem BX.size {w W:World} {h:Hm} {C:Cf} {l:List Int} {N j c a nx:Nat} (d:BX w h C l N j c a nx W) :
    Calls Tryz.prog 204 #[.agg #[pV h,.int .i64 (j:Int),.int .i64 (c:Int),.int .i64 (a:Int),.int .i64 (nx:Int)]] W fun e W'=>e = .returned (.int .i64 (szC c))∧BX w h C l N j c a nx W':=by
  refine(size_any _ j c a nx W d.m.m.1.c).mono ?_
  rintro e W' ⟨rfl,hb⟩
  exact⟨rfl,d.below hb⟩
theorem BX.blank {w W:World} {h:Hm} {C:Cf} {l:List Int} {N j c a nx:Nat} (d:BX w h C l N j c a nx W) (k:Int) (ha:a+szC c≤C.x.length) (h4:a % 4=0) (k1:1≤k) (k8:k≤8) :
    Calls Tryz.prog 203 #[pV h,.int .i64 (a:Int),.int .i64 (szC c:Int),.int .i64 k] W fun e W'=>e = .returned (.tuple #[])∧BX w h (Cf.withX C (wrL C.x a (List.replicate (szC c) k))) (wrL l a (List.replicate (szC c) 0)) N j c a nx W':=by
  refine(d.m.blank a (szC c) k ha h4 (by have:=(sz_mod c).1;omega) k1 k8).mono ?_
  intro e W' hr
  exact⟨hr.1,d.sr hr⟩
def fB (nx:Nat):Hea.Blk := { Hea.Blk.zero with name:=nx }
theorem fB_enc (nx:Nat):Hea.encL (fB nx)=fr nx:=by simp[Hea.encL,fB,Hea.Blk.zero,fr,Hea.p1]
theorem fB_ok {nx:Nat} (h:nx<4294967296):(fB nx).Ok:=by
  constructor<;>simp[fB,Hea.Blk.zero,Hea.i64,Hea.u32,Hea.u64,Hea.u16]
  omega
theorem fB_right (nx:Nat):Hea.RightP (fB nx):=.inl ⟨rfl,rfl,rfl,rfl,rfl,rfl,rfl,rfl,rfl,rfl,rfl⟩
theorem SM.put {W:World} {h:Hm} {C:Cf} {l:List Int} (d:SM h C l W) {a:Nat} (b:Hea.Blk) (hb:b.Ok) (hr:Hea.RightP b) (hro:∀ lk,Hea.Room (C.mm l lk) a b.tag) :
    Calls Tryz.prog 86 #[pV h,.int .i64 (a:Int),b.agg] W (SR h C (wrL l a (Hea.encL b)) (.int .i64 0) W):=by
  obtain⟨ht,lk0,hm⟩:=id d.m
  refine(Hea.put_any h _ (C.mm l lk0) a b W d.t hm hb hr (hro lk0)).mono ?_
  rintro e w' ⟨lk,hq⟩
  exact d.mret (lk:=lk) hq
theorem room_free {C:Cf} {l:List Int} {a:Nat} (ha:a+8≤C.x.length) (h8:a % 8=0) (hk:∀ i,i<8→C.x.getD (a+i) 0=6) (lk:Int):Hea.Room (C.mm l lk) a 0:=⟨by omega,h8,ha,hk⟩
theorem BX.put {w W:World} {h:Hm} {C:Cf} {l:List Int} {N j c a nx:Nat} (d:BX w h C l N j c a nx W) (ha:a+8≤C.x.length) (h8:a % 8=0) (hk:∀ i,i<8→C.x.getD (a+i) 0=6) (hnx:nx<4294967296) :
    Calls Tryz.prog 86 #[pV h,.int .i64 (a:Int),.agg #[.int .i64 0,.int .i64 0,.bool false,.int .i64 0,.int .u32 (nx:Int),.int .u32 0,.int .u32 0,.int .u32 0,.int .u64 0,.int .u16 0,.int .i64 0,.int .u32 0]] W fun e W'=>e = .returned (.int .i64 0)∧BX w h C (wrL l a (fr nx)) N j c a nx W':=by
  refine(d.m.put (a:=a) (fB nx) (fB_ok hnx) (fB_right nx) (fun lk=>room_free ha h8 hk lk)).mono ?_
  intro e W' hr
  rw[fB_enc] at hr
  exact⟨hr.1,d.sr hr⟩
set_option maxRecDepth 100000 in
set_option maxHeartbeats 4000000 in
theorem live_any (h:Hm) (C:Cf) (l:List Int) (j c a nx:Nat) (w:World) (hs:SM h C l w) (ha:a+szC c≤C.x.length) (h4:a % 4=0) :
    Calls Tryz.prog 114 #[bV h j c a nx] w (SR h (Cf.withX C (wrL C.x a (List.replicate (szC c) 5))) (wrL l a (List.replicate (szC c) 0)) (.tuple #[]) w):=by
  have HSz:=Lib.hid (fun W (d:BX w h C l w.heap.size j c a nx W)=>d.size)
  have HBl:=Lib.hid (fun W (d:BX w h C l w.heap.size j c a nx W)=>d.blank 5 ha h4 (by omega) (by omega))
  have hm:=BX.made hs j c a nx
  obtain⟨c0,c1,c2,c3,c4⟩:=hm.cells
  generalize Cf.withX C (wrL C.x a (List.replicate (szC c) 5))=C' at HBl ⊢
  generalize wrL l a (List.replicate (szC c) 0)=l' at HBl ⊢
  generalize szC (c:Int)=z at HSz HBl
  clear hs ha h4
  unfold bV
  unfold bCells at hm ⊢
  unfold pV at *
  go_enter Tryz.func114,Tryz.ntmps114
  go_wp2_with fail
  go_region_held3 (fun w'=>w'.cell? ⟨w.heap.size,0,none⟩=some (.pointer (some ⟨h.g,0,none⟩))∧w'.cell? ⟨w.heap.size,1,none⟩=some (.int .i64 (j:Int))∧w'.cell? ⟨w.heap.size,2,none⟩=some (.int .i64 (c:Int))∧w'.cell? ⟨w.heap.size,3,none⟩=some (.int .i64 (a:Int))∧w'.cell? ⟨w.heap.size,4,none⟩=some (.int .i64 (nx:Int))) (first | exact⟨c0,c1,c2,c3,c4⟩ | go_keep) ((first | (go_at_call 204;refine(HSz.out _ (by first | exact hm | exact hm.drew)).mono ?_;rintro e w1 ⟨rfl,hm1⟩;replace hm:=hm1;obtain⟨c0,c1,c2,c3,c4⟩:=hm1.cells;clear hm1) | (go_at_call 203;refine(HBl.out _ (by first | exact hm | exact hm.drew)).mono ?_;rintro e w1 ⟨rfl,hm1⟩;replace hm:=hm1;obtain⟨c0,c1,c2,c3,c4⟩:=hm1.cells;clear hm1)))
  have HG:=Lib.hid (hm.sr' (.tuple #[]))
  clear hm
  go_wp2
  refine bodyPost_end (results_none rfl _ _ _) rfl HG.out
set_option maxRecDepth 100000 in
set_option maxHeartbeats 4000000 in
theorem dissolve_any (h:Hm) (C:Cf) (l:List Int) (j c a nx:Nat) (w:World) (hs:SM h C l w) (ha:a+szC c≤C.x.length) (h4:a % 4=0) :
    Calls Tryz.prog 214 #[bV h j c a nx] w (SR h (Cf.withX C (wrL C.x a (List.replicate (szC c) 7))) (wrL l a (List.replicate (szC c) 0)) (.tuple #[]) w):=by
  have HSz:=Lib.hid (fun W (d:BX w h C l w.heap.size j c a nx W)=>d.size)
  have HBl:=Lib.hid (fun W (d:BX w h C l w.heap.size j c a nx W)=>d.blank 7 ha h4 (by omega) (by omega))
  have hm:=BX.made hs j c a nx
  obtain⟨c0,c1,c2,c3,c4⟩:=hm.cells
  generalize Cf.withX C (wrL C.x a (List.replicate (szC c) 7))=C' at HBl ⊢
  generalize wrL l a (List.replicate (szC c) 0)=l' at HBl ⊢
  generalize szC (c:Int)=z at HSz HBl
  clear hs ha h4
  unfold bV
  unfold bCells at hm ⊢
  unfold pV at *
  go_enter Tryz.func214,Tryz.ntmps214
  go_wp2_with fail
  go_region_held3 (fun w'=>w'.cell? ⟨w.heap.size,0,none⟩=some (.pointer (some ⟨h.g,0,none⟩))∧w'.cell? ⟨w.heap.size,1,none⟩=some (.int .i64 (j:Int))∧w'.cell? ⟨w.heap.size,2,none⟩=some (.int .i64 (c:Int))∧w'.cell? ⟨w.heap.size,3,none⟩=some (.int .i64 (a:Int))∧w'.cell? ⟨w.heap.size,4,none⟩=some (.int .i64 (nx:Int))) (first | exact⟨c0,c1,c2,c3,c4⟩ | go_keep) ((first | (go_at_call 204;refine(HSz.out _ (by first | exact hm | exact hm.drew)).mono ?_;rintro e w1 ⟨rfl,hm1⟩;replace hm:=hm1;obtain⟨c0,c1,c2,c3,c4⟩:=hm1.cells;clear hm1) | (go_at_call 203;refine(HBl.out _ (by first | exact hm | exact hm.drew)).mono ?_;rintro e w1 ⟨rfl,hm1⟩;replace hm:=hm1;obtain⟨c0,c1,c2,c3,c4⟩:=hm1.cells;clear hm1)))
  have HG:=Lib.hid (hm.sr' (.tuple #[]))
  clear hm
  go_wp2
  refine bodyPost_end (results_none rfl _ _ _) rfl HG.out
set_option maxRecDepth 100000 in
set_option maxHeartbeats 4000000 in
theorem free_any (h:Hm) (C:Cf) (l:List Int) (j c a nx:Nat) (w:World) (hs:SM h C l w) (ha:a+szC c≤C.x.length) (h8:a % 8=0) (h32:32≤szC c) (hnx:nx<4294967296) :
    Calls Tryz.prog 123 #[bV h j c a nx] w (SR h (Cf.withX C (wrL C.x a (List.replicate (szC c) 6))) (wrF l a (szC c) nx) (.tuple #[]) w):=by
  have HSz:=Lib.hid (fun W (d:BX w h C l w.heap.size j c a nx W)=>d.size)
  have HBl:=Lib.hid (fun W (d:BX w h C l w.heap.size j c a nx W)=>d.blank 6 ha (by omega) (by omega) (by omega))
  have hput:=fun W (d:BX w h (Cf.withX C (wrL C.x a (List.replicate (szC c) 6))) (wrL l a (List.replicate (szC c) 0)) w.heap.size j c a nx W)=>d.put (by show a+8≤(wrL C.x a (List.replicate (szC c) 6)).length;rw[rep_length ha];omega) h8 (fun i hi=>by show (wrL C.x a (List.replicate (szC c) 6)).getD (a+i) 0=6;rw[Mem.wr_rep _ _ _ _ _ ha,if_pos (by omega)]) hnx
  have HPu:=Lib.hid hput
  have hu:IntKind.u32.wrap (nx:Int)=(nx:Int):=Lis.u32_id (by omega) (by omega)
  have hm:=BX.made hs j c a nx
  obtain⟨c0,c1,c2,c3,c4⟩:=hm.cells
  generalize Cf.withX C (wrL C.x a (List.replicate (szC c) 6))=C' at HBl HPu ⊢
  rw[show wrL (wrL l a (List.replicate (szC (c:Int)) 0)) a (fr (nx:Int))=wrF l a (szC c) nx from rfl] at HPu
  generalize wrF l a (szC (c:Int)) nx=l2 at HPu ⊢
  generalize wrL l a (List.replicate (szC (c:Int)) 0)=l' at HBl HPu
  generalize szC (c:Int)=z at HSz HBl
  clear hs ha h8 h32 hnx hput
  unfold bV
  unfold bCells at hm ⊢
  unfold pV at *
  go_enter Tryz.func123,Tryz.ntmps123
  go_wp2_with fail
  go_region_held3 (fun w'=>w'.cell? ⟨w.heap.size,0,none⟩=some (.pointer (some ⟨h.g,0,none⟩))∧w'.cell? ⟨w.heap.size,1,none⟩=some (.int .i64 (j:Int))∧w'.cell? ⟨w.heap.size,2,none⟩=some (.int .i64 (c:Int))∧w'.cell? ⟨w.heap.size,3,none⟩=some (.int .i64 (a:Int))∧w'.cell? ⟨w.heap.size,4,none⟩=some (.int .i64 (nx:Int))) (first | exact⟨c0,c1,c2,c3,c4⟩ | go_keep) ((first | (go_at_call 204;refine(HSz.out _ (by first | exact hm | exact hm.drew)).mono ?_;rintro e w1 ⟨rfl,hm1⟩;replace hm:=hm1;obtain⟨c0,c1,c2,c3,c4⟩:=hm1.cells;clear hm1) | (go_at_call 203;refine(HBl.out _ (by first | exact hm | exact hm.drew)).mono ?_;rintro e w1 ⟨rfl,hm1⟩;replace hm:=hm1;obtain⟨c0,c1,c2,c3,c4⟩:=hm1.cells;clear hm1)))
  go_wp2_with fail
  refine(HPu.out _ hm).mono ?_
  rintro e w1 ⟨rfl,hm1⟩
  have HG:=Lib.hid (hm1.sr' (.tuple #[]))
  clear hm hm1 HPu HBl HSz
  go_wp2
  refine bodyPost_end (results_none rfl _ _ _) rfl HG.out
end Go.Proofs.YtmgeiaglandedaaGreatDoor.Sla

namespace Go.Proofs.YtmgeiaglandedaaGreatDoor.Sla
open Go.RowKit Num
open Mem (Mm MemC MRet Hm rd blkM)
open Lis (Cf LM LR Tb at_ Nx Pv Rep Hx)
open Cls (szC blC pdC)
open Arn (wrL)
set_option linter.unusedVariables false
def aT (S N j:Nat):Nat:=Lay.baseT S N+1024*j
theorem ok_base {C:Cf} (hC:C.Ok):128+16*C.s≤Lay.baseT C.s C.n∧Lay.baseT C.s C.n % 16=0∧Lay.sizeT C.s C.n=Lay.baseT C.s C.n+1024*C.s∧Lay.sizeT C.s C.n≤100000:=by
  obtain⟨q1,q2,q3,q4,q5⟩:=Lay.right_out hC.right
  have h2:C.n % 2=0:=by omega
  obtain⟨b1,b2,b3⟩:=Lay.base_sixteen (s:=C.s) (n:=C.n) h2
  unfold Lay.sizeT
  unfold Lay.endT at b2 b3
  omega
structure Sx (l0:List Int) (C:Cf) (l:List Int) (H:List Hx) (L:List Int) (T:List Sl):Prop where
  ok:C.Ok
  rep:Rep C.s l l H L
  xl:C.x.length=Lay.sizeT C.s C.n
  ll:l.length=Lay.sizeT C.s C.n
  tl:T.length=C.s
  low:∀ t,t<Lay.baseT C.s C.n→(t<20∨60≤t∧t<128∨128+16*C.s≤t)→l.getD t 0=l0.getD t 0
  xlow:∀ t,t<Lay.baseT C.s C.n→C.x.getD t 0=Mem.kindT C.s C.n t
  sl:∀ j,j<C.s→SlabOk l C.x (aT C.s C.n j) (T.getD j Sl.zero)
theorem rep_self {S:Nat} {l l':List Int} {H:List Hx} {L:List Int} (h:Rep S l l' H L):Rep S l' l' H L:=⟨h.room,rfl,h.len,h.hlen,h.cls,h.hok,fun _ _=>rfl,h.root,h.head,h.nxt,h.prv⟩
theorem rd_agree {l l':List Int} {a n:Nat} (hl:l'.length=l.length) (h:∀ t,a≤t→t<a+n→l'.getD t 0=l.getD t 0):rd l' a n=rd l a n:=by
  have e:(l'.drop a).take n=(l.drop a).take n:=by
    refine Mem.list_of_getD (by simp[hl]) (fun i hi=>?_)
    have h1:i<n:=by simp at hi;omega
    have:=h (a+i) (by omega) (by omega)
    simp[List.getD,h1] at this ⊢
    exact this
  unfold rd
  rw[e]
theorem rep_low {S:Nat} {l l':List Int} {H:List Hx} {L:List Int} (h:Rep S l l H L) (hl:l'.length=l.length) (hlow:∀ t,t<128+16*S→l'.getD t 0=l.getD t 0):Rep S l' l' H L:=by
  refine⟨by rw[hl];exact h.room,rfl,h.len,h.hlen,h.cls,h.hok,fun _ _=>rfl,fun c hc=>?_,fun j hj=>?_,fun j hj=>?_,fun j hj=>?_⟩
  · obtain⟨v,h1,h2⟩:=h.root c hc
    exact⟨v,(rd_agree hl (fun t _ _=>hlow t (by omega))).trans h1,h2⟩
  · obtain⟨h1,h2,h3⟩:=h.head j hj
    exact⟨(rd_agree hl (fun t _ _=>hlow t (by omega))).trans h1,(rd_agree hl (fun t _ _=>hlow t (by omega))).trans h2,(rd_agree hl (fun t _ _=>hlow t (by omega))).trans h3⟩
  · obtain⟨v,h1,h2⟩:=h.nxt j hj
    exact⟨v,(rd_agree hl (fun t _ _=>hlow t (by omega))).trans h1,h2⟩
  · obtain⟨v,h1,h2⟩:=h.prv j hj
    exact⟨v,(rd_agree hl (fun t _ _=>hlow t (by omega))).trans h1,h2⟩
theorem Sx.lists {l0 l l':List Int} {C:Cf} {H H':List Hx} {L L':List Int} {T:List Sl} (hx:Sx l0 C l H L T) (hr:Rep C.s l l' H' L'):Sx l0 C l' H' L' T∧∀ t,128+16*C.s≤t→l'.getD t 0=l.getD t 0:=by
  have hb:=ok_base hx.ok
  have hup:∀ t,128+16*C.s≤t→l'.getD t 0=l.getD t 0:=fun t ht=>hr.rest t (by omega)
  refine⟨⟨hx.ok,rep_self hr,hx.xl,hr.llen.trans hx.ll,hx.tl,fun t h1 h2=>(hr.rest t h2).trans (hx.low t h1 h2),hx.xlow,fun j hj=>?_⟩,hup⟩
  exact(hx.sl j hj).same (fun t h1 h2=>⟨hup t (by unfold aT at h1;omega),rfl⟩)
theorem withX_ok {C:Cf} {x':List Int} (hC:C.Ok) (hl:x'.length=C.x.length) (hlow:∀ t,t<128+16*C.s→x'.getD t 0=C.x.getD t 0):(Cf.withX C x').Ok:=by
  have hlo:=hC.lo
  refine⟨hC.lo,hC.hi,hC.right,by show _≤x'.length;rw[hl];exact hC.len,by show x'.length≤_;rw[hl];exact hC.big,fun j h1 h2=>?_,fun j h1 h2=>?_⟩
  · show x'.getD j 0=2
    rw[hlow j (by omega)]
    exact hC.root j h1 h2
  · show x'.getD j 0=3
    rw[hlow j h2]
    exact hC.head j h1 h2
theorem Sx.slab {l0 l l' x':List Int} {C:Cf} {H:List Hx} {L:List Int} {T:List Sl} (hx:Sx l0 C l H L T) {j:Nat} (hj:j<C.s) {s:Sl} (ho:Out (aT C.s C.n j) 1024 l l' C.x x') (hs:SlabOk l' x' (aT C.s C.n j) s) :
    Sx l0 (Cf.withX C x') l' H L (T.set j s):=by
  have hb:=ok_base hx.ok
  refine⟨withX_ok hx.ok ho.lx (fun t ht=>ho.x t (by unfold aT;omega)),rep_low (S:=C.s) hx.rep ho.ll (fun t ht=>ho.l t (by unfold aT;omega)),ho.lx.trans hx.xl,ho.ll.trans hx.ll,by rw[List.length_set];exact hx.tl,
    fun t h1 h2=>(ho.l t (by unfold aT;left;show t<_;exact Nat.lt_of_lt_of_le h1 (Nat.le_add_right _ _))).trans (hx.low t h1 h2),fun t h1=>(ho.x t (by unfold aT;left;show t<_;exact Nat.lt_of_lt_of_le h1 (Nat.le_add_right _ _))).trans (hx.xlow t h1),fun k hk=>?_⟩
  show SlabOk l' x' (aT C.s C.n k) _
  have hk':k<C.s:=hk
  rw[Lis.getD_set T j k s Sl.zero (by rw[hx.tl];exact hj)]
  by_cases e:k=j
  · subst e
    rw[if_pos rfl]
    exact hs
  · rw[if_neg e]
    refine(hx.sl k hk').same (fun t h1 h2=>?_)
    have hne:t<aT C.s C.n j∨aT C.s C.n j+1024≤t:=by unfold aT at h1 h2 ⊢;omega
    exact⟨ho.l t hne,ho.x t hne⟩
structure Sb (h:Hm) (S N:Nat) (l0 l:List Int) (H:List Hx) (L:List Int) (T:List Sl) (W:World):Prop where
  ex:∃ C:Cf,C.s=S∧C.n=N∧(h.z=false→C.ft=0)∧SM h C l W∧Sx l0 C l H L T
def Sm (h:Hm) (S N:Nat) (W:World):Prop:=∃ (C:Cf) (l:List Int),C.s=S∧C.n=N∧C.Ok∧SM h C l W
def SbR (h:Hm) (S N:Nat) (l0 l:List Int) (H:List Hx) (L:List Int) (T:List Sl) (r:Value) (w:World) (e:Ending) (w':World):Prop:=e = .returned r∧Sb h S N l0 l H L T w'∧Fr w.heap.size (blkM h) w w'
section
variable {h:Hm} {S N:Nat} {l0 l l':List Int} {H H':List Hx} {L L':List Int} {T T':List Sl} {w w1 w2 w' W:World} {r r':Value} {e e':Ending}
theorem Sb.below (d:Sb h S N l0 l H L T w) (hb:Below w.heap.size w w'):Sb h S N l0 l H L T w':=by
  obtain⟨C,h1,h2,h3,h4,h5⟩:=d
  exact⟨C,h1,h2,h3,h4.below hb,h5⟩
theorem Sb.only(d:Sb h S N l0 l H L T w) (hb:Below w.heap.size w w') (r:Value):SbR h S N l0 l H L T r w (.returned r) w':=⟨rfl,d.below hb,Fr.of_below hb⟩
theorem Sb.sm (d:Sb h S N l0 l H L T w):Sm h S N w:=by
  obtain⟨C,h1,h2,h3,h4,h5⟩:=d
  exact⟨C,l,h1,h2,h5.ok,h4⟩
theorem Sm.config (d:Sm h S N w):Calls Tryz.prog 147 #[pV h] w fun e w'=>e = .returned (.agg #[.int .i64 (S:Int),.int .i64 (N:Int)])∧Below w.heap.size w w':=by
  obtain⟨C,l,rfl,rfl,h3,h4⟩:=d
  exact h4.m.config
theorem Sm.cls (d:Sm h S N w):Cls.Tab w:=by
  obtain⟨C,l,rfl,rfl,h3,h4⟩:=d
  exact h4.m.1.c
theorem slabC_at {S N j:Nat} (hr:Lay.rightC (S:Int) (N:Int)=true) (hj:j<S):Lay.slabC (S:Int) (N:Int) (j:Int)=aT S N j:=by
  rw[Lay.slabC,if_pos ⟨hr,by omega,by omega⟩]
  rfl
theorem Sm.slabAt (d:Sm h S N w) {j:Nat} (hj:j<S):Calls Tryz.prog 242 #[.agg #[.int .i64 (S:Int),.int .i64 (N:Int)],.int .i64 (j:Int)] w fun e w'=>e = .returned (.int .i64 (aT S N j:Int))∧Below w.heap.size w w':=by
  have hc:=d.cls
  obtain⟨C,l,rfl,rfl,h3,h4⟩:=d
  have hr:=h3.right
  obtain⟨q1,q2,q3,q4,q5⟩:=Lay.right_out hr
  have:=Lay.slabAt_any C.s C.n j w hc (by omega) (by omega) (by omega) (by omega) (by omega) (by omega)
  rw[slabC_at hr hj] at this
  exact this
theorem Sm.base (d:Sm h S N w) {j:Nat} (hj:j<S):aT S N j≤100000:=by
  obtain⟨C,l,rfl,rfl,h3,h4⟩:=d
  have:=ok_base h3
  unfold aT
  omega
theorem Sb.tl (d:Sb h S N l0 l H L T w):T.length=S∧L.length=S∧H.length=S∧7≤S∧S≤64:=by
  obtain⟨C,rfl,h2,h3,h4,h5⟩:=d
  exact⟨h5.tl,h5.rep.len,h5.rep.hlen,h5.ok.lo,h5.ok.hi⟩
theorem Sb.cls (d:Sb h S N l0 l H L T w):Cls.Tab w:=by
  obtain⟨C,rfl,h2,h3,h4,h5⟩:=d
  exact h4.m.1.c
theorem Sb.config (d:Sb h S N l0 l H L T w):Calls Tryz.prog 147 #[pV h] w fun e w'=>e = .returned (.agg #[.int .i64 (S:Int),.int .i64 (N:Int)])∧Below w.heap.size w w':=by
  obtain⟨C,rfl,rfl,h3,h4,h5⟩:=d
  exact h4.m.config
theorem Sb.right (d:Sb h S N l0 l H L T w):Lay.rightC (S:Int) (N:Int)=true:=by
  obtain⟨C,rfl,rfl,h3,h4,h5⟩:=d
  exact h5.ok.right
theorem Sb.faults (d:Sb h S N l0 l H L T w) (hz:h.z=false):Calls Tryz.prog 17 #[pV h] w fun e w'=>e = .returned (.int .i64 0)∧Below w.heap.size w w':=by
  obtain⟨C,rfl,rfl,h3,h4,h5⟩:=d
  obtain⟨-,lk,hm⟩:=h4.m
  have:=Mem.faults_any h _ (C.mm l lk) w hm
  rw[show (C.mm l lk).ft=C.ft from rfl,h3 hz] at this
  exact this
theorem Sb.slabAt (d:Sb h S N l0 l H L T w) {j:Nat} (hj:j<S):Calls Tryz.prog 242 #[.agg #[.int .i64 (S:Int),.int .i64 (N:Int)],.int .i64 (j:Int)] w fun e w'=>e = .returned (.int .i64 (aT S N j:Int))∧Below w.heap.size w w':=d.sm.slabAt hj
theorem Sb.get (d:Sb h S N l0 l H L T w) {j:Nat} (hj:j<S):∃ x p:Nat,Calls Tryz.prog 122 #[pV h,.int .i64 (j:Int)] w
    (SbR h S N l0 l H L T (.tuple #[.agg #[.int .i64 (H.getD j (0,0,0)).1,.int .i64 (H.getD j (0,0,0)).2.1,.int .u32 (H.getD j (0,0,0)).2.2,.int .i64 (x:Int),.int .i64 (p:Int)],.int .i64 0]) w):=by
  obtain⟨C,rfl,h2,h3,h4,h5⟩:=d
  refine⟨(Lis.nbX L j).1,(Lis.nbX L j).2,(Lis.get_any h C l j w h5.ok h4.m).mono ?_⟩
  intro e w' hq
  rw[Lis.gtH_is h5.rep,Lis.gtD,if_pos ⟨by omega,by omega⟩,Int.toNat_natCast,Lis.gtE,if_pos ⟨by omega,by omega⟩] at hq
  have hr:=h4.lr hq
  exact⟨hr.1,⟨C,rfl,h2,h3,hr.2.1,h5⟩,hr.2.2⟩
def Up (S N:Nat) (l l':List Int):Prop:=∀ t,Lay.baseT S N≤t→l'.getD t 0=l.getD t 0
theorem Up.trans {a b c:List Int} (h1:Up S N a b) (h2:Up S N b c):Up S N a c:=fun t ht=>(h2 t ht).trans (h1 t ht)
theorem Sb.set (d:Sb h S N l0 l H L T w) {j:Nat} (hj:j<S) {c v f:Nat} (hc:c≤9) (hv:v≤65535) (hf:f<4294967296):Calls Tryz.prog 205 #[pV h,.int .i64 (j:Int),.int .i64 (c:Int),.int .i64 (v:Int),.int .u32 (f:Int)] w
    fun e w'=>∃ l',SbR h S N l0 l' (H.set j ((c:Int),(v:Int),(f:Int))) L T (.int .i64 0) w e w'∧Up S N l l':=by
  obtain⟨C,rfl,rfl,h3,h4,h5⟩:=d
  refine(Lis.set_any h C l j c v f w h5.ok h4.m (by omega) (by omega)).mono ?_
  intro e w' hq
  have hE:Lis.stE C.s (j:Int) (c:Int) (v:Int)=0:=by
    unfold Lis.stE
    rw[if_pos ⟨by omega,by omega⟩,if_pos]
    simp[Lis.isL,Lis.okL]
    omega
  rw[Lis.stL,if_pos hE,hE,Int.toNat_natCast] at hq
  have hr:=h4.lr hq
  obtain⟨k1,k2⟩:=h5.lists (h5.rep.set hj (c:=c) (v:=v) (f:=f) (by omega) (by omega) (by omega))
  have hb:=ok_base h5.ok
  exact⟨_,⟨hr.1,⟨C,rfl,rfl,h3,hr.2.1,k1⟩,hr.2.2⟩,fun t ht=>k2 t (by omega)⟩
theorem ckB_ok {S j c:Nat} (hj:j<S) (hc:c<10):Lis.ckB S (c:Int) (j:Int)=0:=by
  rw[Lis.ckB,if_pos (by simp[Lis.isL];omega),Lis.ckS,if_pos ⟨by omega,by omega⟩]
theorem Sb.insert (d:Sb h S N l0 l H L T w) {j:Nat} (hj:j<S) {c:Nat} (hc:c≤9) (hL:at_ L j = -1):Calls Tryz.prog 126 #[pV h,.int .i64 (c:Int),.int .i64 (j:Int)] w
    fun e w'=>∃ l',SbR h S N l0 l' H (L.set j (c:Int)) T (.int .i64 0) w e w'∧Up S N l l':=by
  obtain⟨C,rfl,rfl,h3,h4,h5⟩:=d
  refine(Lis.insert_any h C l l H L c j w h5.ok h4.m h5.rep).mono ?_
  rintro e w' ⟨l',hq,hrp⟩
  have hE:Lis.inE C.s L (c:Int) (j:Int)=0:=by
    unfold Lis.inE
    rw[ckB_ok hj (by omega),if_pos rfl,Int.toNat_natCast,hL]
    rfl
  rw[Lis.inL,if_pos hE,Int.toNat_natCast] at hrp
  rw[hE] at hq
  have hr:=h4.lr hq
  obtain⟨k1,k2⟩:=h5.lists hrp
  have hb:=ok_base h5.ok
  exact⟨l',⟨hr.1,⟨C,rfl,rfl,h3,hr.2.1,k1⟩,hr.2.2⟩,fun t ht=>k2 t (by omega)⟩
theorem Sb.remove (d:Sb h S N l0 l H L T w) {j:Nat} (hj:j<S) {c:Nat} (hc:c≤9) (hL:at_ L j=(c:Int)):Calls Tryz.prog 116 #[pV h,.int .i64 (c:Int),.int .i64 (j:Int)] w
    fun e w'=>∃ l',SbR h S N l0 l' H (L.set j (-1)) T (.int .i64 0) w e w'∧Up S N l l':=by
  obtain⟨C,rfl,rfl,h3,h4,h5⟩:=d
  refine(Lis.remove_any h C l l H L c j w h5.ok h4.m h5.rep).mono ?_
  rintro e w' ⟨l',hq,hrp⟩
  have hE:Lis.rmE C.s L (c:Int) (j:Int)=0:=by
    unfold Lis.rmE
    rw[ckB_ok hj (by omega),if_pos rfl,Int.toNat_natCast,if_pos hL]
  rw[Lis.rmL,if_pos hE,Int.toNat_natCast] at hrp
  rw[hE] at hq
  have hr:=h4.lr hq
  obtain⟨k1,k2⟩:=h5.lists hrp
  have hb:=ok_base h5.ok
  exact⟨l',⟨hr.1,⟨C,rfl,rfl,h3,hr.2.1,k1⟩,hr.2.2⟩,fun t ht=>k2 t (by omega)⟩
theorem Sb.first (d:Sb h S N l0 l H L T w) {c v:Nat} (hc:c≤9) (hv:Nx L c 0 v):Calls Tryz.prog 200 #[pV h,.int .i64 (c:Int)] w (SbR h S N l0 l H L T (.int .i64 ((v:Int)-1)) w):=by
  obtain⟨C,rfl,rfl,h3,h4,h5⟩:=d
  refine(Lis.first_any h C l c w h5.ok h4.m).mono ?_
  intro e w' hq
  rw[Lis.fs_is h5.rep (by omega) hv] at hq
  have hr:=h4.lr hq
  exact⟨hr.1,⟨C,rfl,rfl,h3,hr.2.1,h5⟩,hr.2.2⟩
end
end Go.Proofs.YtmgeiaglandedaaGreatDoor.Sla

namespace Go.Proofs.YtmgeiaglandedaaGreatDoor.Sla
open Go.RowKit Num
open Mem (Mm MemC MRet Hm rd blkM)
open Lis (Cf LM LR Tb at_ Nx Pv Rep Hx)
open Cls (szC blC pdC)
open Arn (wrL)
set_option linter.unusedVariables false
theorem Sb.made {h:Hm} {S N:Nat} {l0 l:List Int} {H:List Hx} {L:List Int} {T:List Sl} {w:World} (d:Sb h S N l0 l H L T w):Calls Tryz.prog 110 #[pV h] w fun e w'=>e = .returned (.bool true)∧Below w.heap.size w w':=by
  have HC:=Lib.hid d.config
  have h7:=d.tl.2.2.2.1
  obtain⟨s,hs⟩:∃ s:Int,s=S:=⟨_,rfl⟩
  obtain⟨n,hn⟩:∃ n:Int,n=N:=⟨_,rfl⟩
  rw[←hs,←hn] at HC
  have h7:7≤s:=by omega
  have hq:∀ W,(Op.equalIn 10000 81 (.agg #[.int .i64 s,.int .i64 n]) (.agg #[.int .i64 0,.int .i64 0])).run Tryz.prog W = .ok false W:=fun W=>by
    rw[show (10000:Nat)=9999+1 from rfl,run_equalIn_struct W 9999 81 _ _ (by kernel_rfl) (by kernel_rfl)]
    go_simp
    intro e
    omega
  clear hs hn h7 d
  unfold pV at HC ⊢
  go_enter Tryz.func110,Tryz.ntmps110
  go_wp2_with fail
  refine HC.out.mono ?_
  rintro e w1 ⟨rfl,hb1⟩
  go_wp2
  go_ret
  exact⟨rfl,hb1⟩
set_option maxRecDepth 100000 in
theorem Sb.classOf {h:Hm} {S N:Nat} {l0 l:List Int} {H:List Hx} {L:List Int} {T:List Sl} {w:World} (d:Sb h S N l0 l H L T w) {j:Nat} (hj:j<S) :
    Calls Tryz.prog 246 #[pV h,.int .i64 (j:Int)] w (SbR h S N l0 l H L T (.int .i64 (H.getD j (0,0,0)).1) w):=by
  obtain⟨x,p,hg⟩:=d.get hj
  generalize H.getD j (0,0,0)=hd at hg ⊢
  obtain⟨c,v,f⟩:=hd
  simp only at hg ⊢
  have HG:=Lib.hid hg
  clear hg d
  unfold pV at HG ⊢
  go_enter Tryz.func246,Tryz.ntmps246
  go_wp2_with fail
  refine HG.out.mono ?_
  rintro e w1 ⟨rfl,hd1,hf1⟩
  have hal:=below_made w1 (.cells #[.int .i64 c,.int .i64 v,.int .u32 f,.int .i64 (x:Int),.int .i64 (p:Int)] 160)
  have c0:=(cell_block (heap_alloc_new w1 (.cells #[.int .i64 c,.int .i64 v,.int .u32 f,.int .i64 (x:Int),.int .i64 (p:Int)] 160)) 0).trans rfl
  have HE:Hid (SbR h S N l0 l H L T (.int .i64 c) w (.returned (.int .i64 c)) (w1.alloc (.cells #[.int .i64 c,.int .i64 v,.int .u32 f,.int .i64 (x:Int),.int .i64 (p:Int)] 160))):=⟨rfl,hd1.below hal,hf1.trans ((Fr.of_below hal).mono hf1.size (fun _ _ q=>q))⟩
  clear hd1 hf1 hal
  go_wp2
  go_ret
  exact HE.out
theorem plC_at {c:Int} {i:Nat} (hi:i<blC c):Cls.plC c (i:Int)=(i*szC c,0):=by
  have hz:¬ szC c=0:=fun e=>by rw[Cls.blC_no e] at hi;omega
  rw[Cls.plC,if_neg hz,if_neg (by omega),Int.toNat_natCast]
set_option maxRecDepth 100000 in
set_option maxHeartbeats 4000000 in
theorem each_any (h:Hm) (S N j c:Nat) (hj:j<S) (F:FuncId) (caps:Array Value) (hE:∀ args w,(callFunc F args).run Tryz.prog w = .ok (.enter F args) w) (I:Nat→World→Prop)
    (hI:∀ i W,I i W→Sm h S N W) (hM:∀ i W W',I i W→Below W.heap.size W W'→I i W')
    (hS:∀ i W,i<blC c→I i W→Calls Tryz.prog F (#[bV h j c (pl (aT S N j) c i) (nxt (aT S N j) c i)]++caps) W fun e W'=>e = .returned (.tuple #[])∧I (i+1) W')
    (w:World) (h0:I 0 w) :
    Calls Tryz.prog 248 #[pV h,.int .i64 (j:Int),.int .i64 (c:Int),.func (.func F) #[] caps] w fun e w'=>e = .returned (.tuple #[])∧I (blC c) w':=by
  have HI:=Lib.hid hI
  have HM:=Lib.hid hM
  have HCf:=Lib.hid (fun i W (hw:I i W)=>(hI i W hw).config)
  have HSA:=Lib.hid (fun i W (hw:I i W)=>(hI i W hw).slabAt hj)
  have HBk:=Lib.hid (fun i W (hw:I i W)=>Cls.blocks_any c W (hI i W hw).cls)
  have HPl:=Lib.hid (fun(i:Nat) (hi:i<blC c) W (hw:I i W)=>by have:=Cls.place_any c i W (hI i W hw).cls (by omega) (by have:=Cls.blC_bd c;omega);rw[plC_at hi] at this;exact this)
  have HSz:=Lib.hid (fun i W (hw:I i W) (a nx:Int)=>size_any (pV h) j c a nx W (hI i W hw).cls)
  have hbd:aT S N j≤100000:=(hI 0 w h0).base hj
  have HIn:=Lib.hid (fun i (hi:i<blC (c:Int))=>bl_in hi)
  have h32:=Cls.blC_bd (c:Int)
  have HS:=Lib.hid hS
  have H0:=Lib.hid h0
  obtain⟨A,hA⟩:∃ A,A=aT S N j:=⟨_,rfl⟩
  rw[←hA] at HSA HS hbd
  obtain⟨n,hn⟩:∃ n,n=blC (c:Int):=⟨_,rfl⟩
  have HNx:Hid (∀ i,nxt A c i=if i+1<n then pl A c (i+1) else 0):=fun i=>by rw[hn];rfl
  have HP1:Hid (∀ i,pl A c i=A+i*szC (c:Int)):=fun i=>rfl
  rw[←hn] at HBk HPl HIn HS h32 ⊢
  have HSz0:=Lib.hid (sz_le (c:Int))
  generalize szC (c:Int)=z at HPl HSz HIn HP1 HSz0
  clear hI hM hS h0 hA hn
  unfold pV at *
  go_enter Tryz.func248,Tryz.ntmps248
  go_wp2_with fail
  refine(HCf.out _ _ H0.out).mono ?_
  rintro e w1 ⟨rfl,hb1⟩
  have h1:=Lib.hid (HM.out _ _ _ H0.out hb1)
  clear hb1
  go_wp2_with fail
  refine(HSA.out _ _ h1.out).mono ?_
  rintro e w2 ⟨rfl,hb2⟩
  have h2:=Lib.hid (HM.out _ _ _ h1.out hb2)
  clear hb2
  go_wp2_with fail
  refine(HBk.out _ _ h2.out).mono ?_
  rintro e w3 ⟨rfl,rfl⟩
  go_wp2
  go_loopw [21] (fun i wr=>∃ k:Nat,k≤n∧i = .int .i64 k∧Hid (I k wr)) (fun i _=>n-(intOf i).toNat)
  case atStart=>exact⟨0,Nat.zero_le _,rfl,h2.out⟩
  case round =>
    obtain⟨k,hk,rfl,HK⟩:=hrel
    by_cases hlt:k<n
    · have hlt1:(k:Int)<(n:Int):=by omega
      have hlt0:(0:Int)≤(k:Int):=by omega
      have hin:=HIn.out k hlt
      have hp1:=HP1.out k
      have HV:=Lib.hid (fun W hw=>HS.out k W hlt hw)
      obtain⟨q,hq⟩:∃ q,q=k*z:=⟨_,rfl⟩
      obtain⟨p,hp⟩:∃ p,p=pl A c k:=⟨_,rfl⟩
      have hPl:=HPl.out k hlt
      rw[←hq] at hPl hp1
      have hsum:IntKind.i64.wrap ((A:Int)+(q:Int))=(p:Int):=(Arn.wrap_id (by omega) (by omega)).trans (by omega)
      rw[←hp] at HV
      have hz0:=HSz0.out
      have HPl1:=Lib.hid hPl
      have hpb:p≤110000:=by omega
      have hqn:k+1<n→pl A c (k+1)=p+z:=fun _=>by rw[HP1.out,Nat.add_mul,Nat.one_mul];omega
      have HQn:=Lib.hid hqn
      have hk1:IntKind.i64.wrap ((k:Int)+1)=((k+1:Nat):Int):=(Arn.wrap_id (by omega) (by omega)).trans (by omega)
      clear hPl hin hp1 hp hq hqn
      go_wp2_with fail
      refine(HPl1.out _ HK.out).mono ?_
      rintro e w4 ⟨rfl,rfl⟩
      have hal:=below_made wr (.cells #[.pointer (some ⟨h.g,0,none⟩),.int .i64 (j:Int),.int .i64 (c:Int),.int .i64 (p:Int),.int .i64 0] 153)
      have hbk:=heap_alloc_new wr (.cells #[.pointer (some ⟨h.g,0,none⟩),.int .i64 (j:Int),.int .i64 (c:Int),.int .i64 (p:Int),.int .i64 0] 153)
      have c0:=(cell_block hbk 0).trans (show _=some (Value.pointer (some ⟨h.g,0,none⟩)) from rfl)
      have c1:=(cell_block hbk 1).trans (show _=some (Value.int .i64 (j:Int)) from rfl)
      have c2:=(cell_block hbk 2).trans (show _=some (Value.int .i64 (c:Int)) from rfl)
      have c3:=(cell_block hbk 3).trans (show _=some (Value.int .i64 (p:Int)) from rfl)
      have c4:=(cell_block hbk 4).trans (show _=some (Value.int .i64 0) from rfl)
      have hz4:(wr.alloc (.cells #[.pointer (some ⟨h.g,0,none⟩),.int .i64 (j:Int),.int .i64 (c:Int),.int .i64 (p:Int),.int .i64 0] 153)).heap.size=wr.heap.size+1:=by simp
      by_cases hl2:k+1<n
      · have hl3:((k+1:Nat):Int)<(n:Int):=by omega
        have hl4:(k:Int)+1<(n:Int):=by omega
        have hnx:=HNx.out k
        rw[if_pos hl2,HQn.out hl2] at hnx
        rw[hnx] at HV
        unfold bV bCells pV at HV
        have hw2:IntKind.i64.wrap ((p:Int)+(z:Int))=((p+z:Nat):Int):=(Arn.wrap_id (by omega) (by omega)).trans (by omega)
        obtain⟨p2,hp2⟩:∃ p2,p2=p+z:=⟨_,rfl⟩
        rw[←hp2] at HV hw2
        obtain⟨PP,hPP⟩:∃ PP:World→Prop,PP=fun W=>Below wr.heap.size wr W∧W.heap[wr.heap.size]? = some (.cells #[.pointer (some ⟨h.g,0,none⟩),.int .i64 (j:Int),.int .i64 (c:Int),.int .i64 (p:Int),.int .i64 0] 153 (0,0)):=⟨_,rfl⟩
        have HPB:Hid (∀ W W',PP W→Below W.heap.size W W'→PP W'):=fun W W' h hb=>by
          rw[hPP] at h ⊢
          exact⟨h.1.trans (hb.mono h.1.size),(hb.block _ (Array.getElem?_eq_some_iff.1 h.2).1).trans h.2⟩
        have HPD:Hid (∀ W,PP W→PP W.drew):=fun W h=>HPB.out _ _ h (Below.refl _ _).drew
        have HPS:Hid (∀ W,PP W→Calls Tryz.prog 204 #[.agg #[.pointer (some ⟨h.g,0,none⟩),.int .i64 (j:Int),.int .i64 (c:Int),.int .i64 (p:Int),.int .i64 0]] W fun e W'=>e = .returned (.int .i64 (z:Int))∧PP W'):=fun W h=>by
          have h2:=h
          rw[hPP] at h2
          refine(HSz.out k W (HM.out _ _ _ HK.out h2.1) p 0).mono ?_
          rintro e W' ⟨rfl,hb⟩
          exact⟨rfl,HPB.out _ _ h hb⟩
        have HPC:Hid (∀ W,PP W→W.cell? ⟨wr.heap.size,3,none⟩=some (.int .i64 (p:Int))∧W.cell? ⟨wr.heap.size,4,none⟩=some (.int .i64 0)∧W.frozen? ⟨wr.heap.size,4,none⟩=false):=fun W h=>by
          rw[hPP] at h
          exact⟨(cell_block h.2 3).trans rfl,(cell_block h.2 4).trans rfl,Hea.frozen_block h.2 4⟩
        have HPX:Hid (∀ W,PP W→I k (W.setCell ⟨wr.heap.size,4,none⟩ (.int .i64 (p2:Int)))∧(W.setCell ⟨wr.heap.size,4,none⟩ (.int .i64 (p2:Int))).heap[wr.heap.size]? = some (.cells #[.pointer (some ⟨h.g,0,none⟩),.int .i64 (j:Int),.int .i64 (c:Int),.int .i64 (p:Int),.int .i64 (p2:Int)] 153 (0,0))):=fun W h=>by
          rw[hPP] at h
          exact⟨HM.out _ _ _ HK.out (h.1.setCell (Nat.le_refl _) _),(Hea.heap_setCell_own h.2 _).trans rfl⟩
        have hX:PP (wr.alloc (.cells #[.pointer (some ⟨h.g,0,none⟩),.int .i64 (j:Int),.int .i64 (c:Int),.int .i64 (p:Int),.int .i64 0] 153)):=by
          rw[hPP]
          exact⟨hal,hbk⟩
        clear hnx hal hbk hp2 hPP
        go_wp2_with fail
        go_region_with (go_at_call 204;refine(HPS.out _ (by first | exact hX | exact HPD.out _ hX)).mono ?_;rintro e w5 ⟨rfl,hX5⟩;obtain⟨d3,d4,d5⟩:=HPC.out _ hX5)
        all_goals
          obtain⟨hi6,hbx⟩:=HPX.out _ hX5
          generalize w5.setCell ⟨wr.heap.size,4,none⟩ (.int .i64 (p2:Int))=w6 at hi6 hbx ⊢
          have f0:=(cell_block hbx 0).trans (show _=some (Value.pointer (some ⟨h.g,0,none⟩)) from rfl)
          have f1:=(cell_block hbx 1).trans (show _=some (Value.int .i64 (j:Int)) from rfl)
          have f2:=(cell_block hbx 2).trans (show _=some (Value.int .i64 (c:Int)) from rfl)
          have f3:=(cell_block hbx 3).trans (show _=some (Value.int .i64 (p:Int)) from rfl)
          have f4:=(cell_block hbx 4).trans (show _=some (Value.int .i64 (p2:Int)) from rfl)
          have HI6:=Lib.hid hi6
          clear hX hX5 d3 d4 d5 c0 c1 c2 c3 c4 hi6 hbx
          go_wp2_with fail
          refine(HV.out _ HI6.out).mono ?_
          rintro e w7 ⟨rfl,hi7⟩
          have HI7:=Lib.hid hi7
          clear hi7 f0 f1 f2 f3 f4
          go_wp2
          go_roundw
          case rel=>exact⟨k+1,by omega,by go_num,HI7.out⟩
          case measure=>simp[intOf];omega
      · have hl3:¬ ((k+1:Nat):Int)<(n:Int):=by omega
        have hl4:¬ (k:Int)+1<(n:Int):=by omega
        have hl5:decide ((k:Int)+1<(n:Int))=false:=by rw[decide_eq_false_iff_not];omega
        have hnx:=HNx.out k
        rw[if_neg hl2] at hnx
        rw[hnx] at HV
        unfold bV bCells pV at HV
        have HX:=Lib.hid (HM.out _ _ _ HK.out hal)
        clear hnx hal hbk
        go_wp2_with fail
        refine(HV.out _ HX.out).mono ?_
        rintro e w5 ⟨rfl,hi5⟩
        have HI5:=Lib.hid hi5
        clear hi5 HX
        go_wp2
        go_roundw
        case rel=>exact⟨k+1,by omega,by go_num,HI5.out⟩
        case measure=>simp[intOf];omega
    · obtain rfl:k=n:=by omega
      have HR:=Lib.hid HK.out
      clear HK
      go_wp2
      refine bodyPost_end (results_none rfl _ _ _) rfl ⟨rfl,HR.out⟩
end Go.Proofs.YtmgeiaglandedaaGreatDoor.Sla

namespace Go.Proofs.YtmgeiaglandedaaGreatDoor.Sla
open Go.RowKit Num
open Mem (Mm MemC MRet Hm rd blkM)
open Lis (Cf LM LR Tb at_ Nx Pv Rep Hx valsN)
open Cls (szC blC pdC)
open Arn (wrL)
set_option linter.unusedVariables false
structure Lo (h:Hm) (n:Nat):Prop where
  m:∀ k,blkM h k→k<n
  p:0<n
  c:1<n
  o:2<n
  q:3<n
theorem fr_low {n:Nat} {w w':World} (hb:Below n w w'):Fr w.heap.size (fun k=>n≤k) w w':=⟨hb.os,hb.tape,hb.output,hb.size,fun k _ q=>hb.block k (Nat.lt_of_not_le q)⟩
theorem SM.stay {h:Hm} {C:Cf} {l:List Int} {w w':World} {n:Nat} (d:SM h C l w) (hb:Below n w w') (hl:Lo h n):SM h C l w':=by
  have ht:=d.t.lt
  refine⟨d.m.stay (fr_low hb) (fun k hk=>⟨fun q=>by have:=hl.m k q;omega,?_,?_⟩),d.t.keepS (Bn:=2) ⟨hb.size,?_⟩⟩
  · rintro rfl;have:=hl.p;omega
  · rintro rfl;have:=hl.c;omega
  · rintro k (rfl | rfl | rfl)
    · exact hb.block _ hl.o
    · exact hb.block _ hl.o
    · exact hb.block _ hl.q
theorem SM.lo {h:Hm} {C:Cf} {l:List Int} {w:World} (d:SM h C l w):Lo h w.heap.size:=⟨d.m.lt,d.m.tabs.1,d.m.tabs.2,d.t.lt.1,d.t.lt.2⟩
section
variable {h:Hm} {S N:Nat} {l0 l:List Int} {H:List Hx} {L:List Int} {T:List Sl} {w w' W:World}
theorem Sb.stay {n:Nat} (d:Sb h S N l0 l H L T w) (hb:Below n w w') (hl:Lo h n):Sb h S N l0 l H L T w':=by
  obtain⟨C,h1,h2,h3,h4,h5⟩:=d
  exact⟨C,h1,h2,h3,h4.stay hb hl,h5⟩
theorem Sb.lo (d:Sb h S N l0 l H L T w):Lo h w.heap.size:=by
  obtain⟨C,h1,h2,h3,h4,h5⟩:=d
  exact h4.lo
theorem knd_at {x:List Int} {a:Nat} {k:Int} (h:∀ j,j<4→x.getD (a+j) 0=k) (hl:a+4≤x.length) (h4:a % 4=0) (hk:k≠0):Wat.kndA x (a:Int) 4=k:=by
  have h:=Mem.look_iff (n:=4).2 ⟨by decide,hl,h4,hk,h⟩
  unfold Wat.lookA at h
  simp only[Bool.and_eq_true,decide_eq_true_eq] at h
  exact h.2.2.2.2
def kd (s:Sl) (k:Nat):Int:=if k∈s.f then 6 else 5
theorem pl_bd {S N j:Nat} {C:Cf} (hC:C.Ok) (hj:j<C.s) {c:Int} {k:Nat} (hk:k<blC c):pl (aT C.s C.n j) c k+szC c≤Lay.sizeT C.s C.n∧pl (aT C.s C.n j) c k % 16=0∧Lay.sizeT C.s C.n≤100000:=by
  have h1:=ok_base hC
  have h2:=bl_in hk
  have h3:=mul_mod c k
  unfold pl aT
  omega
theorem Sb.kind (d:Sb h S N l0 l H L T w) {j k:Nat} (hj:j<S) (hk:k<blC (T.getD j Sl.zero).c) (nx:Nat) :
    Calls Tryz.prog 121 #[bV h j (T.getD j Sl.zero).c (pl (aT S N j) (T.getD j Sl.zero).c k) nx] w fun e w'=>e = .returned (.int .i64 (kd (T.getD j Sl.zero) k))∧Below w.heap.size w w':=by
  obtain⟨C,rfl,rfl,h3,h4,h5⟩:=d
  have hp:=pl_bd (S:=0) (N:=0) h5.ok hj hk
  have hi:=bl_in hk
  have:=kind_any h C l j (T.getD j Sl.zero).c (pl (aT C.s C.n j) (T.getD j Sl.zero).c k) nx w h4 (by omega)
  rw[knd_at (k:=kd (T.getD j Sl.zero) k) (fun i hi=>(h5.sl j hj).k k hk i (by omega)) (by rw[h5.xl];omega) (by omega) (by unfold kd;split<;>omega)] at this
  exact this
end
def kp (s:Sl) (kind:Int) (i:Nat):List Nat:=(List.range i).filter fun k=>decide (kd s k=kind)
theorem kp_succ (s:Sl) (kind:Int) (i:Nat):kp s kind (i+1)=if kd s i=kind then kp s kind i ++ [i] else kp s kind i:=by
  unfold kp
  rw[List.range_succ,List.filter_append]
  split
  · rename_i h
    simp[h]
  · rename_i h
    simp[h]
theorem kp_len (s:Sl) (kind:Int) (i:Nat):(kp s kind i).length≤i:=by
  have:=List.length_filter_le (fun k=>decide (kd s k=kind)) (List.range i)
  simpa[kp] using this
theorem kp_live (s:Sl):kp s 5 (blC s.c)=s.v:=by
  unfold kp Sl.v
  refine List.filter_congr (fun k _=>?_)
  unfold kd
  by_cases h:k∈s.f<;>simp[h]
structure HI (h:Hm) (S N:Nat) (l0 l:List Int) (H:List Hx) (L:List Int) (T:List Sl) (j:Nat) (kind:Int) (n:Nat) (w1:World) (i:Nat) (W:World):Prop where
  d:Sb h S N l0 l H L T W
  lo:Lo h n
  b:Below n w1 W
  sz:n+2≤W.heap.size
  k:Boxed W n 3 (.int .i64 kind)
  v:∃ u,Boxed W (n+1) 28 u∧W.ownsRow (n+2) 3 1 u (kp (T.getD j Sl.zero) kind i).length (valsN ((kp (T.getD j Sl.zero) kind i).map (pl (aT S N j) (T.getD j Sl.zero).c)))
theorem HI.below {h:Hm} {S N:Nat} {l0 l:List Int} {H:List Hx} {L:List Int} {T:List Sl} {j:Nat} {kind:Int} {n:Nat} {w1:World} {i:Nat} {W W':World} (d:HI h S N l0 l H L T j kind n w1 i W) (hb:Below W.heap.size W W'):HI h S N l0 l H L T j kind n w1 i W':=by
  obtain⟨u,h1,h2⟩:=d.v
  have hsz:=d.sz
  have hs:=hb.size
  exact⟨d.d.below hb,d.lo,d.b.trans (hb.mono (by omega)),by omega,(hb.block _ d.k.lt).trans d.k,u,(hb.block _ h1.lt).trans h1,ownsRow_stays h2 hb⟩
set_option maxRecDepth 100000 in
set_option maxHeartbeats 4000000 in
theorem visit_any (h:Hm) (S N:Nat) (l0 l:List Int) (H:List Hx) (L:List Int) (T:List Sl) (j:Nat) (kind:Int) (n:Nat) (w1:World) (i nx:Nat) (w:World) (hj:j<S) (hi:i<blC (T.getD j Sl.zero).c) (hI:HI h S N l0 l H L T j kind n w1 i w) :
    Calls Tryz.prog 249 #[bV h j (T.getD j Sl.zero).c (pl (aT S N j) (T.getD j Sl.zero).c i) nx,.pointer (some ⟨n,0,none⟩),.pointer (some ⟨n+1,0,none⟩)] w fun e w'=>e = .returned (.tuple #[])∧HI h S N l0 l H L T j kind n w1 (i+1) w':=by
  obtain⟨i0,hi0,hz0,hz1,hz2⟩:=info_parts Lis.infoInt
  have HKi:=Lib.hid (fun W (d:HI h S N l0 l H L T j kind n w1 i W)=>d.d.kind hj hi nx)
  have hsu:=kp_succ (T.getD j Sl.zero) kind i
  have hle:=kp_len (T.getD j Sl.zero) kind i
  have h32:=Cls.blC_bd ((T.getD j Sl.zero).c:Int)
  obtain⟨P,hP⟩:∃ P,P=pl (aT S N j) (T.getD j Sl.zero).c i:=⟨_,rfl⟩
  obtain⟨cc,hcc⟩:∃ cc,cc=(T.getD j Sl.zero).c:=⟨_,rfl⟩
  obtain⟨K,hK⟩:∃ K,K=kd (T.getD j Sl.zero) i:=⟨_,rfl⟩
  rw[←hP,←hcc,←hK] at HKi
  rw[←hK] at hsu
  rw[←hP,←hcc]
  have HP:=Lib.hid hP
  have HSu:=Lib.hid hsu
  have HCc:=Lib.hid hcc
  obtain⟨PP,hPP⟩:∃ PP:World→Prop,PP=fun W=>HI h S N l0 l H L T j kind n w1 i W∧w.heap.size<W.heap.size∧W.heap[w.heap.size]? = some (.cells (bCells h j cc P nx) 153 (0,0)):=⟨_,rfl⟩
  have HPB:Hid (∀ W W',PP W→Below W.heap.size W W'→PP W'):=fun W W' h hb=>by
    rw[hPP] at h ⊢
    exact⟨h.1.below hb,Nat.lt_of_lt_of_le h.2.1 hb.size,(hb.block _ h.2.1).trans h.2.2⟩
  have HPD:Hid (∀ W,PP W→PP W.drew):=fun W h=>HPB.out _ _ h (Below.refl _ _).drew
  have HPS:Hid (∀ W,PP W→Calls Tryz.prog 121 #[bV h j cc P nx] W fun e W'=>e = .returned (.int .i64 K)∧PP W'):=fun W h=>by
    have h2:=h
    rw[hPP] at h2
    refine(HKi.out W h2.1).mono ?_
    rintro e W' ⟨rfl,hb⟩
    exact⟨rfl,HPB.out _ _ h hb⟩
  have HPC:Hid (∀ W,PP W→W.cell? ⟨n,0,none⟩=some (.int .i64 kind)∧W.cell? ⟨w.heap.size,0,none⟩=some (pV h)∧W.cell? ⟨w.heap.size,1,none⟩=some (.int .i64 (j:Int))∧W.cell? ⟨w.heap.size,2,none⟩=some (.int .i64 (cc:Int))∧W.cell? ⟨w.heap.size,3,none⟩=some (.int .i64 (P:Int))∧W.cell? ⟨w.heap.size,4,none⟩=some (.int .i64 (nx:Int))):=fun W h=>by
    rw[hPP] at h
    exact⟨h.1.k.cell,(cell_block h.2.2 0).trans rfl,(cell_block h.2.2 1).trans rfl,(cell_block h.2.2 2).trans rfl,(cell_block h.2.2 3).trans rfl,(cell_block h.2.2 4).trans rfl⟩
  have HPI:Hid (∀ W,PP W→HI h S N l0 l H L T j kind n w1 i W):=fun W h=>by
    rw[hPP] at h
    exact h.1
  have hX:PP (w.alloc (.cells (bCells h j cc P nx) 153)):=by
    rw[hPP]
    exact⟨hI.below (below_made _ _),by simp,heap_alloc_new _ _⟩
  obtain⟨c0,c1,c2,c3,c4,c5⟩:=HPC.out _ hX
  clear hP hcc hK hPP hI hsu HKi
  unfold bV bCells at *
  unfold pV at *
  by_cases hq:K=kind
  · have hq1:(K == kind)=true:=by simpa using hq
    have hsu2:=HSu.out
    rw[if_pos hq] at hsu2
    have HSu2:=Lib.hid hsu2
    clear hq hsu2
    go_enter Tryz.func249,Tryz.ntmps249
    go_wp2_with fail
    go_region_with (go_at_call 121;refine(HPS.out _ (by first | exact hX | exact HPD.out _ hX)).mono ?_;rintro e w5 ⟨rfl,hX5⟩;obtain⟨d0,d1,d2,d3,d4,d5⟩:=HPC.out _ hX5)
    all_goals
      obtain⟨q1,q2,q3,q4,q5,u,q6,q7⟩:=HPI.out _ hX5
      obtain⟨X,hXX⟩:∃ X,X=(kp (T.getD j Sl.zero) kind i).map (pl (aT S N j) (T.getD j Sl.zero).c):=⟨_,rfl⟩
      have hXl:X.length=(kp (T.getD j Sl.zero) kind i).length:=by rw[hXX,List.length_map]
      rw[←hXX,←hXl] at q7
      rw[←hXl] at hle
      have HXX:=Lib.hid hXX
      have HXl:=Lib.hid hXl
      clear hXX hXl
      have HX5:=Lib.hid hX5
      clear hX5 hX c0 c1 c2 c3 c4 c5 d0
      have cu:=q6.cell
      go_wp2_with (at_builtin;refine wpList_append_own _ rfl (.tmp 8) (.tmp 11) 28 rfl (n+2) 3 i0 (.int .i64 0) 1 8 Tryz.underlying28 hi0 hz0 hz1 hz2 rfl (by decide) _ _ _ rfl (q7.alloc _) ⟨w5.heap.size,0,none⟩ 1 1 [.int .i64 (P:Int)] rfl rfl (news_one _ _ _ _) (oneCell_one _ _) (by unfold maxLen;omega) (by omega) (by simp;omega) ?_)
      intro v3 w3 hown3 hgrow3 _
      obtain⟨g3,cap3,rfl⟩:=ownsRow_succ hown3
      have hne1:some (n+1)≠u.ownBlock:=fun e=>by have:=(q7.lt _ e.symm).1;omega
      have hne0:some n≠u.ownBlock:=fun e=>by have:=(q7.lt _ e.symm).1;omega
      have hv1:Boxed w3 (n+1) 28 u:=(q6.alloc _).kept hgrow3 hne1
      have hv0:Boxed w3 n 3 (.int .i64 kind):=(q5.alloc _).kept hgrow3 hne0
      have hBB:Below n w5 (w3.setCell ⟨n+1,0,none⟩ (.slice (some ⟨g3,0,none⟩) (X.length+1) cap3)):=(((Below.refl n w5).alloc (by omega) _).grown hgrow3 (by simp;omega) (fun r hr=>by have:=(q7.lt r hr).1;omega)).setCell (by show n≤n+1;omega) _
      have HG:Hid (HI h S N l0 l H L T j kind n w1 (i+1) (w3.setCell ⟨n+1,0,none⟩ (.slice (some ⟨g3,0,none⟩) (X.length+1) cap3))):=by
        refine⟨q1.stay hBB q2,q2,q3.trans hBB,by have:=hBB.size;omega,hv0.other (by omega) _,_,hv1.set _,?_⟩
        have:=hown3.kept (Go.grownBy_setCell' w3 (n+1) (.slice (some ⟨g3,0,none⟩) (X.length+1) cap3)) (.inr (hv1.not_row (by decide) hown3).symm)
        rw[HSu2.out,List.map_append,List.map_singleton,←HP.out,Lis.valsN_snoc,List.length_append,←HXX.out,←HXl.out]
        exact this
      have c6:=hv1.cell
      have f6:=hv1.frozen
      clear q1 q2 q3 q4 q5 q6 q7 cu hown3 hgrow3 hne1 hne0 hv1 hv0 hBB d1 d2 d3 d4 d5 HX5
      go_wp2
      refine bodyPost_end (results_none rfl _ _ _) rfl ⟨rfl,HG.out⟩
  · have hq1:(K == kind)=false:=by simpa using hq
    have hsu2:=HSu.out
    rw[if_neg hq] at hsu2
    have HSu2:=Lib.hid hsu2
    clear hq hsu2
    go_enter Tryz.func249,Tryz.ntmps249
    go_wp2_with fail
    go_region_with (go_at_call 121;refine(HPS.out _ (by first | exact hX | exact HPD.out _ hX)).mono ?_;rintro e w5 ⟨rfl,hX5⟩;obtain⟨d0,d1,d2,d3,d4,d5⟩:=HPC.out _ hX5)
    all_goals
      have HG:Hid (HI h S N l0 l H L T j kind n w1 (i+1) w5):=by
        obtain⟨q1,q2,q3,q4,q5,u,q6,q7⟩:=HPI.out _ hX5
        exact⟨q1,q2,q3,q4,q5,u,q6,by rw[HSu2.out];exact q7⟩
      clear hX hX5 d0 d1 d2 d3 d4 d5 c0 c1 c2 c3 c4 c5
      go_wp2
      refine bodyPost_end (results_none rfl _ _ _) rfl ⟨rfl,HG.out⟩
end Go.Proofs.YtmgeiaglandedaaGreatDoor.Sla

namespace Go.Proofs.YtmgeiaglandedaaGreatDoor.Sla
open Go.RowKit Num
open Mem (Mm MemC MRet Hm rd blkM)
open Lis (Cf LM LR Tb at_ Nx Pv Rep Hx valsN)
open Cls (szC blC pdC)
open Arn (wrL)
set_option linter.unusedVariables false
def kpA (S N j:Nat) (s:Sl) (kind:Int):List Nat:=(kp s kind (blC s.c)).map (pl (aT S N j) s.c)
theorem kpA_len (S N j:Nat) (s:Sl) (kind:Int):(kpA S N j s kind).length≤32:=by
  have h1:=kp_len s kind (blC s.c)
  have h2:=Cls.blC_bd (s.c:Int)
  unfold kpA
  rw[List.length_map]
  omega
theorem app3 (a b c:Value) : #[a] ++ #[b,c] = #[a,b,c]:=by simp
set_option maxRecDepth 100000 in
set_option maxHeartbeats 4000000 in
theorem Sb.having {h:Hm} {S N:Nat} {l0 l:List Int} {H:List Hx} {L:List Int} {T:List Sl} {w:World} (d:Sb h S N l0 l H L T w) {j:Nat} (hj:j<S) (hc:(H.getD j (0,0,0)).1=((T.getD j Sl.zero).c:Int)) (kind:Int) :
    Calls Tryz.prog 212 #[pV h,.int .i64 (j:Int),.int .i64 kind] w fun e w'=>∃ u,SbR h S N l0 l H L T u w e w'∧Row .i64 w' u (Lis.ints (kpA S N j (T.getD j Sl.zero) kind))∧∀ b,u.ownBlock=some b→w.heap.size≤b:=by
  have hbd:∀ x∈kpA S N j (T.getD j Sl.zero) kind,x≤100000:=by
    obtain⟨C,rfl,rfl,h3,h4,h5⟩:=d
    intro x hx
    unfold kpA at hx
    obtain⟨k,hk,rfl⟩:=List.mem_map.1 hx
    have hk2:k<blC (T.getD j Sl.zero).c:=by
      unfold kp at hk
      have:=(List.mem_filter.1 hk).1
      simpa using this
    have:=pl_bd (S:=0) (N:=0) h5.ok hj hk2
    omega
  have HBd:=Lib.hid hbd
  have hco:=fun W (d:Sb h S N l0 l H L T W)=>d.classOf hj
  rw[hc] at hco
  have HCo:=Lib.hid hco
  obtain⟨w1,hw1⟩:∃ w1,w1=(w.alloc (.cells #[.int .i64 kind] 3)).alloc (.cells #[.slice none 0 0] 28):=⟨_,rfl⟩
  have hb0:Below w.heap.size w w1:=by rw[hw1];exact(below_made _ _).alloc (below_made _ _).size _
  have hz1:w1.heap.size=w.heap.size+2:=by rw[hw1];simp
  have e1:Boxed w1 w.heap.size 3 (.int .i64 kind):=by rw[hw1];exact(Boxed.new _ _ _).alloc _
  have e2:Boxed w1 (w.heap.size+1) 28 (.slice none 0 0):=by
    rw[hw1]
    have:=Boxed.new (w.alloc (.cells #[.int .i64 kind] 3)) 28 (.slice none 0 0)
    simp only[World.size_alloc] at this
    exact this
  have HV:=Lib.hid (fun W1 W i (hi:i<blC ((T.getD j Sl.zero).c:Int)) (hI:HI h S N l0 l H L T j kind w.heap.size W1 i W)=>visit_any h S N l0 l H L T j kind w.heap.size W1 i (nxt (aT S N j) ((T.getD j Sl.zero).c:Int) i) W hj hi hI)
  have HEa:Hid (∀ W1,HI h S N l0 l H L T j kind w.heap.size W1 0 W1→Calls Tryz.prog 248 #[pV h,.int .i64 (j:Int),.int .i64 ((T.getD j Sl.zero).c:Int),.func (.func 249) #[] #[.pointer (some ⟨w.heap.size,0,none⟩),.pointer (some ⟨w.heap.size+1,0,none⟩)]] W1 fun e w'=>e = .returned (.tuple #[])∧HI h S N l0 l H L T j kind w.heap.size W1 (blC ((T.getD j Sl.zero).c:Int)) w'):=fun W1 hI =>
    each_any h S N j (T.getD j Sl.zero).c hj 249 _ (enters_of Tryz.func249 (by kernel_rfl) rfl) (HI h S N l0 l H L T j kind w.heap.size W1) (fun i W hI=>hI.d.sm) (fun i W W' hI hb=>hI.below hb) (fun i W hi hI=>by rw[app3];exact HV.out W1 W i hi hI) W1 hI
  have HD:=Lib.hid (d.below hb0)
  have HLo:=Lib.hid d.lo
  have HB0:=Lib.hid hb0
  have HE1:=Lib.hid e1
  have HE2:=Lib.hid e2
  have HR:Hid (∀ W u,W.ownsRow (w.heap.size+2) 3 1 u (kp (T.getD j Sl.zero) kind (blC ((T.getD j Sl.zero).c:Int))).length (valsN ((kp (T.getD j Sl.zero) kind (blC ((T.getD j Sl.zero).c:Int))).map (pl (aT S N j) ((T.getD j Sl.zero).c:Int))))→Row .i64 W u (Lis.ints (kpA S N j (T.getD j Sl.zero) kind))∧∀ b,u.ownBlock=some b→w.heap.size≤b):=fun W u ho=>by
    refine⟨?_,fun b hb=>by have:=Lis.owns_base ho b hb;omega⟩
    exact Lis.rowN_of_owns ho (by unfold kpA;rw[List.length_map]) hbd
  generalize kpA S N j (T.getD j Sl.zero) kind=Z at HR ⊢
  obtain⟨cc,hcc⟩:∃ cc,cc=(T.getD j Sl.zero).c:=⟨_,rfl⟩
  obtain⟨J,hJ⟩:∃ J:World→Nat→World→Prop,J=HI h S N l0 l H L T j kind w.heap.size:=⟨_,rfl⟩
  have HJ0:Hid (∀ W1,Sb h S N l0 l H L T W1→Fr w1.heap.size (blkM h) w1 W1→J W1 0 W1):=fun W1 h1 h2=>by
    have n1:¬ blkM h w.heap.size:=fun q=>by have:=HLo.out.m _ q;omega
    have n2:¬ blkM h (w.heap.size+1):=fun q=>by have:=HLo.out.m _ q;omega
    have hs:=h2.size
    rw[hJ]
    exact⟨h1,HLo.out,Below.refl _ _,by omega,(h2.block _ e1.lt n1).trans e1,.slice none 0 0,(h2.block _ e2.lt n2).trans e2,World.ownsRow_nil _ _ _ _⟩
  have HJ1:Hid (∀ W1 W,J W1 (blC ((T.getD j Sl.zero).c:Int)) W→Sb h S N l0 l H L T W∧Below w.heap.size W1 W∧∃ u,Boxed W (w.heap.size+1) 28 u∧Row .i64 W u (Lis.ints Z)∧∀ b,u.ownBlock=some b→w.heap.size≤b):=fun W1 W hI=>by
    rw[hJ] at hI
    obtain⟨u,q1,q2⟩:=hI.v
    exact⟨hI.d,hI.b,u,q1,HR.out W u q2⟩
  rw[←hJ,←hcc] at HEa
  rw[←hcc] at HCo HJ1
  generalize blC (cc:Int)=nn at HEa HJ1
  clear hbd hco e1 e2 hb0 hc HV HR hcc hJ d HBd
  unfold pV at *
  go_enter Tryz.func212,Tryz.ntmps212
  go_wp2_with fail
  rw[←hw1]
  refine(HCo.out _ HD.out).mono ?_
  rintro e w2 ⟨rfl,hd2,hf2⟩
  have HI2:=Lib.hid (HJ0.out w2 hd2 hf2)
  have HF2:Hid (Fr w.heap.size (blkM h) w w2):=(Fr.of_below HB0.out).trans (hf2.mono HB0.out.size (fun _ _ q=>q))
  clear hd2 hf2 HJ0
  go_wp2_with fail
  refine(HEa.out _ HI2.out).mono ?_
  rintro e w3 ⟨rfl,hI3⟩
  obtain⟨k1,k2,u,k3,k4,k5⟩:=HJ1.out _ _ hI3
  have cu:=k3.cell
  have HG:Hid (SbR h S N l0 l H L T u w (.returned u) w3∧Row .i64 w3 u (Lis.ints Z)∧∀ b,u.ownBlock=some b→w.heap.size≤b):=⟨⟨rfl,k1,HF2.out.trans (Fr.of_below k2)⟩,k4,k5⟩
  clear k1 k2 k3 k4 k5 hI3
  go_wp2
  go_ret
  exact⟨u,HG.out⟩
end Go.Proofs.YtmgeiaglandedaaGreatDoor.Sla

namespace Go.Proofs.YtmgeiaglandedaaGreatDoor.Sla
open Go.RowKit Num
open Mem (Mm MemC MRet Hm rd blkM)
open Lis (Cf LM LR Tb at_ Nx Pv Rep Hx valsN)
open Cls (szC blC pdC)
open Arn (wrL)
set_option linter.unusedVariables false
structure SX (h:Hm) (S N:Nat) (l0 l:List Int) (H:List Hx) (L:List Int) (T:List Sl) (w:World) (B:List (Nat×Obj)) (W:World):Prop where
  d:Sb h S N l0 l H L T W
  f:Fr w.heap.size (blkM h) w W
  b:Hea.Blks B W
  lb:∀ p∈B,w.heap.size≤p.1
  lo:Lo h w.heap.size
section
variable {h:Hm} {S N:Nat} {l0 l l':List Int} {H H':List Hx} {L L':List Int} {T T':List Sl} {w W W':World} {B:List (Nat×Obj)} {r:Value} {e:Ending}
theorem SX.start (d:Sb h S N l0 l H L T w):SX h S N l0 l H L T w [] w:=⟨d,Fr.refl _ _ _,(fun p hp=>by cases hp),(fun p hp=>by cases hp),d.lo⟩
theorem SX.below (d:SX h S N l0 l H L T w B W) (hb:Below W.heap.size W W'):SX h S N l0 l H L T w B W':=⟨d.d.below hb,d.f.trans ((Fr.of_below hb).mono d.f.size (fun _ _ q=>q)),d.b.below hb,d.lb,d.lo⟩
theorem SX.drew (d:SX h S N l0 l H L T w B W):SX h S N l0 l H L T w B W.drew:=d.below (Below.refl _ _).drew
theorem SX.lt (d:SX h S N l0 l H L T w B W):∀ p∈B,p.1<W.heap.size:=fun p hp=>(Array.getElem?_eq_some_iff.1 (d.b p hp)).1
theorem SX.sr (d:SX h S N l0 l H L T w B W) (hr:SbR h S N l0 l' H' L' T' r W e W'):SX h S N l0 l' H' L' T' w B W' :=
  ⟨hr.2.1,d.f.trans (hr.2.2.mono d.f.size (fun _ _ q=>q)),d.b.fr hr.2.2 (fun p hp=>⟨d.lt p hp,fun q=>by have:=d.lb p hp;have:=d.lo.m _ q;omega⟩),d.lb,d.lo⟩
theorem SX.alloc (d:SX h S N l0 l H L T w B W) (c:Array Value) (t:TypeId):SX h S N l0 l H L T w ((W.heap.size,.cells c t (0,0))::B) (W.alloc (.cells c t)):=by
  have k:=d.below (below_made W (.cells c t))
  refine⟨k.d,k.f,?_,?_,d.lo⟩
  · intro p hp
    rcases List.mem_cons.1 hp with rfl | hp
    · exact heap_alloc_new W _
    · exact k.b p hp
  · intro p hp
    rcases List.mem_cons.1 hp with rfl | hp
    · exact d.f.size
    · exact d.lb p hp
theorem SX.blk (d:SX h S N l0 l H L T w B W) {n:Nat} {o:Obj} (hp:(n,o)∈B):W.heap[n]? = some o:=d.b (n,o) hp
theorem SX.setC {n:Nat} {c:Array Value} {t:TypeId} (d:SX h S N l0 l H L T w ((n,.cells c t (0,0))::B) W) (hB:∀ p∈B,p.1≠n) (i:Nat) (v:Value):SX h S N l0 l H L T w ((n,.cells (c.setIfInBounds i v) t (0,0))::B) (W.setCell ⟨n,i,none⟩ v):=by
  have hn:=d.lb _ (List.mem_cons_self ..)
  simp only at hn
  have hbb:Below w.heap.size W (W.setCell ⟨n,i,none⟩ v):=(Below.refl _ _).setCell (p:=⟨n,i,none⟩) hn v
  refine⟨d.d.stay hbb d.lo,d.f.trans (Fr.of_below hbb),?_,?_,d.lo⟩
  · intro p hp
    rcases List.mem_cons.1 hp with rfl | hp
    · exact Hea.heap_setCell_own (d.b _ (List.mem_cons_self ..)) v
    · rw[Below.heap_setCell _ _ _ _ (hB p hp)]
      exact d.b p (List.mem_cons_of_mem _ hp)
  · intro p hp
    rcases List.mem_cons.1 hp with rfl | hp
    · exact hn
    · exact d.lb p (List.mem_cons_of_mem _ hp)
theorem SX.swap {a b:Nat×Obj} (d:SX h S N l0 l H L T w (a::b::B) W):SX h S N l0 l H L T w (b::a::B) W:=by
  refine⟨d.d,d.f,fun p hp=>d.b p ?_,fun p hp=>d.lb p ?_,d.lo⟩<;>simp only[List.mem_cons] at hp ⊢ <;> exact hp.elim (fun q=>.inr (.inl q)) (fun q=>q.elim .inl (fun q=>.inr (.inr q)))
theorem SX.ret (d:SX h S N l0 l H L T w B W) (r:Value):SbR h S N l0 l H L T r w (.returned r) W:=⟨rfl,d.d,d.f⟩
theorem SX.weak {a:Nat×Obj} (d:SX h S N l0 l H L T w (a::B) W):SX h S N l0 l H L T w B W:=⟨d.d,d.f,fun p hp=>d.b p (List.mem_cons_of_mem _ hp),fun p hp=>d.lb p (List.mem_cons_of_mem _ hp),d.lo⟩
end
def bC (p:Value) (j c a nx:Int):Array Value := #[p,.int .i64 j,.int .i64 c,.int .i64 a,.int .i64 nx]
def S5b (w:World) (o:Nat) (p:Value) (j c a nx:Int):World:=((((w.setCell ⟨o,0,none⟩ p).setCell ⟨o,1,none⟩ (.int .i64 j)).setCell ⟨o,2,none⟩ (.int .i64 c)).setCell ⟨o,3,none⟩ (.int .i64 a)).setCell ⟨o,4,none⟩ (.int .i64 nx)
theorem SX.five {h:Hm} {S N:Nat} {l0 l:List Int} {H:List Hx} {L:List Int} {T:List Sl} {w W:World} {B:List (Nat×Obj)} {n:Nat} {p0:Value} {j0 c0 a0 x0:Int} {t:TypeId} (d:SX h S N l0 l H L T w ((n,.cells (bC p0 j0 c0 a0 x0) t (0,0))::B) W) (hB:∀ p∈B,p.1≠n) (p:Value) (j c a nx:Int) :
    SX h S N l0 l H L T w ((n,.cells (bC p j c a nx) t (0,0))::B) (S5b W n p j c a nx) :=
  ((((d.setC hB 0 p).setC hB 1 (.int .i64 j)).setC hB 2 (.int .i64 c)).setC hB 3 (.int .i64 a)).setC hB 4 (.int .i64 nx)
theorem bC_cells {W:World} {n:Nat} {p:Value} {j c a nx:Int} {t:TypeId} (h:W.heap[n]? = some (.cells (bC p j c a nx) t (0,0))) :
    W.cell? ⟨n,0,none⟩=some p∧W.cell? ⟨n,1,none⟩=some (.int .i64 j)∧W.cell? ⟨n,2,none⟩=some (.int .i64 c)∧W.cell? ⟨n,3,none⟩=some (.int .i64 a)∧W.cell? ⟨n,4,none⟩=some (.int .i64 nx) :=
  ⟨(cell_block h 0).trans rfl,(cell_block h 1).trans rfl,(cell_block h 2).trans rfl,(cell_block h 3).trans rfl,(cell_block h 4).trans rfl⟩
theorem bC_free {W:World} {n:Nat} {p:Value} {j c a nx:Int} {t:TypeId} (h:W.heap[n]? = some (.cells (bC p j c a nx) t (0,0))) :
    W.frozen? ⟨n,0,none⟩=false∧W.frozen? ⟨n,1,none⟩=false∧W.frozen? ⟨n,2,none⟩=false∧W.frozen? ⟨n,3,none⟩=false∧W.frozen? ⟨n,4,none⟩=false :=
  ⟨Hea.frozen_block h 0,Hea.frozen_block h 1,Hea.frozen_block h 2,Hea.frozen_block h 3,Hea.frozen_block h 4⟩
def bZ:Array Value:=bC (.pointer none) 0 0 0 0
theorem inC_lt {S N j:Nat} {a:Int} (hr:Lay.rightC (S:Int) (N:Int)=true) (h:Lay.inC (S:Int) (N:Int) a=(j,true)):j<S∧(aT S N j:Int)≤a∧a<(aT S N j:Int)+1024:=by
  unfold Lay.inC at h
  split at h
  · rename_i hq
    obtain⟨-,h1,h2⟩:=hq
    rw[Int.toNat_natCast,Int.toNat_natCast] at h1 h2 h
    have hj:((a-Lay.baseT S N) / 1024).toNat=j:=congrArg Prod.fst h
    unfold Lay.sizeT at h2
    unfold aT
    omega
  · exact absurd (congrArg Prod.snd h) (by simp)
theorem Sb.slab {h:Hm} {S N:Nat} {l0 l:List Int} {H:List Hx} {L:List Int} {T:List Sl} {w:World} (d:Sb h S N l0 l H L T w) {a:Int} (h64:Arn.is64 a) :
    Calls Tryz.prog 245 #[.agg #[.int .i64 (S:Int),.int .i64 (N:Int)],.int .i64 a] w fun e w'=>e = .returned (.tuple #[.int .i64 (Lay.inC S N a).1,.bool (Lay.inC S N a).2])∧Below w.heap.size w w':=by
  have hr:=d.right
  obtain⟨q1,q2,q3,q4,q5⟩:=Lay.right_out hr
  unfold Arn.is64 at h64
  exact Lay.slab_any S N a w d.cls (by omega) (by omega) (by omega) (by omega) (by omega) (by omega)
set_option maxRecDepth 100000 in
set_option maxHeartbeats 4000000 in
theorem Sb.find_no1 {h:Hm} {S N:Nat} {l0 l:List Int} {H:List Hx} {L:List Int} {T:List Sl} {w:World} (d:Sb h S N l0 l H L T w) {a:Int} (h64:Arn.is64 a) (hi:Lay.inC (S:Int) (N:Int) a=(0,false)) :
    Calls Tryz.prog 209 #[pV h,.int .i64 a] w (SbR h S N l0 l H L T (.tuple #[.agg bZ,.bool false]) w):=by
  have h0:=(SX.start d).alloc bZ 153
  have HCf:=Lib.hid (fun W (k:SX h S N l0 l H L T w [(w.heap.size,.cells bZ 153 (0,0))] W)=>k.d.config)
  have hsl:=fun W (k:SX h S N l0 l H L T w [(w.heap.size,.cells bZ 153 (0,0))] W)=>k.d.slab h64
  rw[hi] at hsl
  have HSl:=Lib.hid hsl
  have H0:=Lib.hid h0
  clear h0 hsl d h64 hi
  unfold pV at *
  go_enter Tryz.func209,Tryz.ntmps209
  go_wp2_with fail
  refine(HCf.out _ H0.out).mono ?_
  rintro e w1 ⟨rfl,hb1⟩
  have H1:=Lib.hid (H0.out.below hb1)
  clear hb1 H0
  go_wp2_with fail
  refine(HSl.out _ H1.out).mono ?_
  rintro e w2 ⟨rfl,hb2⟩
  have H2:=Lib.hid (H1.out.below hb2)
  have hbk:=H2.out.blk (.head _)
  obtain⟨z0,z1,z2,z3,z4⟩:=bC_cells hbk
  obtain⟨f0,f1,f2,f3,f4⟩:=bC_free hbk
  have HQ:=Lib.hid (H2.out.five (fun p hp=>by cases hp) (.pointer none) 0 0 0 0)
  clear hb2 H1 hbk
  go_wp2
  show bodyPost _ _ _ _ _ (S5b w2 w.heap.size (.pointer none) 0 0 0 0)
  generalize S5b w2 w.heap.size (.pointer none) 0 0 0 0=W9 at HQ ⊢
  obtain⟨y0,y1,y2,y3,y4⟩:=bC_cells (HQ.out.blk (.head _))
  refine bodyPost_ret (v:=.tuple #[.agg bZ,.bool false]) ?_ rfl (HQ.out.ret _)
  simp[results,Tryz.results209,go_sem,y0,y1,y2,y3,y4,bZ,bC]
theorem quo_nat {a A:Int} {z q:Nat} (hz:0<z) (h0:A≤a) (hq:q=(a-A).toNat / z):(a-A).tdiv (z:Int)=(q:Int):=by
  obtain⟨n,hn⟩:∃ n:Nat,a-A=n:=⟨(a-A).toNat,by omega⟩
  rw[hn] at hq ⊢
  rw[Int.toNat_natCast] at hq
  rw[hq,Int.natCast_ediv]
  exact Int.tdiv_eq_ediv_of_nonneg (by omega)
set_option maxRecDepth 100000 in
set_option maxHeartbeats 4000000 in
theorem Sb.find_no2 {h:Hm} {S N:Nat} {l0 l:List Int} {H:List Hx} {L:List Int} {T:List Sl} {w:World} (d:Sb h S N l0 l H L T w) {a:Int} (h64:Arn.is64 a) {j:Nat} (hi:Lay.inC (S:Int) (N:Int) a=(j,true)) (hc:(H.getD j (0,0,0)).1=0) :
    Calls Tryz.prog 209 #[pV h,.int .i64 a] w (SbR h S N l0 l H L T (.tuple #[.agg bZ,.bool false]) w):=by
  have hj:=(inC_lt d.right hi).1
  have h0:=(SX.start d).alloc bZ 153
  have HCf:=Lib.hid (fun W (k:SX h S N l0 l H L T w [(w.heap.size,.cells bZ 153 (0,0))] W)=>k.d.config)
  have hsl:=fun W (k:SX h S N l0 l H L T w [(w.heap.size,.cells bZ 153 (0,0))] W)=>k.d.slab h64
  have hco:=fun W (k:SX h S N l0 l H L T w [(w.heap.size,.cells bZ 153 (0,0))] W)=>k.d.classOf hj
  have HSz:=Lib.hid (fun W B (k:SX h S N l0 l H L T w B W)=>size_any (pV h) j 0 0 0 W k.d.cls)
  rw[hi] at hsl
  rw[hc] at hco
  rw[show szC 0=0 from rfl] at HSz
  have HSl:=Lib.hid hsl
  have HCo:=Lib.hid hco
  have H0:=Lib.hid h0
  clear h0 hsl hco d h64 hi hc
  unfold pV at *
  go_enter Tryz.func209,Tryz.ntmps209
  go_wp2_with fail
  refine(HCf.out _ H0.out).mono ?_
  rintro e w1 ⟨rfl,hb1⟩
  have H1:=Lib.hid (H0.out.below hb1)
  clear hb1 H0
  go_wp2_with fail
  refine(HSl.out _ H1.out).mono ?_
  rintro e w2 ⟨rfl,hb2⟩
  have H2:=Lib.hid (H1.out.below hb2)
  clear hb2 H1
  go_wp2_with fail
  refine(HCo.out _ H2.out).mono ?_
  intro e w3 hr3
  obtain rfl:=hr3.1
  have H3:=Lib.hid ((H2.out.sr hr3).alloc (bC (pV h) j 0 0 0) 153)
  clear hr3 H2
  obtain⟨c0,c1,c2,c3,c4⟩:=bC_cells (H3.out.blk (.head _))
  unfold bC pV at H3
  go_wp2_with fail
  refine(HSz.out _ _ H3.out).mono ?_
  rintro e w4 ⟨rfl,hb4⟩
  have H4:=Lib.hid (H3.out.below hb4).weak
  have hbk:=H4.out.blk (.head _)
  obtain⟨z0,z1,z2,z3,z4⟩:=bC_cells hbk
  obtain⟨f0,f1,f2,f3,f4⟩:=bC_free hbk
  have HQ:=Lib.hid (H4.out.five (fun p hp=>by cases hp) (.pointer none) 0 0 0 0)
  clear hb4 H3 hbk c0 c1 c2 c3 c4
  go_wp2
  show bodyPost _ _ _ _ _ (S5b w4 w.heap.size (.pointer none) 0 0 0 0)
  generalize S5b w4 w.heap.size (.pointer none) 0 0 0 0=W9 at HQ ⊢
  obtain⟨y0,y1,y2,y3,y4⟩:=bC_cells (HQ.out.blk (.head _))
  refine bodyPost_ret (v:=.tuple #[.agg bZ,.bool false]) ?_ rfl (HQ.out.ret _)
  simp[results,Tryz.results209,go_sem,y0,y1,y2,y3,y4,bZ,bC]
set_option maxRecDepth 100000 in
set_option maxHeartbeats 4000000 in
theorem Sb.find_in {h:Hm} {S N:Nat} {l0 l:List Int} {H:List Hx} {L:List Int} {T:List Sl} {w:World} (d:Sb h S N l0 l H L T w) {a:Int} (h64:Arn.is64 a) {j c q:Nat} (hi:Lay.inC (S:Int) (N:Int) a=(j,true)) (hc:(H.getD j (0,0,0)).1=(c:Int)) (hz:szC c≠0) (hq:q=(a-aT S N j).toNat / szC c) :
    Calls Tryz.prog 209 #[pV h,.int .i64 a] w (SbR h S N l0 l H L T (if q<blC c then .tuple #[bV h j c (pl (aT S N j) c q) 0,.bool true] else .tuple #[.agg bZ,.bool false]) w):=by
  obtain⟨hj,hA0,hA1⟩:=inC_lt d.right hi
  have hbd:aT S N j≤100000:=by
    obtain⟨C,rfl,rfl,h3,h4,h5⟩:=d
    have:=ok_base h5.ok
    unfold aT
    omega
  have hszl:=sz_le (c:Int)
  have hqz:(a-aT S N j).tdiv (szC (c:Int):Int)=(q:Int):=quo_nat (by omega) hA0 hq
  have hq3:q*szC (c:Int)≤1024:=by
    have h1:q*szC (c:Int)≤(a-aT S N j).toNat:=by rw[hq];exact Nat.div_mul_le_self _ _
    omega
  have hq2:q≤1024:=by
    have:q*1≤q*szC (c:Int):=Nat.mul_le_mul_left q (by omega)
    omega
  have hidx:Cls.idC (c:Int) ((q*szC (c:Int):Nat):Int)=if q<blC (c:Int) then (q,true) else (0,false):=by
    by_cases hb:q<blC (c:Int)
    · rw[if_pos hb]
      exact Cls.idC_hit hz hb
    · rw[if_neg hb]
      refine Cls.idC_out hz (.inr ?_)
      have:=Nat.mul_le_mul_right (szC (c:Int)) (show blC (c:Int)≤q by omega)
      omega
  have h0:=(SX.start d).alloc bZ 153
  have HCf:=Lib.hid (fun W B (k:SX h S N l0 l H L T w B W)=>k.d.config)
  have hsl:=fun W (k:SX h S N l0 l H L T w [(w.heap.size,.cells bZ 153 (0,0))] W)=>k.d.slab h64
  have hco:=fun W (k:SX h S N l0 l H L T w [(w.heap.size,.cells bZ 153 (0,0))] W)=>k.d.classOf hj
  have HSz:=Lib.hid (fun W B (k:SX h S N l0 l H L T w B W)=>size_any (pV h) j c 0 0 W k.d.cls)
  have HSA:=Lib.hid (fun W B (k:SX h S N l0 l H L T w B W)=>k.d.slabAt hj)
  have hin:=fun W B (k:SX h S N l0 l H L T w B W)=>Cls.index_any c ((q*szC (c:Int):Nat):Int) W k.d.cls (by omega) (by omega)
  obtain⟨X,hX⟩:∃ X,X=Cls.idC (c:Int) ((q*szC (c:Int):Nat):Int):=⟨_,rfl⟩
  rw[←hX] at hin
  rw[←hX] at hidx
  have HXI:=Lib.hid hidx
  obtain⟨R,hR⟩:∃ R,R=(if q<blC (c:Int) then Value.tuple #[bV h j c (pl (aT S N j) c q) 0,.bool true] else .tuple #[.agg bZ,.bool false]):=⟨_,rfl⟩
  rw[←hR]
  rw[hi] at hsl
  rw[hc] at hco
  have hpl:pl (aT S N j) c q=aT S N j+q*szC (c:Int):=rfl
  obtain⟨A,hA⟩:∃ A,A=aT S N j:=⟨_,rfl⟩
  rw[←hA] at hA0 hA1 hbd hqz HSA hpl hR
  obtain⟨P,hP⟩:∃ P,P=pl A c q:=⟨_,rfl⟩
  rw[←hP] at hpl hR
  have HR:=Lib.hid hR
  obtain⟨g,hg⟩:∃ g,g=q*szC (c:Int):=⟨_,rfl⟩
  rw[←hg] at hin hq3 hpl
  have hmul:IntKind.i64.wrap ((q:Int)*(szC (c:Int):Int))=(g:Int):=by
    rw[show ((q:Int)*(szC (c:Int):Int))=(g:Int) by rw[hg,Int.natCast_mul]]
    exact Arn.wrap_id (by omega) (by omega)
  have hsub:IntKind.i64.wrap (a-(A:Int))=a-(A:Int):=Arn.wrap_id (by omega) (by omega)
  have hadd:IntKind.i64.wrap ((A:Int)+(g:Int))=(P:Int):=(Arn.wrap_id (by omega) (by omega)).trans (by omega)
  have hqw:IntKind.i64.wrap (q:Int)=(q:Int):=Arn.wrap_id (by omega) (by omega)
  have HSl:=Lib.hid hsl
  have HCo:=Lib.hid hco
  have HIn:=Lib.hid hin
  have H0:=Lib.hid h0
  generalize szC (c:Int)=z at *
  have hz1:((z:Int) == 0)=false:=by simp;omega
  have hz2:(z:Int)≠0:=by omega
  clear h0 hsl hco hin d h64 hi hc hA hP hg hidx hpl hq hz hq3 hR hX
  unfold pV at *
  go_enter Tryz.func209,Tryz.ntmps209
  go_wp2_with fail
  refine(HCf.out _ _ H0.out).mono ?_
  rintro e w1 ⟨rfl,hb1⟩
  have H1:=Lib.hid (H0.out.below hb1)
  clear hb1 H0
  go_wp2_with fail
  refine(HSl.out _ H1.out).mono ?_
  rintro e w2 ⟨rfl,hb2⟩
  have H2:=Lib.hid (H1.out.below hb2)
  clear hb2 H1
  go_wp2_with fail
  refine(HCo.out _ H2.out).mono ?_
  intro e w3 hr3
  obtain rfl:=hr3.1
  have H3:=Lib.hid ((H2.out.sr hr3).alloc (bC (pV h) j c 0 0) 153)
  have hne:w3.heap.size≠w.heap.size:=by
    have:=(H2.out.sr hr3).lt _ (List.mem_cons_self ..)
    simp only at this
    omega
  clear hr3 H2
  have hbk3:=H3.out.blk (.head _)
  obtain⟨c0,c1,c2,c3,c4⟩:=bC_cells hbk3
  unfold bC pV at H3
  unfold bC pV at hbk3
  go_wp2_with fail
  refine(HSz.out _ _ H3.out).mono ?_
  rintro e w4 ⟨rfl,hb4⟩
  have H4:=Lib.hid (H3.out.below hb4)
  clear hb4 H3 c0 c1 c2 c3 c4 hbk3
  go_wp2_with fail
  refine(HCf.out _ _ H4.out).mono ?_
  rintro e w5 ⟨rfl,hb5⟩
  have H5:=Lib.hid (H4.out.below hb5)
  clear hb5 H4
  go_wp2_with fail
  refine(HSA.out _ _ H5.out).mono ?_
  rintro e w6 ⟨rfl,hb6⟩
  have H6:=Lib.hid (H5.out.below hb6)
  clear hb6 H5
  have hw6l:w3.heap.size<w6.heap.size:=H6.out.lt _ (.head _)
  obtain⟨d0,d1,d2,d3,d4⟩:=bC_cells (H6.out.blk (.head _))
  have k0:=Kept.cell d0 hw6l
  have k1:=Kept.cell d1 hw6l
  have k2:=Kept.cell d2 hw6l
  have k3:=Kept.cell d3 hw6l
  have k4:=Kept.cell d4 hw6l
  have HKS:Hid (∀ k:Kept w6.heap.size w6,Calls Tryz.prog 204 #[.agg #[.pointer (some ⟨h.g,0,none⟩),.int .i64 (j:Int),.int .i64 (c:Int),.int .i64 0,.int .i64 0]] k.w fun e W'=>e = .returned (.int .i64 (z:Int))∧Below k.w.heap.size k.w W'):=fun k=>HSz.out k.w _ (H6.out.below k.below)
  go_wp2_with fail
  refine wp_region_kept (by kernel_rfl) (by kernel_rfl) ?_
  repeat (go_big_quiet_step ((go_at_call 204;exact Calls.kept_of (HKS.out _) (Nat.le_refl _))))
  refine wpQuiet_nil ?_
  intro _ hw'
  obtain⟨kk,rfl⟩:=hw'
  have H7':=Lib.hid (H6.out.below kk.below)
  generalize kk.w=w7 at H7' ⊢
  clear k0 k1 k2 k3 k4 d0 d1 d2 d3 d4 HKS H6
  all_goals
    have H7:=H7'
    clear H7'
    obtain⟨c0,c1,c2,c3,c4⟩:=bC_cells (p:=.pointer (some ⟨h.g,0,none⟩)) (j:=j) (c:=c) (a:=0) (nx:=0) (H7.out.blk (.head _))
    have hz7:=H7.out.blk (.head _)
    go_wp2_with fail
    refine(HIn.out _ _ H7.out).mono ?_
    rintro e w8 ⟨rfl,rfl⟩
    by_cases hb:q<blC (c:Int)
    · have hx:=HXI.out
      have hr:=HR.out
      rw[if_pos hb] at hx hr
      subst hx
      have f3:=Hea.frozen_block hz7 3
      have h8:=H7.out.setC (fun p hp=>by rcases List.mem_cons.1 hp with rfl | hp;exact hne.symm;cases hp) 3 (.int .i64 (P:Int))
      have H8:=Lib.hid h8
      obtain⟨g0,g1,g2,g3,g4⟩:=bC_cells (p:=.pointer (some ⟨h.g,0,none⟩)) (j:=j) (c:=c) (a:=P) (nx:=0) (h8.blk (.head _))
      have hbk:=h8.blk (.tail _ (.head _))
      obtain⟨z0,z1,z2,z3,z4⟩:=bC_cells hbk
      obtain⟨f5,f6,f7,f8,f9⟩:=bC_free hbk
      have HQ:=Lib.hid (h8.swap.five (fun p hp=>by rcases List.mem_cons.1 hp with rfl | hp;exact hne;cases hp) (.pointer (some ⟨h.g,0,none⟩)) j c P 0)
      have HR2:=Lib.hid hr
      clear h8 hbk H7 hz7 hb hr HXI HR
      go_wp2
      show bodyPost _ _ _ _ _ (S5b (w7.setCell ⟨w3.heap.size,3,none⟩ (.int .i64 (P:Int))) w.heap.size (.pointer (some ⟨h.g,0,none⟩)) j c P 0)
      generalize S5b (w7.setCell ⟨w3.heap.size,3,none⟩ (.int .i64 (P:Int))) w.heap.size (.pointer (some ⟨h.g,0,none⟩)) j c P 0=W9 at HQ ⊢
      obtain⟨y0,y1,y2,y3,y4⟩:=bC_cells (HQ.out.blk (.head _))
      rw[HR2.out]
      refine bodyPost_ret (v:=.tuple #[bV h j c P 0,.bool true]) ?_ rfl (HQ.out.ret _)
      simp[results,Tryz.results209,go_sem,y0,y1,y2,y3,y4,bV,bCells]
    · have hx:=HXI.out
      have hr:=HR.out
      rw[if_neg hb] at hx hr
      subst hx
      have H8:=Lib.hid H7.out.weak
      have hbk:=H8.out.blk (.head _)
      obtain⟨z0,z1,z2,z3,z4⟩:=bC_cells hbk
      obtain⟨f5,f6,f7,f8,f9⟩:=bC_free hbk
      have HQ:=Lib.hid (H8.out.five (fun p hp=>by cases hp) (.pointer none) 0 0 0 0)
      have HR2:=Lib.hid hr
      clear hbk H7 hz7 hb hr HXI HR
      go_wp2
      show bodyPost _ _ _ _ _ (S5b w7 w.heap.size (.pointer none) 0 0 0 0)
      generalize S5b w7 w.heap.size (.pointer none) 0 0 0 0=W9 at HQ ⊢
      obtain⟨y0,y1,y2,y3,y4⟩:=bC_cells (HQ.out.blk (.head _))
      rw[HR2.out]
      refine bodyPost_ret (v:=.tuple #[.agg bZ,.bool false]) ?_ rfl (HQ.out.ret _)
      simp[results,Tryz.results209,go_sem,y0,y1,y2,y3,y4,bZ,bC]
end Go.Proofs.YtmgeiaglandedaaGreatDoor.Sla

namespace Go.Proofs.YtmgeiaglandedaaGreatDoor.Sla
open Go.RowKit Num
open Mem (Mm MemC MRet Hm rd blkM)
open Lis (Cf LM LR Tb at_ Nx Pv Rep Hx valsN)
open Cls (szC blC pdC)
open Arn (wrL)
set_option linter.unusedVariables false
def fnd (S N:Nat) (T:List Sl) (a:Int):Option (Nat×Nat) :=
  let p:=Lay.inC (S:Int) (N:Int) a
  let s:=T.getD p.1 Sl.zero
  let q:=(a-aT S N p.1).toNat / szC s.c
  if p.2=true∧s.c≠0∧q<blC s.c then some (p.1,q) else none
def fndV (h:Hm) (S N:Nat) (T:List Sl):Option (Nat×Nat)→Value
  | some (j,q)=>.tuple #[bV h j (T.getD j Sl.zero).c (pl (aT S N j) (T.getD j Sl.zero).c q) 0,.bool true]
  | none=>.tuple #[.agg bZ,.bool false]
def HC (S:Nat) (H:List Hx) (T:List Sl):Prop:=∀ j,j<S→(H.getD j (0,0,0)).1=((T.getD j Sl.zero).c:Int)
section
variable {h:Hm} {S N:Nat} {l0 l l':List Int} {H H':List Hx} {L L':List Int} {T T':List Sl} {w W W':World} {r:Value} {e:Ending}
theorem Sb.ok9 (d:Sb h S N l0 l H L T w) {j:Nat} (hj:j<S):(T.getD j Sl.zero).Ok:=by
  obtain⟨C,rfl,rfl,h3,h4,h5⟩:=d
  exact(h5.sl j hj).ok
theorem Sb.find (d:Sb h S N l0 l H L T w) (hH:HC S H T) {a:Int} (h64:Arn.is64 a) :
    Calls Tryz.prog 209 #[pV h,.int .i64 a] w (SbR h S N l0 l H L T (fndV h S N T (fnd S N T a)) w):=by
  by_cases hi:(Lay.inC (S:Int) (N:Int) a).2=true
  · obtain⟨j,hj⟩:∃ j,Lay.inC (S:Int) (N:Int) a=(j,true):=⟨_,Prod.ext rfl hi⟩
    have hlt:=(inC_lt d.right hj).1
    have hc:=hH j hlt
    have hok:=(d.ok9 hlt).c
    by_cases h0:(T.getD j Sl.zero).c=0
    · have e:fnd S N T a=none:=by
        unfold fnd
        rw[hj]
        exact if_neg (fun q=>q.2.1 h0)
      rw[e]
      exact d.find_no2 h64 hj (by rw[hc,h0];rfl)
    · have hz:szC ((T.getD j Sl.zero).c:Int)≠0:=by rw[Ne,Cls.szC_zero];omega
      have:=d.find_in h64 hj hc hz rfl
      by_cases hq:(a-aT S N j).toNat / szC ((T.getD j Sl.zero).c:Int)<blC ((T.getD j Sl.zero).c:Int)
      · rw[if_pos hq] at this
        have e:fnd S N T a=some (j,(a-aT S N j).toNat / szC ((T.getD j Sl.zero).c:Int)):=by
          unfold fnd
          rw[hj]
          exact if_pos ⟨rfl,h0,hq⟩
        rw[e]
        exact this
      · rw[if_neg hq] at this
        have e:fnd S N T a=none:=by
          unfold fnd
          rw[hj]
          exact if_neg (fun q=>hq q.2.2)
        rw[e]
        exact this
  · have hf:(Lay.inC (S:Int) (N:Int) a).2=false:=by simpa using hi
    have e:fnd S N T a=none:=by
      unfold fnd
      exact if_neg (fun q=>hi q.1)
    rw[e]
    refine d.find_no1 h64 ?_
    revert hf
    unfold Lay.inC
    split
    · intro q;cases q
    · intro _;rfl
theorem fnd_some {T:List Sl} {a:Int} {j q:Nat} (hr:Lay.rightC (S:Int) (N:Int)=true) (hf:fnd S N T a=some (j,q)):j<S∧q<blC (T.getD j Sl.zero).c∧(pl (aT S N j) (T.getD j Sl.zero).c q:Int)≤a∧a<(pl (aT S N j) (T.getD j Sl.zero).c q:Int)+szC (T.getD j Sl.zero).c:=by
  simp only[fnd] at hf
  split at hf
  · rename_i hq
    obtain⟨q1,q2,q3⟩:=hq
    injection hf with hf
    have e1:(Lay.inC (S:Int) (N:Int) a).1=j:=congrArg Prod.fst hf
    have e2:=congrArg Prod.snd hf
    simp only[e1] at e2 q2 q3
    rw[e2] at q3
    have hi:Lay.inC (S:Int) (N:Int) a=(j,true):=Prod.ext e1 q1
    obtain⟨h1,h2,h3⟩:=inC_lt hr hi
    have hin:=bl_in q3
    refine⟨h1,q3,?_⟩
    have hd1:=Nat.div_mul_le_self (a-aT S N j).toNat (szC ((T.getD j Sl.zero).c:Int))
    have hd2:=Nat.lt_div_mul_add (a:=(a-aT S N j).toNat) (show 0<szC ((T.getD j Sl.zero).c:Int) by omega)
    rw[e2] at hd1 hd2
    unfold pl
    omega
  · cases hf
theorem inC_at (hr:Lay.rightC (S:Int) (N:Int)=true) {j:Nat} (hj:j<S) {a:Int} (h1:(aT S N j:Int)≤a) (h2:a<(aT S N j:Int)+1024):Lay.inC (S:Int) (N:Int) a=(j,true):=by
  unfold aT at h1 h2
  unfold Lay.inC
  rw[Int.toNat_natCast,Int.toNat_natCast,if_pos ⟨hr,by omega,by unfold Lay.sizeT;omega⟩]
  refine Prod.ext ?_ rfl
  simp only
  omega
theorem fnd_at {T:List Sl} (hr:Lay.rightC (S:Int) (N:Int)=true) {j k i:Nat} (hj:j<S) (hk:k<blC (T.getD j Sl.zero).c) (hi:i<szC (T.getD j Sl.zero).c):fnd S N T ((pl (aT S N j) (T.getD j Sl.zero).c k+i:Nat):Int)=some (j,k):=by
  have hin:=bl_in hk
  have e:=inC_at (a:=((pl (aT S N j) (T.getD j Sl.zero).c k+i:Nat):Int)) hr hj (by unfold pl;omega) (by unfold pl;omega)
  have hq:(((pl (aT S N j) (T.getD j Sl.zero).c k+i:Nat):Int)-aT S N j).toNat / szC ((T.getD j Sl.zero).c:Int)=k:=by
    have:(((pl (aT S N j) (T.getD j Sl.zero).c k+i:Nat):Int)-aT S N j).toNat=i+k*szC ((T.getD j Sl.zero).c:Int):=by unfold pl;omega
    rw[this,Nat.add_mul_div_right _ _ (by omega),Nat.div_eq_of_lt hi,Nat.zero_add]
  have h0:(T.getD j Sl.zero).c≠0:=by
    intro q
    rw[q,show blC ((0:Nat):Int)=0 from rfl] at hk
    omega
  unfold fnd
  rw[e]
  simp only
  rw[hq]
  exact if_pos ⟨trivial,h0,hk⟩
set_option maxRecDepth 100000 in
set_option maxHeartbeats 4000000 in
theorem Sb.begins_any (d:Sb h S N l0 l H L T w) {a:Int} {p:Option Addr} {j c b:Int} {ok:Bool}
    (hf:∀ W,Sb h S N l0 l H L T W→Calls Tryz.prog 209 #[pV h,.int .i64 a] W (SbR h S N l0 l H L T (.tuple #[.agg (bC (.pointer p) j c b 0),.bool ok]) W)) :
    Calls Tryz.prog 120 #[pV h,.int .i64 a] w (SbR h S N l0 l H L T (.tuple #[.agg (bC (.pointer p) j c b 0),.bool (ok && decide (b=a))]) w):=by
  have HF:=Lib.hid hf
  have H0:=Lib.hid ((SX.start d).alloc bZ 153)
  clear hf d
  unfold pV at *
  unfold bC at HF
  by_cases hb:b=a
  · have hb1:(b == a)=true:=by simpa using hb
    have hbd:decide (b=a)=true:=decide_eq_true hb
    rw[hbd]
    clear hb hbd
    cases ok with
    | true =>
      go_enter Tryz.func120,Tryz.ntmps120
      go_wp2_with fail
      refine(HF.out _ H0.out.d).mono ?_
      intro e w1 hr1
      obtain rfl:=hr1.1
      have h1:=H0.out.sr hr1
      have h2:=h1.alloc (bC (.pointer p) j c b 0) 153
      have hne:w1.heap.size≠w.heap.size:=by
        have:=h1.lt _ (List.mem_cons_self ..)
        simp only at this
        omega
      obtain⟨c0,c1,c2,c3,c4⟩:=bC_cells (h2.blk (.head _))
      obtain⟨z0,z1,z2,z3,z4⟩:=bC_cells (h2.blk (.tail _ (.head _)))
      obtain⟨f0,f1,f2,f3,f4⟩:=bC_free (h2.blk (.tail _ (.head _)))
      have HQ:=Lib.hid (h2.swap.five (fun q hq=>by rcases List.mem_cons.1 hq with rfl | hq;exact hne;cases hq) (.pointer p) j c b 0).drew
      clear hr1 h1 h2
      unfold bC at *
      go_wp2_with fail
      go_region
      go_wp2
      show bodyPost _ _ _ _ _ (S5b (w1.alloc (.cells #[.pointer p,.int .i64 j,.int .i64 c,.int .i64 b,.int .i64 0] 153)) w.heap.size (.pointer p) j c b 0).drew
      generalize (S5b (w1.alloc (.cells #[.pointer p,.int .i64 j,.int .i64 c,.int .i64 b,.int .i64 0] 153)) w.heap.size (.pointer p) j c b 0).drew=W9 at HQ ⊢
      obtain⟨y0,y1,y2,y3,y4⟩:=bC_cells (p:=.pointer p) (j:=j) (c:=c) (a:=b) (nx:=0) (HQ.out.blk (.head _))
      refine bodyPost_ret (v:=.tuple #[.agg #[.pointer p,.int .i64 j,.int .i64 c,.int .i64 b,.int .i64 0],.bool true]) ?_ rfl (HQ.out.ret _)
      simp[results,Tryz.results120,go_sem,y0,y1,y2,y3,y4]
    | false =>
      go_enter Tryz.func120,Tryz.ntmps120
      go_wp2_with fail
      refine(HF.out _ H0.out.d).mono ?_
      intro e w1 hr1
      obtain rfl:=hr1.1
      have h1:=H0.out.sr hr1
      have h2:=h1.alloc (bC (.pointer p) j c b 0) 153
      have hne:w1.heap.size≠w.heap.size:=by
        have:=h1.lt _ (List.mem_cons_self ..)
        simp only at this
        omega
      obtain⟨c0,c1,c2,c3,c4⟩:=bC_cells (h2.blk (.head _))
      obtain⟨z0,z1,z2,z3,z4⟩:=bC_cells (h2.blk (.tail _ (.head _)))
      obtain⟨f0,f1,f2,f3,f4⟩:=bC_free (h2.blk (.tail _ (.head _)))
      have HQ:=Lib.hid (h2.swap.five (fun q hq=>by rcases List.mem_cons.1 hq with rfl | hq;exact hne;cases hq) (.pointer p) j c b 0).drew
      clear hr1 h1 h2
      unfold bC at *
      go_wp2_with fail
      go_region
      go_wp2
      show bodyPost _ _ _ _ _ (S5b (w1.alloc (.cells #[.pointer p,.int .i64 j,.int .i64 c,.int .i64 b,.int .i64 0] 153)) w.heap.size (.pointer p) j c b 0).drew
      generalize (S5b (w1.alloc (.cells #[.pointer p,.int .i64 j,.int .i64 c,.int .i64 b,.int .i64 0] 153)) w.heap.size (.pointer p) j c b 0).drew=W9 at HQ ⊢
      obtain⟨y0,y1,y2,y3,y4⟩:=bC_cells (p:=.pointer p) (j:=j) (c:=c) (a:=b) (nx:=0) (HQ.out.blk (.head _))
      refine bodyPost_ret (v:=.tuple #[.agg #[.pointer p,.int .i64 j,.int .i64 c,.int .i64 b,.int .i64 0],.bool false]) ?_ rfl (HQ.out.ret _)
      simp[results,Tryz.results120,go_sem,y0,y1,y2,y3,y4]
  · have hb1:(b == a)=false:=by simpa using hb
    have hbd:decide (b=a)=false:=decide_eq_false hb
    rw[hbd]
    clear hb hbd
    cases ok with
    | true =>
      go_enter Tryz.func120,Tryz.ntmps120
      go_wp2_with fail
      refine(HF.out _ H0.out.d).mono ?_
      intro e w1 hr1
      obtain rfl:=hr1.1
      have h1:=H0.out.sr hr1
      have h2:=h1.alloc (bC (.pointer p) j c b 0) 153
      have hne:w1.heap.size≠w.heap.size:=by
        have:=h1.lt _ (List.mem_cons_self ..)
        simp only at this
        omega
      obtain⟨c0,c1,c2,c3,c4⟩:=bC_cells (h2.blk (.head _))
      obtain⟨z0,z1,z2,z3,z4⟩:=bC_cells (h2.blk (.tail _ (.head _)))
      obtain⟨f0,f1,f2,f3,f4⟩:=bC_free (h2.blk (.tail _ (.head _)))
      have HQ:=Lib.hid (h2.swap.five (fun q hq=>by rcases List.mem_cons.1 hq with rfl | hq;exact hne;cases hq) (.pointer p) j c b 0).drew
      clear hr1 h1 h2
      unfold bC at *
      go_wp2_with fail
      go_region
      go_wp2
      show bodyPost _ _ _ _ _ (S5b (w1.alloc (.cells #[.pointer p,.int .i64 j,.int .i64 c,.int .i64 b,.int .i64 0] 153)) w.heap.size (.pointer p) j c b 0).drew
      generalize (S5b (w1.alloc (.cells #[.pointer p,.int .i64 j,.int .i64 c,.int .i64 b,.int .i64 0] 153)) w.heap.size (.pointer p) j c b 0).drew=W9 at HQ ⊢
      obtain⟨y0,y1,y2,y3,y4⟩:=bC_cells (p:=.pointer p) (j:=j) (c:=c) (a:=b) (nx:=0) (HQ.out.blk (.head _))
      refine bodyPost_ret (v:=.tuple #[.agg #[.pointer p,.int .i64 j,.int .i64 c,.int .i64 b,.int .i64 0],.bool false]) ?_ rfl (HQ.out.ret _)
      simp[results,Tryz.results120,go_sem,y0,y1,y2,y3,y4]
    | false =>
      go_enter Tryz.func120,Tryz.ntmps120
      go_wp2_with fail
      refine(HF.out _ H0.out.d).mono ?_
      intro e w1 hr1
      obtain rfl:=hr1.1
      have h1:=H0.out.sr hr1
      have h2:=h1.alloc (bC (.pointer p) j c b 0) 153
      have hne:w1.heap.size≠w.heap.size:=by
        have:=h1.lt _ (List.mem_cons_self ..)
        simp only at this
        omega
      obtain⟨c0,c1,c2,c3,c4⟩:=bC_cells (h2.blk (.head _))
      obtain⟨z0,z1,z2,z3,z4⟩:=bC_cells (h2.blk (.tail _ (.head _)))
      obtain⟨f0,f1,f2,f3,f4⟩:=bC_free (h2.blk (.tail _ (.head _)))
      have HQ:=Lib.hid (h2.swap.five (fun q hq=>by rcases List.mem_cons.1 hq with rfl | hq;exact hne;cases hq) (.pointer p) j c b 0).drew
      clear hr1 h1 h2
      unfold bC at *
      go_wp2_with fail
      go_region
      go_wp2
      show bodyPost _ _ _ _ _ (S5b (w1.alloc (.cells #[.pointer p,.int .i64 j,.int .i64 c,.int .i64 b,.int .i64 0] 153)) w.heap.size (.pointer p) j c b 0).drew
      generalize (S5b (w1.alloc (.cells #[.pointer p,.int .i64 j,.int .i64 c,.int .i64 b,.int .i64 0] 153)) w.heap.size (.pointer p) j c b 0).drew=W9 at HQ ⊢
      obtain⟨y0,y1,y2,y3,y4⟩:=bC_cells (p:=.pointer p) (j:=j) (c:=c) (a:=b) (nx:=0) (HQ.out.blk (.head _))
      refine bodyPost_ret (v:=.tuple #[.agg #[.pointer p,.int .i64 j,.int .i64 c,.int .i64 b,.int .i64 0],.bool false]) ?_ rfl (HQ.out.ret _)
      simp[results,Tryz.results120,go_sem,y0,y1,y2,y3,y4]
end
end Go.Proofs.YtmgeiaglandedaaGreatDoor.Sla

namespace Go.Proofs.YtmgeiaglandedaaGreatDoor.Sla
open Go.RowKit Num
open Mem (Mm MemC MRet Hm rd blkM)
open Lis (Cf LM LR Tb at_ Nx Pv Rep Hx valsN)
open Cls (szC blC pdC)
open Arn (wrL)
set_option linter.unusedVariables false
theorem app1 (a:Value) : #[a]++(#[]:Array Value) = #[a]:=by simp
set_option maxRecDepth 100000 in
set_option maxHeartbeats 4000000 in
theorem turn_any (h:Hm) (S N j c:Nat) (hj:j<S) (F:FuncId) (hE:∀ args w,(callFunc F args).run Tryz.prog w = .ok (.enter F args) w) (I:Nat→World→Prop) (rest:Int) (Q:World→Prop)
    (hI:∀ i W,I i W→Sm h S N W) (hM:∀ i W W',I i W→Below W.heap.size W W'→I i W')
    (hS:∀ i W,i<blC c→I i W→Calls Tryz.prog F #[bV h j c (pl (aT S N j) c i) (nxt (aT S N j) c i)] W fun e W'=>e = .returned (.tuple #[])∧I (i+1) W')
    (hP:∀ W,I (blC c) W→Calls Tryz.prog 203 #[pV h,.int .i64 ((aT S N j+1024-pdC c:Nat):Int),.int .i64 (pdC c:Int),.int .i64 rest] W fun e W'=>e = .returned (.tuple #[])∧Q W')
    (w:World) (h0:I 0 w) :
    Calls Tryz.prog 213 #[pV h,.int .i64 (j:Int),.int .i64 (c:Int),.func (.func F) #[] #[],.int .i64 rest] w fun e w'=>e = .returned (.tuple #[])∧Q w':=by
  have HEa:=Lib.hid (each_any h S N j c hj F #[] hE I hI hM (fun i W hi hw=>by rw[app1];exact hS i W hi hw) w h0)
  have HPd:=Lib.hid (fun W (hw:I (blC c) W)=>Cls.pad_any c W (hI _ W hw).cls)
  have HCf:=Lib.hid (fun W (hw:I (blC c) W)=>(hI _ W hw).config)
  have HSA:=Lib.hid (fun W (hw:I (blC c) W)=>(hI _ W hw).slabAt hj)
  have HM:=Lib.hid (hM (blC c))
  have HP:=Lib.hid hP
  have hbd:=(hI 0 w h0).base hj
  have hpd:pdC (c:Int)≤1024:=by unfold pdC;split<;>omega
  have hw1:IntKind.i64.wrap ((aT S N j:Int)+1024)=((aT S N j+1024:Nat):Int):=(Arn.wrap_id (by omega) (by omega)).trans (by omega)
  obtain⟨A,hA⟩:∃ A,A=aT S N j+1024:=⟨_,rfl⟩
  rw[←hA] at hw1 HP
  have hw2:IntKind.i64.wrap ((A:Int)-(pdC (c:Int):Int))=((A-pdC (c:Int):Nat):Int):=(Arn.wrap_id (by omega) (by omega)).trans (by omega)
  obtain⟨D,hD⟩:∃ D,D=A-pdC (c:Int):=⟨_,rfl⟩
  rw[←hD] at hw2 HP
  generalize pdC (c:Int)=pd at *
  generalize aT S N j=A0 at *
  generalize I (blC (c:Int))=J at *
  clear hI hM hS hP h0 hA hD hE hbd hpd
  unfold pV at *
  go_enter Tryz.func213,Tryz.ntmps213
  go_wp2_with fail
  refine HEa.out.mono ?_
  rintro e w1 ⟨rfl,h1⟩
  go_wp2_with fail
  refine(HPd.out _ h1).mono ?_
  rintro e w2 ⟨rfl,rfl⟩
  go_wp2_with fail
  refine(HCf.out _ h1).mono ?_
  rintro e w3 ⟨rfl,hb3⟩
  have h3:=HM.out _ _ h1 hb3
  clear hb3 h1
  go_wp2_with fail
  refine(HSA.out _ h3).mono ?_
  rintro e w4 ⟨rfl,hb4⟩
  have h4:=HM.out _ _ h3 hb4
  clear hb4 h3
  go_wp2_with fail
  refine(HP.out _ h4).mono ?_
  rintro e w5 ⟨rfl,h5⟩
  clear h4
  go_wp2
  refine bodyPost_end (results_none rfl _ _ _) rfl ⟨rfl,h5⟩
section
variable {h:Hm} {S N:Nat} {l0 l l':List Int} {H H':List Hx} {L L':List Int} {T T':List Sl} {w W W':World} {r:Value} {e:Ending}
def Off (a n:Nat) (l l':List Int):Prop:=∀ t,t<a∨a+n≤t→l'.getD t 0=l.getD t 0
theorem Sb.turn_open (d:Sb h S N l0 l H L T w) {j c:Nat} (hj:j<S) (hc:1≤c) (h9:c≤9) :
    Calls Tryz.prog 213 #[pV h,.int .i64 (j:Int),.int .i64 (c:Int),.func (.func 123) #[] #[],.int .i64 8] w fun e w'=>∃ l',SbR h S N l0 l' H L (T.set j ⟨c,List.range (blC c)⟩) (.tuple #[]) w e w'∧Off (aT S N j) 1024 l l':=by
  obtain⟨C,rfl,rfl,h3,h4,h5⟩:=d
  have hbs:=ok_base h5.ok
  have hA:aT C.s C.n j+1024≤Lay.sizeT C.s C.n:=by unfold aT;omega
  have hA16:aT C.s C.n j % 16=0:=by unfold aT;omega
  have hz:¬ szC (c:Int)=0:=by rw[Cls.szC_zero];omega
  have hpe:=pd_end (c:Int) hz
  have hpm:=(sz_mod (c:Int)).2
  refine(turn_any h C.s C.n j c hj 123 (enters_of Tryz.func123 (by kernel_rfl) rfl)
    (fun i W=>∃ x l',SM h (Cf.withX C x) l' W∧Out (aT C.s C.n j) 1024 l l' C.x x∧Op l' x (aT C.s C.n j) c i∧Fr w.heap.size (blkM h) w W) 8
    (fun W=>∃ l',Sb h C.s C.n l0 l' H L (T.set j ⟨c,List.range (blC c)⟩) W∧Off (aT C.s C.n j) 1024 l l'∧Fr w.heap.size (blkM h) w W) ?_ ?_ ?_ ?_ w ⟨C.x,l,h4,Out.refl _ _ _ _,Op.zero _ _ _ _,Fr.refl _ _ _⟩).mono ?_
  · rintro i W ⟨x,l',q1,q2,q3,q4⟩
    exact⟨Cf.withX C x,l',rfl,rfl,withX_ok h5.ok q2.lx (fun t ht=>q2.x t (by unfold aT;omega)),q1⟩
  · rintro i W W' ⟨x,l',q1,q2,q3,q4⟩ hb
    exact⟨x,l',q1.below hb,q2,q3,q4.trans ((Fr.of_below hb).mono q4.size (fun _ _ q=>q))⟩
  · rintro i W hi ⟨x,l',q1,q2,q3,q4⟩
    have hin:=bl_in hi
    have hmm:=mul_mod (c:Int) i
    have hxl:x.length=Lay.sizeT C.s C.n:=q2.lx.trans h5.xl
    have hll:l'.length=Lay.sizeT C.s C.n:=q2.ll.trans h5.ll
    have hpp:pl (aT C.s C.n j) c i+szC (c:Int)≤aT C.s C.n j+1024:=by unfold pl;omega
    have hn:nxt (aT C.s C.n j) c i<4294967296:=by
      unfold nxt
      split
      · rename_i hq
        have:=bl_in hq
        unfold pl
        omega
      · omega
    refine(free_any h (Cf.withX C x) l' j c (pl (aT C.s C.n j) c i) (nxt (aT C.s C.n j) c i) W q1 (by show _≤x.length;omega) (by unfold pl;omega) hin.2.2 hn).mono ?_
    intro e W' hr
    refine⟨hr.1,wrL x (pl (aT C.s C.n j) c i) (List.replicate (szC (c:Int)) 6),_,hr.2.1,?_,q3.step hi (by omega) (by omega),q4.trans (hr.2.2.mono q4.size (fun _ _ q=>q))⟩
    exact q2.trans ((Out.link (by omega) (by omega) (by omega) 6 _).wide (by unfold pl;omega) hpp)
  · rintro W ⟨x,l',q1,q2,q3,q4⟩
    have hxl:x.length=Lay.sizeT C.s C.n:=q2.lx.trans h5.xl
    have hll:l'.length=Lay.sizeT C.s C.n:=q2.ll.trans h5.ll
    refine(q1.blank (aT C.s C.n j+1024-pdC c) (pdC c) 8 (by show _≤x.length;omega) (by omega) (by omega) (by omega) (by omega)).mono ?_
    intro e W' hr
    have ho:=q2.trans ((Out.blank (a:=aT C.s C.n j+1024-pdC c) (z:=pdC c) (l:=l') (x:=x) (by omega) (by omega) 8).wide (B:=aT C.s C.n j) (m:=1024) (by omega) (by omega))
    refine⟨hr.1,_,⟨Cf.withX C (wrL x (aT C.s C.n j+1024-pdC c) (List.replicate (pdC c) 8)),rfl,rfl,h3,hr.2.1,h5.slab hj ho (q3.done hc h9 (by omega) (by omega))⟩,fun t ht=>ho.l t ht,q4.trans (hr.2.2.mono q4.size (fun _ _ q=>q))⟩
  · rintro e W ⟨rfl,l',q1,q2,q3⟩
    exact⟨l',⟨rfl,q1,q3⟩,q2⟩
theorem Sb.turn_shut (d:Sb h S N l0 l H L T w) {j c:Nat} (hj:j<S) (hc:1≤c) (h9:c≤9) :
    Calls Tryz.prog 213 #[pV h,.int .i64 (j:Int),.int .i64 (c:Int),.func (.func 214) #[] #[],.int .i64 7] w fun e w'=>∃ l',SbR h S N l0 l' H L (T.set j Sl.zero) (.tuple #[]) w e w'∧Off (aT S N j) 1024 l l':=by
  obtain⟨C,rfl,rfl,h3,h4,h5⟩:=d
  have hbs:=ok_base h5.ok
  have hA:aT C.s C.n j+1024≤Lay.sizeT C.s C.n:=by unfold aT;omega
  have hA16:aT C.s C.n j % 16=0:=by unfold aT;omega
  have hz:¬ szC (c:Int)=0:=by rw[Cls.szC_zero];omega
  have hpe:=pd_end (c:Int) hz
  have hpm:=(sz_mod (c:Int)).2
  refine(turn_any h C.s C.n j c hj 214 (enters_of Tryz.func214 (by kernel_rfl) rfl)
    (fun i W=>∃ x l',SM h (Cf.withX C x) l' W∧Out (aT C.s C.n j) 1024 l l' C.x x∧Sh l' x (aT C.s C.n j) (i*szC (c:Int))∧Fr w.heap.size (blkM h) w W) 7
    (fun W=>∃ l',Sb h C.s C.n l0 l' H L (T.set j Sl.zero) W∧Off (aT C.s C.n j) 1024 l l'∧Fr w.heap.size (blkM h) w W) ?_ ?_ ?_ ?_ w ⟨C.x,l,h4,Out.refl _ _ _ _,fun t h1 h2=>by omega,Fr.refl _ _ _⟩).mono ?_
  · rintro i W ⟨x,l',q1,q2,q3,q4⟩
    exact⟨Cf.withX C x,l',rfl,rfl,withX_ok h5.ok q2.lx (fun t ht=>q2.x t (by unfold aT;omega)),q1⟩
  · rintro i W W' ⟨x,l',q1,q2,q3,q4⟩ hb
    exact⟨x,l',q1.below hb,q2,q3,q4.trans ((Fr.of_below hb).mono q4.size (fun _ _ q=>q))⟩
  · rintro i W hi ⟨x,l',q1,q2,q3,q4⟩
    have hin:=bl_in hi
    have hmm:=mul_mod (c:Int) i
    have hxl:x.length=Lay.sizeT C.s C.n:=q2.lx.trans h5.xl
    have hll:l'.length=Lay.sizeT C.s C.n:=q2.ll.trans h5.ll
    have hpp:pl (aT C.s C.n j) c i+szC (c:Int)≤aT C.s C.n j+1024:=by unfold pl;omega
    refine(dissolve_any h (Cf.withX C x) l' j c (pl (aT C.s C.n j) c i) (nxt (aT C.s C.n j) c i) W q1 (by show _≤x.length;omega) (by unfold pl;omega)).mono ?_
    intro e W' hr
    refine⟨hr.1,wrL x (pl (aT C.s C.n j) c i) (List.replicate (szC (c:Int)) 7),_,hr.2.1,?_,q3.step rfl (by rw[Nat.add_mul,Nat.one_mul]) (by omega) (by omega),q4.trans (hr.2.2.mono q4.size (fun _ _ q=>q))⟩
    exact q2.trans ((Out.blank (by omega) (by omega) 7).wide (by unfold pl;omega) hpp)
  · rintro W ⟨x,l',q1,q2,q3,q4⟩
    have hxl:x.length=Lay.sizeT C.s C.n:=q2.lx.trans h5.xl
    have hll:l'.length=Lay.sizeT C.s C.n:=q2.ll.trans h5.ll
    refine(q1.blank (aT C.s C.n j+1024-pdC c) (pdC c) 7 (by show _≤x.length;omega) (by omega) (by omega) (by omega) (by omega)).mono ?_
    intro e W' hr
    have ho:=q2.trans ((Out.blank (a:=aT C.s C.n j+1024-pdC c) (z:=pdC c) (l:=l') (x:=x) (by omega) (by omega) 7).wide (B:=aT C.s C.n j) (m:=1024) (by omega) (by omega))
    have hsh:Sh (wrL l' (aT C.s C.n j+1024-pdC c) (List.replicate (pdC c) 0)) (wrL x (aT C.s C.n j+1024-pdC c) (List.replicate (pdC c) 7)) (aT C.s C.n j) 1024:=q3.step (by omega) (by omega) (by omega) (by omega)
    refine⟨hr.1,_,⟨Cf.withX C (wrL x (aT C.s C.n j+1024-pdC c) (List.replicate (pdC c) 7)),rfl,rfl,h3,hr.2.1,h5.slab hj ho hsh.done⟩,fun t ht=>ho.l t ht,q4.trans (hr.2.2.mono q4.size (fun _ _ q=>q))⟩
  · rintro e W ⟨rfl,l',q1,q2,q3⟩
    exact⟨l',⟨rfl,q1,q3⟩,q2⟩
theorem Sb.liveB (d:Sb h S N l0 l H L T w) {j c k:Nat} {r:List Nat} (hj:j<S) (hT:T.getD j Sl.zero=⟨c,k::r⟩) (nx:Nat) :
    Calls Tryz.prog 114 #[bV h j c (pl (aT S N j) c k) nx] w fun e w'=>∃ l',SbR h S N l0 l' H L (T.set j ⟨c,r⟩) (.tuple #[]) w e w'∧Off (pl (aT S N j) c k) (szC c) l l'∧∀ i,i<szC c→l'.getD (pl (aT S N j) c k+i) 0=0:=by
  obtain⟨C,rfl,rfl,h3,h4,h5⟩:=d
  have hbs:=ok_base h5.ok
  have hsl:=h5.sl j hj
  rw[hT] at hsl
  have hk:k<blC (c:Int):=hsl.ok.lt k (by simp)
  have hin:=bl_in hk
  have hA:aT C.s C.n j+1024≤Lay.sizeT C.s C.n:=by unfold aT;omega
  have hb:=pl_bd (S:=0) (N:=0) h5.ok hj hk
  have hpp:pl (aT C.s C.n j) c k+szC (c:Int)≤aT C.s C.n j+1024:=by unfold pl;omega
  refine(live_any h C l j c (pl (aT C.s C.n j) c k) nx w h4 (by rw[h5.xl];omega) (by omega)).mono ?_
  intro e w' hr
  have ho:=(Out.blank (a:=pl (aT C.s C.n j) c k) (z:=szC (c:Int)) (l:=l) (x:=C.x) (by rw[h5.ll];omega) (by rw[h5.xl];omega) 5)
  refine⟨_,⟨hr.1,⟨Cf.withX C (wrL C.x (pl (aT C.s C.n j) c k) (List.replicate (szC (c:Int)) 5)),rfl,rfl,h3,hr.2.1,h5.slab hj (ho.wide (by unfold pl;omega) hpp) (hsl.take (by rw[h5.ll];omega) (by rw[h5.xl];omega))⟩,hr.2.2⟩,fun t ht=>ho.l t ht,fun i hi=>?_⟩
  rw[Mem.wr_rep _ _ _ _ _ (by rw[h5.ll];omega),if_pos (by omega)]
theorem Sb.freeB (d:Sb h S N l0 l H L T w) {j c k:Nat} {f:List Nat} (hj:j<S) (hT:T.getD j Sl.zero=⟨c,f⟩) (hk:k<blC c) (hf:k ∉ f) :
    Calls Tryz.prog 123 #[bV h j c (pl (aT S N j) c k) (lk (aT S N j) c f)] w fun e w'=>∃ l',SbR h S N l0 l' H L (T.set j ⟨c,k::f⟩) (.tuple #[]) w e w'∧Off (pl (aT S N j) c k) (szC c) l l':=by
  obtain⟨C,rfl,rfl,h3,h4,h5⟩:=d
  have hbs:=ok_base h5.ok
  have hsl:=h5.sl j hj
  rw[hT] at hsl
  have hin:=bl_in hk
  have hA:aT C.s C.n j+1024≤Lay.sizeT C.s C.n:=by unfold aT;omega
  have hb:=pl_bd (S:=0) (N:=0) h5.ok hj hk
  have hpp:pl (aT C.s C.n j) c k+szC (c:Int)≤aT C.s C.n j+1024:=by unfold pl;omega
  have hn:lk (aT C.s C.n j) c f<4294967296:=by
    cases f with
    | nil=>show 0<4294967296;omega
    | cons y f =>
      have hy:y<blC (c:Int):=hsl.ok.lt y (by simp)
      have:=pl_bd (S:=0) (N:=0) h5.ok hj hy
      show pl (aT C.s C.n j) c y<_
      omega
  refine(free_any h C l j c (pl (aT C.s C.n j) c k) (lk (aT C.s C.n j) c f) w h4 (by rw[h5.xl];omega) (by omega) hin.2.2 hn).mono ?_
  intro e w' hr
  have ho:=(Out.link (a:=pl (aT C.s C.n j) c k) (z:=szC (c:Int)) (l:=l) (x:=C.x) (by rw[h5.ll];omega) (by omega) (by rw[h5.xl];omega) 6 (lk (aT C.s C.n j) c f))
  exact⟨_,⟨hr.1,⟨Cf.withX C (wrL C.x (pl (aT C.s C.n j) c k) (List.replicate (szC (c:Int)) 6)),rfl,rfl,h3,hr.2.1,h5.slab hj (ho.wide (by unfold pl;omega) hpp) (hsl.give hk hf (by rw[h5.ll];omega) (by rw[h5.xl];omega))⟩,hr.2.2⟩,fun t ht=>ho.l t ht⟩
end
end Go.Proofs.YtmgeiaglandedaaGreatDoor.Sla

namespace Go.Proofs.YtmgeiaglandedaaGreatDoor.Sla
open Go.RowKit Num
open Mem (Mm MemC MRet Hm rd blkM)
open Lis (Cf LM LR Tb at_ Nx Pv Rep Hx valsN)
open Cls (szC blC pdC)
open Arn (wrL)
set_option linter.unusedVariables false
theorem le_p4 {v:Int} (h0:0≤v) (h1:v<4294967296):le (Hea.p4 v)=v:=by
  simp only[Hea.p4,le]
  omega
theorem p4_get (v:Int) (i:Nat):(Hea.p4 v).getD i 0=(fr v).getD (i+4) 0:=by
  show _=([0,0,0,0]++Hea.p4 v).getD (i+4) 0
  simp[List.getD]
theorem fb_rd {l:List Int} {a z:Nat} {nm:Int} (h:FB l a z nm) (hz:8≤z) (ha:a+8≤l.length) (h0:0≤nm) (h1:nm<4294967296):rd l (a+4) 4=nm:=by
  have e:(l.drop (a+4)).take 4=Hea.p4 nm:=by
    refine Mem.list_of_getD (by simp[Hea.p4];omega) (fun i hi=>?_)
    have h4:i<4:=by simp at hi;omega
    rw[p4_get]
    have:=h (i+4) (by omega)
    rw[show a+(i+4)=a+4+i by omega] at this
    rw[←this]
    simp[List.getD,h4]
  unfold rd
  rw[e,le_p4 h0 h1]
section
variable {h:Hm} {S N:Nat} {l0 l l':List Int} {H H':List Hx} {L L':List Int} {T T':List Sl} {w W W':World} {r:Value} {e:Ending}
theorem SlabOk.free_at {l x:List Int} {A:Nat} {s:Sl} {k:Nat} {f:List Nat} (h:SlabOk l x A s) (hf:s.f=k::f):k<blC s.c∧FB l (pl A s.c k) (szC s.c) (lk A s.c f)∧∀ i,i<szC s.c→x.getD (pl A s.c k+i) 0=6:=by
  have hk:=h.ok.lt k (by rw[hf];simp)
  have h2:=h.f
  rw[hf] at h2
  exact⟨hk,h2.1,fun i hi=>by rw[h.k k hk i hi,if_pos (by rw[hf];simp)]⟩
theorem lk_bd {C:Cf} (hC:C.Ok) {j:Nat} (hj:j<C.s) {s:Sl} (hs:s.Ok) (f:List Nat) (hf:∀ k,k∈f→k∈s.f):lk (aT C.s C.n j) s.c f≤100000:=by
  cases f with
  | nil=>show 0≤100000;omega
  | cons y f =>
    have hy:=hs.lt y (hf y (by simp))
    have:=pl_bd (S:=0) (N:=0) hC hj hy
    show pl (aT C.s C.n j) s.c y≤_
    omega
theorem Sb.kind8 (d:Sb h S N l0 l H L T w) {j k:Nat} {f:List Nat} (hj:j<S) (hf:(T.getD j Sl.zero).f=k::f) :
    Calls Tryz.prog 35 #[pV h,.int .i64 (pl (aT S N j) (T.getD j Sl.zero).c k:Int),.int .i64 8] w fun e w'=>e = .returned (.int .i64 6)∧Below w.heap.size w w':=by
  obtain⟨C,rfl,rfl,h3,h4,h5⟩:=d
  obtain⟨hk,-,hx⟩:=(h5.sl j hj).free_at hf
  have hin:=bl_in hk
  have hb:=pl_bd (S:=0) (N:=0) h5.ok hj hk
  obtain⟨-,lk,hm⟩:=h4.m
  have:=Mem.kind_any h _ _ (pl (aT C.s C.n j) (T.getD j Sl.zero).c k:Int) 8 w hm (by unfold Arn.is64;omega)
  have hkn:Wat.kndA C.x (pl (aT C.s C.n j) (T.getD j Sl.zero).c k:Int) 8=6:=by
    have h:=Mem.look_iff (n:=8).2 ⟨by decide,by rw[h5.xl];omega,by omega,by decide,fun i hi=>hx i (by omega)⟩
    unfold Wat.lookA at h
    simp only[Bool.and_eq_true,decide_eq_true_eq] at h
    exact h.2.2.2.2
  rw[show (C.mm l lk).x=C.x from rfl,hkn] at this
  exact this
theorem Sb.load4 (d:Sb h S N l0 l H L T w) {j k:Nat} {f:List Nat} (hj:j<S) (hf:(T.getD j Sl.zero).f=k::f) :
    Calls Tryz.prog 165 #[pV h,.int .i64 (pl (aT S N j) (T.getD j Sl.zero).c k:Int),.int .i64 4] w (SbR h S N l0 l H L T (.int .u64 (lk (aT S N j) (T.getD j Sl.zero).c f:Int)) w):=by
  obtain⟨C,rfl,rfl,h3,h4,h5⟩:=d
  have hsl:=h5.sl j hj
  obtain⟨hk,hfb,hx⟩:=hsl.free_at hf
  have hin:=bl_in hk
  have hb:=pl_bd (S:=0) (N:=0) h5.ok hj hk
  have hlk:=lk_bd h5.ok hj hsl.ok f (fun y hy=>by rw[hf];simp[hy])
  obtain⟨-,lk0,hm⟩:=id h4.m
  refine(Hea.hload_any h _ (C.mm l lk0) (pl (aT C.s C.n j) (T.getD j Sl.zero).c k) 0 4 w h4.t hm (room_free (by rw[h5.xl];omega) (by omega) (fun i hi=>hx i (by omega)) lk0) (fun q=>absurd rfl q)).mono ?_
  rintro e w' ⟨lk1,hq⟩
  have e1:Hea.ldF (C.mm l lk0).l (pl (aT C.s C.n j) (T.getD j Sl.zero).c k) 0 4=(lk (aT C.s C.n j) (T.getD j Sl.zero).c f:Int):=by
    show Hea.ldF l _ 0 4=_
    unfold Hea.ldF
    rw[show Hea.whF 0 4=(4,4) from rfl,if_neg (by decide)]
    exact fb_rd hfb (by omega) (by rw[h5.ll];omega) (by omega) (by omega)
  rw[e1] at hq
  have hr:=h4.mret (lk:=lk1) hq
  exact⟨hr.1,⟨C,rfl,rfl,h3,hr.2.1,h5⟩,hr.2.2⟩
theorem Sb.get_all {j:Nat} (hj:j<S):∃ x p:Nat,∀ W,Sb h S N l0 l H L T W→Calls Tryz.prog 122 #[pV h,.int .i64 (j:Int)] W
    (SbR h S N l0 l H L T (.tuple #[.agg #[.int .i64 (H.getD j (0,0,0)).1,.int .i64 (H.getD j (0,0,0)).2.1,.int .u32 (H.getD j (0,0,0)).2.2,.int .i64 (x:Int),.int .i64 (p:Int)],.int .i64 0]) W):=by
  refine⟨(Lis.nbX L j).1,(Lis.nbX L j).2,fun w d=>?_⟩
  obtain⟨C,rfl,h2,h3,h4,h5⟩:=d
  refine(Lis.get_any h C l j w h5.ok h4.m).mono ?_
  intro e w' hq
  rw[Lis.gtH_is h5.rep,Lis.gtD,if_pos ⟨by omega,by omega⟩,Int.toNat_natCast,Lis.gtE,if_pos ⟨by omega,by omega⟩] at hq
  have hr:=h4.lr hq
  exact⟨hr.1,⟨C,rfl,h2,h3,hr.2.1,h5⟩,hr.2.2⟩
theorem Sb.begins (d:Sb h S N l0 l H L T w) (hH:HC S H T) {a:Int} (h64:Arn.is64 a) {j k:Nat} (hf:fnd S N T a=some (j,k)) :
    Calls Tryz.prog 120 #[pV h,.int .i64 a] w (SbR h S N l0 l H L T (.tuple #[bV h j (T.getD j Sl.zero).c (pl (aT S N j) (T.getD j Sl.zero).c k) 0,.bool (decide ((pl (aT S N j) (T.getD j Sl.zero).c k:Int)=a))]) w):=by
  have:=d.begins_any (a:=a) (p:=some ⟨h.g,0,none⟩) (j:=j) (c:=(T.getD j Sl.zero).c) (b:=pl (aT S N j) (T.getD j Sl.zero).c k) (ok:=true) (fun W k=>by
    have q:=k.find hH h64
    rw[hf] at q
    exact q)
  rw[Bool.true_and] at this
  exact this
theorem Sb.begins_no (d:Sb h S N l0 l H L T w) (hH:HC S H T) {a:Int} (h64:Arn.is64 a) (hf:fnd S N T a=none) :
    Calls Tryz.prog 120 #[pV h,.int .i64 a] w (SbR h S N l0 l H L T (.tuple #[.agg bZ,.bool false]) w):=by
  have:=d.begins_any (a:=a) (p:=none) (j:=0) (c:=0) (b:=0) (ok:=false) (fun W k=>by
    have q:=k.find hH h64
    rw[hf] at q
    exact q)
  rw[Bool.false_and] at this
  exact this
set_option maxRecDepth 100000 in
set_option maxHeartbeats 4000000 in
theorem Sb.firstB (d:Sb h S N l0 l H L T w) (hH:HC S H T) {j c k:Nat} {f:List Nat} (hj:j<S) (hT:T.getD j Sl.zero=⟨c,k::f⟩) (hF:(H.getD j (0,0,0)).2.2=(pl (aT S N j) c k:Int)) :
    Calls Tryz.prog 113 #[pV h,.int .i64 (j:Int)] w (SbR h S N l0 l H L T (.tuple #[bV h j c (pl (aT S N j) c k) (lk (aT S N j) c f),.bool true]) w):=by
  have hTf:(T.getD j Sl.zero).f=k::f:=by rw[hT]
  have hTc:(T.getD j Sl.zero).c=c:=by rw[hT]
  have hk:k<blC (T.getD j Sl.zero).c:=(d.ok9 hj).lt k (by rw[hTf];simp)
  have hin:=bl_in hk
  have hfn:fnd S N T (pl (aT S N j) c k:Int)=some (j,k):=by
    have:=fnd_at (N:=N) (T:=T) d.right hj hk (show 0<_ by omega)
    rw[hTc,Nat.add_zero] at this
    exact this
  have hPb:pl (aT S N j) c k≤110000∧lk (aT S N j) c f≤100000:=by
    obtain⟨C,rfl,rfl,h3,h4,h5⟩:=id d
    have h1:=pl_bd (S:=0) (N:=0) h5.ok hj hk
    have h2:=lk_bd h5.ok hj (h5.sl j hj).ok f (fun y hy=>by rw[hTf];simp[hy])
    rw[hTc] at h1 h2
    omega
  obtain⟨x,p,hg⟩:=Sb.get_all (h:=h) (N:=N) (l0:=l0) (l:=l) (H:=H) (L:=L) (T:=T) hj
  have hHc:=hH j hj
  rw[hTc] at hHc
  rw[hHc,hF] at hg
  generalize (H.getD j (0,0,0)).2.1=v at hg
  have hbg:=fun W (dd:Sb h S N l0 l H L T W)=>dd.begins hH (a:=(pl (aT S N j) c k:Int)) (by unfold Arn.is64;omega) hfn
  have hki:=fun W (dd:Sb h S N l0 l H L T W)=>dd.kind8 hj hTf
  have hld:=fun W (dd:Sb h S N l0 l H L T W)=>dd.load4 hj hTf
  rw[hTc] at hbg hki hld
  generalize pl (aT S N j) c k=P at hPb hg hbg hki hld ⊢
  generalize lk (aT S N j) c f=X at hPb hld ⊢
  have hdd:decide ((P:Int)=(P:Int))=true:=decide_eq_true rfl
  rw[hdd] at hbg
  have HGt:=Lib.hid hg
  have HBg:=Lib.hid hbg
  have HLd:=Lib.hid hld
  have HZ:=Lib.hid (fun W=>Hea.size_any 0 W)
  rw[show Hea.szF 0=8 from rfl] at HZ
  have H0:=Lib.hid ((SX.start d).alloc bZ 153)
  have hw1:IntKind.i64.wrap (P:Int)=(P:Int):=Arn.wrap_id (by omega) (by omega)
  have hw2:IntKind.i64.wrap (X:Int)=(X:Int):=Arn.wrap_id (by omega) (by omega)
  obtain⟨c0,c1,c2,c3,c4⟩:=bC_cells (H0.out.blk (.head _))
  have HKi:=Lib.hid hki
  clear hg hbg hki hld hdd hF hT hTf hTc hk hin hfn hPb hHc hH c0 c1 c2 c3 c4
  unfold pV at *
  unfold bV bCells pV at *
  go_enter Tryz.func113,Tryz.ntmps113
  go_wp2_with fail
  refine(HGt.out _ H0.out.d).mono ?_
  intro e w1 hr1
  obtain rfl:=hr1.1
  have h1:=H0.out.sr hr1
  have H1:=Lib.hid (h1.alloc #[.int .i64 (c:Int),.int .i64 v,.int .u32 (P:Int),.int .i64 (x:Int),.int .i64 (p:Int)] 160)
  have d2:=(cell_block (H1.out.blk (.head _)) 2).trans (show _=some (Value.int .u32 (P:Int)) from rfl)
  have hne1:w1.heap.size≠w.heap.size:=by
    have:=h1.lt _ (List.mem_cons_self ..)
    simp only at this
    omega
  clear hr1 h1 H0
  go_wp2_with fail
  refine(HBg.out _ H1.out.d).mono ?_
  intro e w2 hr2
  obtain rfl:=hr2.1
  have h2:=H1.out.sr hr2
  have H2:=Lib.hid (h2.alloc (bC (.pointer (some ⟨h.g,0,none⟩)) j c P 0) 153)
  have hne2:w2.heap.size≠w.heap.size∧w2.heap.size≠w1.heap.size:=by
    have k1:=h2.lt _ (List.mem_cons_self ..)
    have k2:=h2.lt _ (List.mem_cons_of_mem _ (List.mem_cons_self ..))
    simp only at k1 k2
    omega
  clear hr2 h2 H1 d2
  obtain⟨PP,hPP⟩:∃ PP:World→Prop,PP=SX h S N l0 l H L T w [(w2.heap.size,.cells (bC (.pointer (some ⟨h.g,0,none⟩)) j c P 0) 153 (0,0)),(w1.heap.size,.cells #[.int .i64 (c:Int),.int .i64 v,.int .u32 (P:Int),.int .i64 (x:Int),.int .i64 (p:Int)] 160 (0,0)),(w.heap.size,.cells bZ 153 (0,0))]:=⟨_,rfl⟩
  have HPD:Hid (∀ W,PP W→PP W.drew):=fun W h=>by rw[hPP] at h ⊢;exact h.drew
  have HPK:Hid (∀ W,PP W→Calls Tryz.prog 35 #[.pointer (some ⟨h.g,0,none⟩),.int .i64 (P:Int),.int .i64 8] W fun e W'=>e = .returned (.int .i64 6)∧PP W'):=fun W h=>by
    rw[hPP] at h ⊢
    refine(HKi.out W h.d).mono ?_
    rintro e W' ⟨rfl,hb⟩
    exact⟨rfl,h.below hb⟩
  have HPC:Hid (∀ W,PP W→W.cell? ⟨w2.heap.size,1,none⟩=some (.int .i64 (j:Int))∧W.cell? ⟨w2.heap.size,3,none⟩=some (.int .i64 (P:Int))):=fun W h=>by
    rw[hPP] at h
    have k:=bC_cells (h.blk (.head _))
    exact⟨k.2.1,k.2.2.2.1⟩
  have HPO:Hid (∀ W,PP W→SX h S N l0 l H L T w [(w2.heap.size,.cells (bC (.pointer (some ⟨h.g,0,none⟩)) j c P 0) 153 (0,0)),(w1.heap.size,.cells #[.int .i64 (c:Int),.int .i64 v,.int .u32 (P:Int),.int .i64 (x:Int),.int .i64 (p:Int)] 160 (0,0)),(w.heap.size,.cells bZ 153 (0,0))] W):=fun W h=>by rw[hPP] at h;exact h
  have hX:PP (w2.alloc (.cells (bC (.pointer (some ⟨h.g,0,none⟩)) j c P 0) 153)):=by rw[hPP];exact H2.out
  obtain⟨c1,c3⟩:=HPC.out _ hX
  have hjj:((j:Int) != (j:Int))=false:=by simp
  clear hPP H2
  unfold bC at hX c1 c3
  go_wp2_with fail
  go_region_held3 (fun w'=>w'.cell? ⟨w2.heap.size,1,none⟩=some (.int .i64 (j:Int))∧w'.cell? ⟨w2.heap.size,3,none⟩=some (.int .i64 (P:Int))) (first | exact⟨c1,c3⟩ | go_keep) ((first | (go_at_call 202;refine(HZ.out _).mono ?_;rintro e w7 ⟨rfl,rfl⟩) | (go_at_call 35;refine(HPK.out _ (by first | exact hX | exact HPD.out _ hX)).mono ?_;rintro e w7 ⟨rfl,hX7⟩;replace hX:=hX7;obtain⟨c1,c3⟩:=HPC.out _ hX7;clear hX7)))
  all_goals
    have H7:=Lib.hid (HPO.out _ hX)
    clear hX HPO HPC HPK HPD
    go_wp2_with fail
    refine(HLd.out _ H7.out.d).mono ?_
    intro e w8 hr8
    obtain rfl:=hr8.1
    have h8:=H7.out.sr hr8
    have f4:=Hea.frozen_block (h8.blk (.head _)) 4
    have g4:=(bC_cells (h8.blk (.head _))).2.2.2.2
    have h9:=h8.setC (fun q hq=>by
      rcases List.mem_cons.1 hq with rfl | hq
      · exact hne2.2.symm
      · rcases List.mem_cons.1 hq with rfl | hq
        · exact hne2.1.symm
        · cases hq) 4 (.int .i64 (X:Int))
    obtain⟨b0,b1,b2,b3,b4⟩:=bC_cells (p:=.pointer (some ⟨h.g,0,none⟩)) (j:=j) (c:=c) (a:=P) (nx:=X) (h9.blk (.head _))
    have hbk:=h9.blk (.tail _ (.tail _ (.head _)))
    obtain⟨z0,z1,z2,z3,z4⟩:=bC_cells hbk
    obtain⟨f5,f6,f7,f8,f9⟩:=bC_free hbk
    have h10:SX h S N l0 l H L T w [(w.heap.size,.cells bZ 153 (0,0))] (w8.setCell ⟨w2.heap.size,4,none⟩ (.int .i64 (X:Int))):=h9.weak.weak
    have HQ:=Lib.hid (h10.five (fun q hq=>by cases hq) (.pointer (some ⟨h.g,0,none⟩)) j c P X)
    clear hr8 h8 h9 h10 hbk H7
    go_wp2
    show bodyPost _ _ _ _ _ (S5b (w8.setCell ⟨w2.heap.size,4,none⟩ (.int .i64 (X:Int))) w.heap.size (.pointer (some ⟨h.g,0,none⟩)) j c P X)
    generalize S5b (w8.setCell ⟨w2.heap.size,4,none⟩ (.int .i64 (X:Int))) w.heap.size (.pointer (some ⟨h.g,0,none⟩)) j c P X=W9 at HQ ⊢
    obtain⟨y0,y1,y2,y3,y4⟩:=bC_cells (HQ.out.blk (.head _))
    refine bodyPost_ret (v:=.tuple #[.agg #[.pointer (some ⟨h.g,0,none⟩),.int .i64 (j:Int),.int .i64 (c:Int),.int .i64 (P:Int),.int .i64 (X:Int)],.bool true]) ?_ rfl (HQ.out.ret _)
    simp[results,Tryz.results113,go_sem,y0,y1,y2,y3,y4]
theorem Sb.liveL (d:Sb h S N l0 l H L T w) {j:Nat} (hj:j<S) (hc:(H.getD j (0,0,0)).1=((T.getD j Sl.zero).c:Int)) :
    Calls Tryz.prog 124 #[pV h,.int .i64 (j:Int)] w fun e w'=>∃ u,SbR h S N l0 l H L T u w e w'∧Row .i64 w' u (Lis.ints (kpA S N j (T.getD j Sl.zero) 5))∧∀ b,u.ownBlock=some b→w.heap.size≤b:=by
  have HH:=Lib.hid (d.having hj hc 5)
  clear d
  unfold pV at *
  go_enter Tryz.func124,Tryz.ntmps124
  go_wp2_with fail
  refine HH.out.mono ?_
  rintro e w1 ⟨u,hr,hrow,hb⟩
  obtain rfl:=hr.1
  have HG:=Lib.hid hr
  have HR:=Lib.hid hrow
  have HB:=Lib.hid hb
  clear hr hrow hb HH
  go_wp2
  go_ret
  exact⟨u,HG.out,HR.out,HB.out⟩
set_option maxRecDepth 100000 in
set_option maxHeartbeats 4000000 in
theorem Sb.note (d:Sb h S N l0 l H L T w) {j:Nat} (hj:j<S) (hc:(H.getD j (0,0,0)).1=((T.getD j Sl.zero).c:Int)) (a nx g:Nat) (hg:g<4294967296) :
    Calls Tryz.prog 115 #[bV h j (T.getD j Sl.zero).c a nx,.int .i64 (g:Int)] w fun e w'=>∃ l',SbR h S N l0 l' (H.set j (((T.getD j Sl.zero).c:Int),((kpA S N j (T.getD j Sl.zero) 5).length:Int),(g:Int))) L T (.tuple #[]) w e w'∧Up S N l l':=by
  have hok:=(d.ok9 hj).c
  have hkl:=kpA_len S N j (T.getD j Sl.zero) 5
  have HLi:Hid (∀ W,Sb h S N l0 l H L T W→Calls Tryz.prog 124 #[pV h,.int .i64 (j:Int)] W fun e W'=>∃ a cap,SbR h S N l0 l H L T (.slice a (kpA S N j (T.getD j Sl.zero) 5).length cap) W e W'):=fun W k=>by
    refine(k.liveL hj hc).mono ?_
    rintro e W' ⟨u,hr,hrow,-⟩
    obtain⟨a,cap,rfl,-⟩:=hrow
    rw[Lis.ints_length] at hr
    exact⟨a,cap,hr⟩
  have HSe:=Lib.hid (fun W (k:Sb h S N l0 l H L T W)=>k.set hj (c:=(T.getD j Sl.zero).c) (v:=(kpA S N j (T.getD j Sl.zero) 5).length) (f:=g) hok (by omega) hg)
  generalize (kpA S N j (T.getD j Sl.zero) 5).length=m at hkl HLi HSe ⊢
  generalize (T.getD j Sl.zero).c=c at HSe ⊢
  have hw1:IntKind.u32.wrap (g:Int)=(g:Int):=Lis.u32_id (by omega) (by omega)
  have h0:=(SX.start d).alloc (bC (pV h) j c a nx) 153
  obtain⟨PP,hPP⟩:∃ PP:World→Prop,PP=SX h S N l0 l H L T w [(w.heap.size,.cells (bC (pV h) j c a nx) 153 (0,0))]:=⟨_,rfl⟩
  obtain⟨QQ,hQQ⟩:∃ QQ:World→Prop,QQ=fun W=>∃ l',SX h S N l0 l' (H.set j ((c:Int),(m:Int),(g:Int))) L T w [(w.heap.size,.cells (bC (pV h) j c a nx) 153 (0,0))] W∧Up S N l l':=⟨_,rfl⟩
  have HPD:Hid (∀ W,PP W→PP W.drew):=fun W h=>by rw[hPP] at h ⊢;exact h.drew
  have HPL:Hid (∀ W,PP W→Calls Tryz.prog 124 #[pV h,.int .i64 (j:Int)] W fun e W'=>∃ a cap,e = .returned (.slice a m cap)∧PP W'):=fun W h=>by
    rw[hPP] at h ⊢
    refine(HLi.out W h.d).mono ?_
    rintro e W' ⟨a,cap,hr⟩
    exact⟨a,cap,hr.1,h.sr hr⟩
  have HPS:Hid (∀ W,PP W→Calls Tryz.prog 205 #[pV h,.int .i64 (j:Int),.int .i64 (c:Int),.int .i64 (m:Int),.int .u32 (g:Int)] W fun e W'=>e = .returned (.int .i64 0)∧QQ W'):=fun W h=>by
    rw[hPP] at h
    rw[hQQ]
    refine(HSe.out W h.d).mono ?_
    rintro e W' ⟨l',hr,hu⟩
    exact⟨hr.1,l',h.sr hr,hu⟩
  have HPC:Hid (∀ W,PP W→W.cell? ⟨w.heap.size,0,none⟩=some (pV h)∧W.cell? ⟨w.heap.size,1,none⟩=some (.int .i64 (j:Int))∧W.cell? ⟨w.heap.size,2,none⟩=some (.int .i64 (c:Int))):=fun W h=>by
    rw[hPP] at h
    have k:=bC_cells (h.blk (.head _))
    exact⟨k.1,k.2.1,k.2.2.1⟩
  have HQC:Hid (∀ W,QQ W→W.cell? ⟨w.heap.size,0,none⟩=some (pV h)∧W.cell? ⟨w.heap.size,1,none⟩=some (.int .i64 (j:Int))∧W.cell? ⟨w.heap.size,2,none⟩=some (.int .i64 (c:Int))):=fun W h=>by
    rw[hQQ] at h
    obtain⟨l',h,-⟩:=h
    have k:=bC_cells (h.blk (.head _))
    exact⟨k.1,k.2.1,k.2.2.1⟩
  have HQO:Hid (∀ W,QQ W→∃ l',SbR h S N l0 l' (H.set j ((c:Int),(m:Int),(g:Int))) L T (.tuple #[]) w (.returned (.tuple #[])) W∧Up S N l l'):=fun W h=>by
    rw[hQQ] at h
    obtain⟨l',h,hu⟩:=h
    exact⟨l',h.ret _,hu⟩
  have hX:PP (w.alloc (.cells (bC (pV h) j c a nx) 153)):=by rw[hPP];exact h0
  obtain⟨c0,c1,c2⟩:=HPC.out _ hX
  clear hPP hQQ h0 d hc hok HLi HSe
  unfold bV
  unfold bCells
  unfold bC at *
  unfold pV at *
  go_enter Tryz.func115,Tryz.ntmps115
  go_wp2_with fail
  go_region_held3 (fun w'=>w'.cell? ⟨w.heap.size,0,none⟩=some (.pointer (some ⟨h.g,0,none⟩))∧w'.cell? ⟨w.heap.size,1,none⟩=some (.int .i64 (j:Int))∧w'.cell? ⟨w.heap.size,2,none⟩=some (.int .i64 (c:Int))) (first | exact⟨c0,c1,c2⟩ | go_keep) ((first | (go_at_call 124;refine(HPL.out _ (by first | exact hX | exact HPD.out _ hX)).mono ?_;rintro e w7 ⟨a7,cap7,rfl,hX7⟩;replace hX:=hX7;obtain⟨c0,c1,c2⟩:=HPC.out _ hX7;clear hX7) | (go_at_call 205;refine(HPS.out _ (by first | exact hX | exact HPD.out _ hX)).mono ?_;rintro e w7 ⟨rfl,hX7⟩;replace hX:=hX7;obtain⟨c0,c1,c2⟩:=HQC.out _ hX7;clear hX7)))
  have HG:=Lib.hid (HQO.out _ hX)
  clear hX c0 c1 c2
  go_wp2
  refine bodyPost_end (results_none rfl _ _ _) rfl HG.out
end
end Go.Proofs.YtmgeiaglandedaaGreatDoor.Sla

namespace Go.Proofs.YtmgeiaglandedaaGreatDoor.Sla
open Go.RowKit Num
open Mem (Mm MemC MRet Hm rd blkM)
open Lis (Cf LM LR Tb at_ Nx Pv Rep Hx valsN)
open Cls (szC blC pdC)
open Arn (wrL)
set_option linter.unusedVariables false
def OffU (S N a n:Nat) (l l':List Int):Prop:=∀ t,Lay.baseT S N≤t→t<a∨a+n≤t→l'.getD t 0=l.getD t 0
section
variable {h:Hm} {S N:Nat} {l0 l l':List Int} {H H':List Hx} {L L':List Int} {T T':List Sl} {w W W':World} {r:Value} {e:Ending}
theorem Up.off {a b:List Int} (h:Up S N a b) (x n:Nat):OffU S N x n a b:=fun t ht _=>h t ht
theorem Off.offU {x n:Nat} {a b:List Int} (h:Off x n a b) (S N:Nat):OffU S N x n a b:=fun t _ ht=>h t ht
theorem OffU.trans {x n:Nat} {a b c:List Int} (h:OffU S N x n a b) (k:OffU S N x n b c):OffU S N x n a c:=fun t h1 h2=>(k t h1 h2).trans (h t h1 h2)
theorem Sb.insert0 (d:Sb h S N l0 l H L T w) {j:Nat} (hj:j<S) (hL:at_ L j = -1):Calls Tryz.prog 126 #[pV h,.int .i64 0,.int .i64 (j:Int)] w
    fun e w'=>∃ l',SbR h S N l0 l' H (L.set j 0) T (.int .i64 0) w e w'∧Up S N l l':=by
  have:=d.insert hj (c:=0) (by omega) hL
  rw[show ((0:Nat):Int)=0 from rfl] at this
  exact this
theorem Sb.remove0 (d:Sb h S N l0 l H L T w) {j:Nat} (hj:j<S) (hL:at_ L j=0):Calls Tryz.prog 116 #[pV h,.int .i64 0,.int .i64 (j:Int)] w
    fun e w'=>∃ l',SbR h S N l0 l' H (L.set j (-1)) T (.int .i64 0) w e w'∧Up S N l l':=by
  have:=d.remove hj (c:=0) (by omega) hL
  rw[show ((0:Nat):Int)=0 from rfl] at this
  exact this
theorem Sb.set0 (d:Sb h S N l0 l H L T w) {j c f:Nat} (hj:j<S) (hc:c≤9) (hf:f<4294967296):Calls Tryz.prog 205 #[pV h,.int .i64 (j:Int),.int .i64 (c:Int),.int .i64 0,.int .u32 (f:Int)] w
    fun e w'=>∃ l',SbR h S N l0 l' (H.set j ((c:Int),0,(f:Int))) L T (.int .i64 0) w e w'∧Up S N l l':=by
  have:=d.set hj (c:=c) (v:=0) (f:=f) hc (by omega) hf
  rw[show ((0:Nat):Int)=0 from rfl] at this
  exact this
theorem Sb.set00 (d:Sb h S N l0 l H L T w) {j:Nat} (hj:j<S):Calls Tryz.prog 205 #[pV h,.int .i64 (j:Int),.int .i64 0,.int .i64 0,.int .u32 0] w
    fun e w'=>∃ l',SbR h S N l0 l' (H.set j (0,0,0)) L T (.int .i64 0) w e w'∧Up S N l l':=by
  have:=d.set hj (c:=0) (v:=0) (f:=0) (by omega) (by omega) (by omega)
  rw[show ((0:Nat):Int)=0 from rfl] at this
  exact this
theorem Sb.first0 (d:Sb h S N l0 l H L T w) {v:Nat} (hv:Nx L 0 0 v):Calls Tryz.prog 200 #[pV h,.int .i64 0] w (SbR h S N l0 l H L T (.int .i64 ((v:Int)-1)) w):=by
  have:=d.first (c:=0) (by omega) hv
  rw[show ((0:Nat):Int)=0 from rfl] at this
  exact this
set_option maxRecDepth 100000 in
set_option maxHeartbeats 4000000 in
theorem Sb.openS (d:Sb h S N l0 l H L T w) {j c:Nat} (hj:j<S) (hL:at_ L j=0) (hc:1≤c) (h9:c≤9) :
    Calls Tryz.prog 201 #[pV h,.int .i64 (j:Int),.int .i64 (c:Int)] w fun e w'=>∃ l',SbR h S N l0 l' (H.set j ((c:Int),0,(aT S N j:Int))) ((L.set j (-1)).set j (c:Int)) (T.set j ⟨c,List.range (blC c)⟩) (.tuple #[]) w e w'∧OffU S N (aT S N j) 1024 l l':=by
  have hbd:=d.sm.base hj
  have hLl:=d.tl.2.1
  have H1:=Lib.hid (d.remove0 hj hL)
  have H2:=Lib.hid (fun l1 L1 W (k:Sb h S N l0 l1 H L1 T W)=>k.turn_open hj hc h9)
  have H3:=Lib.hid (fun l1 L1 T1 W (k:Sb h S N l0 l1 H L1 T1 W)=>k.sm.config)
  have H4:=Lib.hid (fun l1 L1 T1 W (k:Sb h S N l0 l1 H L1 T1 W)=>k.sm.slabAt hj)
  have H5:=Lib.hid (fun l1 L1 T1 W (k:Sb h S N l0 l1 H L1 T1 W)=>k.set0 hj (c:=c) (f:=aT S N j) h9 (by omega))
  have H6:=Lib.hid (fun l1 H1 (L1:List Int) T1 W (k:Sb h S N l0 l1 H1 (L1.set j (-1)) T1 W) (hl:L1.length=S)=>k.insert hj h9 (by rw[Lis.at_set (by omega),if_pos rfl]))
  have hw1:IntKind.u32.wrap (aT S N j:Int)=(aT S N j:Int):=Lis.u32_id (by omega) (by omega)
  generalize aT S N j=A at *
  generalize List.range (blC (c:Int))=fs at *
  clear d hL hbd
  unfold pV at *
  go_enter Tryz.func201,Tryz.ntmps201
  go_wp2_with fail
  refine H1.out.mono ?_
  rintro e w1 ⟨l1,hr1,hu1⟩
  obtain rfl:=hr1.1
  have HF1:=Lib.hid hr1.2.2
  have HU1:=Lib.hid (hu1.off A 1024)
  have hd1:=hr1.2.1
  clear hr1 hu1 H1
  go_wp2_with fail
  refine(H2.out _ _ _ hd1).mono ?_
  rintro e w2 ⟨l2,hr2,hu2⟩
  obtain rfl:=hr2.1
  have HF2:Hid (Fr w.heap.size (blkM h) w w2):=HF1.out.trans (hr2.2.2.mono HF1.out.size (fun _ _ q=>q))
  have HU2:=Lib.hid (HU1.out.trans (hu2.offU S N))
  have hd2:=hr2.2.1
  clear hr2 hu2 H2 HF1 HU1 hd1
  go_wp2_with fail
  refine(H3.out _ _ _ _ hd2).mono ?_
  rintro e w3 ⟨rfl,hb3⟩
  have hd3:=hd2.below hb3
  have HF3:Hid (Fr w.heap.size (blkM h) w w3):=HF2.out.trans ((Fr.of_below hb3).mono HF2.out.size (fun _ _ q=>q))
  clear hb3 hd2 HF2
  go_wp2_with fail
  refine(H4.out _ _ _ _ hd3).mono ?_
  rintro e w4 ⟨rfl,hb4⟩
  have hd4:=hd3.below hb4
  have HF4:Hid (Fr w.heap.size (blkM h) w w4):=HF3.out.trans ((Fr.of_below hb4).mono HF3.out.size (fun _ _ q=>q))
  clear hb4 hd3 HF3
  go_wp2_with fail
  refine(H5.out _ _ _ _ hd4).mono ?_
  rintro e w5 ⟨l5,hr5,hu5⟩
  obtain rfl:=hr5.1
  have HF5:Hid (Fr w.heap.size (blkM h) w w5):=HF4.out.trans (hr5.2.2.mono HF4.out.size (fun _ _ q=>q))
  have HU5:=Lib.hid (HU2.out.trans (hu5.off A 1024))
  have hd5:=hr5.2.1
  clear hr5 hu5 H5 HF4 HU2 hd4
  go_wp2_with fail
  refine(H6.out _ _ _ _ _ hd5 hLl).mono ?_
  rintro e w6 ⟨l6,hr6,hu6⟩
  obtain rfl:=hr6.1
  have HG:Hid (∃ l',SbR h S N l0 l' (H.set j ((c:Int),0,(A:Int))) ((L.set j (-1)).set j (c:Int)) (T.set j ⟨c,fs⟩) (.tuple #[]) w (.returned (.tuple #[])) w6∧OffU S N A 1024 l l'):=⟨l6,⟨rfl,hr6.2.1,HF5.out.trans (hr6.2.2.mono HF5.out.size (fun _ _ q=>q))⟩,HU5.out.trans (hu6.off A 1024)⟩
  clear hr6 hu6 hd5 HF5 HU5
  go_wp2
  refine bodyPost_end (results_none rfl _ _ _) rfl HG.out
set_option maxRecDepth 100000 in
set_option maxHeartbeats 4000000 in
theorem Sb.shutS (d:Sb h S N l0 l H L T w) {j c:Nat} (hj:j<S) (hL:at_ L j=(c:Int)) (hc:1≤c) (h9:c≤9) :
    Calls Tryz.prog 125 #[pV h,.int .i64 (j:Int),.int .i64 (c:Int)] w fun e w'=>∃ l',SbR h S N l0 l' (H.set j (0,0,0)) ((L.set j (-1)).set j 0) (T.set j Sl.zero) (.tuple #[]) w e w'∧OffU S N (aT S N j) 1024 l l':=by
  have hLl:=d.tl.2.1
  have H1:=Lib.hid (d.remove hj h9 hL)
  have H2:=Lib.hid (fun l1 L1 W (k:Sb h S N l0 l1 H L1 T W)=>k.turn_shut hj hc h9)
  have H5:=Lib.hid (fun l1 L1 T1 W (k:Sb h S N l0 l1 H L1 T1 W)=>k.set00 hj)
  have H6:=Lib.hid (fun l1 H1 (L1:List Int) T1 W (k:Sb h S N l0 l1 H1 (L1.set j (-1)) T1 W) (hl:L1.length=S)=>k.insert0 hj (by rw[Lis.at_set (by omega),if_pos rfl]))
  generalize aT S N j=A at *
  clear d hL
  unfold pV at *
  go_enter Tryz.func125,Tryz.ntmps125
  go_wp2_with fail
  refine H1.out.mono ?_
  rintro e w1 ⟨l1,hr1,hu1⟩
  obtain rfl:=hr1.1
  have HF1:=Lib.hid hr1.2.2
  have HU1:=Lib.hid (hu1.off A 1024)
  have hd1:=hr1.2.1
  clear hr1 hu1 H1
  go_wp2_with fail
  refine(H2.out _ _ _ hd1).mono ?_
  rintro e w2 ⟨l2,hr2,hu2⟩
  obtain rfl:=hr2.1
  have HF4:Hid (Fr w.heap.size (blkM h) w w2):=HF1.out.trans (hr2.2.2.mono HF1.out.size (fun _ _ q=>q))
  have HU2:=Lib.hid (HU1.out.trans (hu2.offU S N))
  have hd4:=hr2.2.1
  clear hr2 hu2 H2 HF1 HU1 hd1
  go_wp2_with fail
  refine(H5.out _ _ _ _ hd4).mono ?_
  rintro e w5 ⟨l5,hr5,hu5⟩
  obtain rfl:=hr5.1
  have HF5:Hid (Fr w.heap.size (blkM h) w w5):=HF4.out.trans (hr5.2.2.mono HF4.out.size (fun _ _ q=>q))
  have HU5:=Lib.hid (HU2.out.trans (hu5.off A 1024))
  have hd5:=hr5.2.1
  clear hr5 hu5 H5 HF4 HU2 hd4
  go_wp2_with fail
  refine(H6.out _ _ _ _ _ hd5 hLl).mono ?_
  rintro e w6 ⟨l6,hr6,hu6⟩
  obtain rfl:=hr6.1
  have HG:Hid (∃ l',SbR h S N l0 l' (H.set j (0,0,0)) ((L.set j (-1)).set j 0) (T.set j Sl.zero) (.tuple #[]) w (.returned (.tuple #[])) w6∧OffU S N A 1024 l l'):=⟨l6,⟨rfl,hr6.2.1,HF5.out.trans (hr6.2.2.mono HF5.out.size (fun _ _ q=>q))⟩,HU5.out.trans (hu6.off A 1024)⟩
  clear hr6 hu6 hd5 HF5 HU5
  go_wp2
  refine bodyPost_end (results_none rfl _ _ _) rfl HG.out
set_option maxRecDepth 100000 in
set_option maxHeartbeats 4000000 in
theorem Sb.source_has (d:Sb h S N l0 l H L T w) {c j:Nat} (h9:c≤9) (hv:Nx L c 0 (j+1)) :
    Calls Tryz.prog 112 #[pV h,.int .i64 (c:Int)] w (SbR h S N l0 l H L T (.tuple #[.int .i64 (j:Int),.bool true]) w):=by
  have h1:=d.first h9 hv
  rw[show (((j+1:Nat):Int)-1)=(j:Int) by omega] at h1
  have H1:=Lib.hid h1
  have hge:(0:Int)≤(j:Int):=by omega
  clear h1 d hv
  unfold pV at *
  go_enter Tryz.func112,Tryz.ntmps112
  go_wp2_with fail
  refine H1.out.mono ?_
  intro e w1 hr
  obtain rfl:=hr.1
  have HG:=Lib.hid hr
  clear hr H1
  go_wp2
  go_ret2
  exact⟨rfl,HG.out.2⟩
set_option maxRecDepth 100000 in
set_option maxHeartbeats 4000000 in
theorem Sb.source_no (d:Sb h S N l0 l H L T w) {c:Nat} (h9:c≤9) (hv:Nx L c 0 0) (hv0:Nx L 0 0 0) :
    Calls Tryz.prog 112 #[pV h,.int .i64 (c:Int)] w (SbR h S N l0 l H L T (.tuple #[.int .i64 0,.bool false]) w):=by
  have h1:=d.first h9 hv
  rw[show (((0:Nat):Int)-1) = -1 by omega] at h1
  have h2:=fun W (k:Sb h S N l0 l H L T W)=>k.first0 hv0
  rw[show (((0:Nat):Int)-1) = -1 by omega] at h2
  have H1:=Lib.hid h1
  have H2:=Lib.hid h2
  clear h1 h2 d hv hv0
  unfold pV at *
  go_enter Tryz.func112,Tryz.ntmps112
  go_wp2_with fail
  refine H1.out.mono ?_
  intro e w1 hr
  obtain rfl:=hr.1
  have hd1:=hr.2.1
  have HF1:=Lib.hid hr.2.2
  clear hr H1
  go_wp2_with fail
  refine(H2.out _ hd1).mono ?_
  intro e w2 hr2
  obtain rfl:=hr2.1
  have HG:Hid (SbR h S N l0 l H L T (.tuple #[.int .i64 0,.bool false]) w (.returned (.tuple #[.int .i64 0,.bool false])) w2):=⟨rfl,hr2.2.1,HF1.out.trans (hr2.2.2.mono HF1.out.size (fun _ _ q=>q))⟩
  clear hr2 hd1 HF1 H2
  go_wp2
  go_ret2
  exact HG.out
set_option maxRecDepth 100000 in
set_option maxHeartbeats 4000000 in
theorem Sb.source_new (d:Sb h S N l0 l H L T w) {c j:Nat} (hc:1≤c) (h9:c≤9) (hv:Nx L c 0 0) (hv0:Nx L 0 0 (j+1)) (hj:j<S) (hL:at_ L j=0) :
    Calls Tryz.prog 112 #[pV h,.int .i64 (c:Int)] w fun e w'=>∃ l',SbR h S N l0 l' (H.set j ((c:Int),0,(aT S N j:Int))) ((L.set j (-1)).set j (c:Int)) (T.set j ⟨c,List.range (blC c)⟩) (.tuple #[.int .i64 (j:Int),.bool true]) w e w'∧OffU S N (aT S N j) 1024 l l':=by
  have h1:=d.first h9 hv
  rw[show (((0:Nat):Int)-1) = -1 by omega] at h1
  have h2:=fun W (k:Sb h S N l0 l H L T W)=>k.first0 hv0
  rw[show (((j+1:Nat):Int)-1)=(j:Int) by omega] at h2
  have H1:=Lib.hid h1
  have H2:=Lib.hid h2
  have H3:=Lib.hid (fun W (k:Sb h S N l0 l H L T W)=>k.openS hj hL hc h9)
  generalize (L.set j (-1)).set j (c:Int)=L2 at H3 ⊢
  generalize H.set j ((c:Int),0,(aT S N j:Int))=H4 at H3 ⊢
  generalize T.set j ⟨c,List.range (blC c)⟩=T2 at H3 ⊢
  have hge:¬ (j:Int)<0:=by omega
  clear h1 h2 d hv hv0 hL
  unfold pV at *
  go_enter Tryz.func112,Tryz.ntmps112
  go_wp2_with fail
  refine H1.out.mono ?_
  intro e w1 hr
  obtain rfl:=hr.1
  have hd1:=hr.2.1
  have HF1:=Lib.hid hr.2.2
  clear hr H1
  go_wp2_with fail
  refine(H2.out _ hd1).mono ?_
  intro e w2 hr2
  obtain rfl:=hr2.1
  have HF2:Hid (Fr w.heap.size (blkM h) w w2):=HF1.out.trans (hr2.2.2.mono HF1.out.size (fun _ _ q=>q))
  have hd2:=hr2.2.1
  clear hr2 hd1 HF1 H2
  go_wp2_with fail
  refine(H3.out _ hd2).mono ?_
  rintro e w3 ⟨l3,hr3,hu3⟩
  obtain rfl:=hr3.1
  have HG:Hid (∃ l',SbR h S N l0 l' H4 L2 T2 (.tuple #[.int .i64 (j:Int),.bool true]) w (.returned (.tuple #[.int .i64 (j:Int),.bool true])) w3∧OffU S N (aT S N j) 1024 l l'):=⟨l3,⟨rfl,hr3.2.1,HF2.out.trans (hr3.2.2.mono HF2.out.size (fun _ _ q=>q))⟩,hu3⟩
  clear hr3 hu3 hd2 HF2 H3
  go_wp2
  go_ret2
  exact HG.out
end
end Go.Proofs.YtmgeiaglandedaaGreatDoor.Sla

namespace Go.Proofs.YtmgeiaglandedaaGreatDoor.Sla
open Go.RowKit Num
open Mem (Mm MemC MRet Hm rd blkM)
open Lis (Cf LM LR Tb at_ Nx Pv Rep Hx valsN)
open Cls (szC blC pdC)
open Arn (wrL)
set_option linter.unusedVariables false
theorem filter_cons_len (k:Nat) (f:List Nat) (hk:k ∉ f):∀ R:List Nat,R.Nodup→(R.filter fun x=>decide (x∈k::f)).length=(R.filter fun x=>decide (x∈f)).length+(if k∈R then 1 else 0)
  | [],_=>by simp
  | x::R,hR=>by
    obtain⟨h1,h2⟩:=List.nodup_cons.1 hR
    have ih:=filter_cons_len k f hk R h2
    by_cases e:x=k
    · subst e
      have hx:(if x∈R then 1 else 0)=0:=if_neg h1
      rw[hx] at ih
      rw[List.filter_cons_of_pos (by simp),List.filter_cons_of_neg (by simpa using hk),if_pos (by simp),List.length_cons,ih]
    · have hm:(k∈x::R)↔k∈R:=by simp[Ne.symm e]
      by_cases hx:x∈f
      · rw[List.filter_cons_of_pos (by simp[hx]),List.filter_cons_of_pos (by simp[hx]),List.length_cons,List.length_cons,ih]
        simp only[hm]
        omega
      · rw[List.filter_cons_of_neg (by simp[hx,e]),List.filter_cons_of_neg (by simp[hx]),ih]
        simp only[hm]
theorem filter_len:∀ (f:List Nat),f.Nodup→∀ n,(∀ k∈f,k<n)→((List.range n).filter fun x=>decide (x∈f)).length=f.length
  | [],_,n,_=>by simp
  | k::f,hf,n,h=>by
    obtain⟨h1,h2⟩:=List.nodup_cons.1 hf
    rw[filter_cons_len k f h1 _ List.nodup_range,filter_len f h2 n (fun x hx=>h x (by simp[hx])),if_pos (by simp;exact h k (by simp)),List.length_cons]
theorem filter_not_len {α : Type} (p : α → Bool):∀ R:List α,(R.filter p).length+(R.filter fun x => !p x).length=R.length
  | []=>rfl
  | x::R=>by
    have ih:=filter_not_len p R
    cases hp:p x
    · rw[List.filter_cons_of_neg (by simp[hp]),List.filter_cons_of_pos (by simp[hp])]
      simp only[List.length_cons]
      omega
    · rw[List.filter_cons_of_pos (by simp[hp]),List.filter_cons_of_neg (by simp[hp])]
      simp only[List.length_cons]
      omega
theorem Sl.Ok.len {s:Sl} (h:s.Ok):s.v.length+s.f.length=blC s.c:=by
  have h1:=filter_len s.f h.nd (blC s.c) h.lt
  have h2:=filter_not_len (fun x=>decide (x∈s.f)) (List.range (blC s.c))
  have e:((List.range (blC s.c)).filter fun x => !decide (x∈s.f))=s.v:=by
    unfold Sl.v
    refine List.filter_congr (fun k _=>?_)
    simp
  rw[e,List.length_range,h1] at h2
  omega
theorem kpA5_len (S N j:Nat) (s:Sl):(kpA S N j s 5).length=s.v.length:=by
  unfold kpA
  rw[List.length_map,kp_live]
def lst (s:Sl):Int:=if s.c=0 then 0 else if s.f = [] then -1 else (s.c:Int)
theorem lst_zero {s:Sl} : lst s=0↔s.c=0:=by
  unfold lst
  split
  · rename_i h;simp[h]
  · rename_i h
    split
    · simp[h]
    · simp[h]
theorem lst_pos {s:Sl} {c:Nat} (hc:1≤c) (h:lst s=(c:Int)):s.c=c∧s.f ≠ []:=by
  unfold lst at h
  split at h
  · omega
  · split at h
    · omega
    · rename_i h1 h2
      exact⟨by omega,h2⟩
structure Co (S N:Nat) (H:List Hx) (L:List Int) (T:List Sl):Prop where
  h:∀ j,j<S→H.getD j (0,0,0)=(((T.getD j Sl.zero).c:Int),((T.getD j Sl.zero).v.length:Int),(lk (aT S N j) (T.getD j Sl.zero).c (T.getD j Sl.zero).f:Int))
  l:∀ j,j<S→at_ L j=lst (T.getD j Sl.zero)
  v:∀ j,j<S→(T.getD j Sl.zero).c≠0→(T.getD j Sl.zero).v ≠ []
theorem Co.hc {S N:Nat} {H:List Hx} {L:List Int} {T:List Sl} (h:Co S N H L T):HC S H T:=fun j hj=>by rw[h.h j hj]
def fi (T:List Sl) (c:Int):Option Nat:=(List.range T.length).find? fun j=>lst (T.getD j Sl.zero) == c
theorem fi_some {T:List Sl} {c:Int} {j:Nat} (h:fi T c=some j):j<T.length∧lst (T.getD j Sl.zero)=c∧∀ i,i<j→lst (T.getD i Sl.zero)≠c:=by
  unfold fi at h
  rw[List.find?_range_eq_some] at h
  obtain⟨h1,h2,h3⟩:=h
  refine⟨by simpa using h2,by simpa using h1,fun i hi=>?_⟩
  have:=h3 i hi
  simpa using this
theorem fi_none {T:List Sl} {c:Int} (h:fi T c=none):∀ i,i<T.length→lst (T.getD i Sl.zero)≠c:=by
  unfold fi at h
  rw[List.find?_range_eq_none] at h
  intro i hi
  have:=h i hi
  simpa using this
theorem nx_some {S N:Nat} {H:List Hx} {L:List Int} {T:List Sl} (h:Co S N H L T) (hL:L.length=S) (hT:T.length=S) {c:Int} {j:Nat} (hf:fi T c=some j):Nx L c 0 (j+1):=by
  obtain⟨h1,h2,h3⟩:=fi_some hf
  exact .inr ⟨j,rfl,by omega,by omega,by rw[h.l j (by omega),h2],fun i _ hi=>by rw[h.l i (by omega)];exact h3 i hi⟩
theorem nx_none {S N:Nat} {H:List Hx} {L:List Int} {T:List Sl} (h:Co S N H L T) (hL:L.length=S) (hT:T.length=S) {c:Int} (hf:fi T c=none):Nx L c 0 0 :=
  .inl ⟨rfl,fun i _ hi=>by rw[h.l i (by omega)];exact fi_none hf i (by omega)⟩
def tkJ (T:List Sl) (c:Nat):Option (Nat×List Sl) :=
  match fi T c with
  | some j=>some (j,T)
  | none=>match fi T 0 with
    | some j=>some (j,T.set j ⟨c,List.range (blC c)⟩)
    | none=>none
def tkF (S N:Nat) (T:List Sl) (c:Int):(Int×Int)×List Sl :=
  if szC c=0 then ((0,2),T) else
    match tkJ T c.toNat with
    | none=>((0,5),T)
    | some (j,T1)=>match (T1.getD j Sl.zero).f with
      | []=>((0,5),T)
      | k::r=>(((pl (aT S N j) c k:Int),0),T1.set j ⟨c.toNat,r⟩)
def gvF (S N:Nat) (T:List Sl) (a:Int):Int×List Sl :=
  match fnd S N T a with
  | none=>(30,T)
  | some (j,k)=>if (pl (aT S N j) (T.getD j Sl.zero).c k:Int)=a∧k ∉ (T.getD j Sl.zero).f then
      (0,T.set j (if (T.getD j Sl.zero).f.length+1=blC (T.getD j Sl.zero).c then Sl.zero else ⟨(T.getD j Sl.zero).c,k::(T.getD j Sl.zero).f⟩)) else (30,T)
def Kp (S N:Nat) (T T':List Sl) (l l':List Int):Prop:=∀ j k,j<S→k∈(T.getD j Sl.zero).v→k∈(T'.getD j Sl.zero).v→(T'.getD j Sl.zero).c=(T.getD j Sl.zero).c →
  ∀ i,i<szC (T.getD j Sl.zero).c→l'.getD (pl (aT S N j) (T.getD j Sl.zero).c k+i) 0=l.getD (pl (aT S N j) (T.getD j Sl.zero).c k+i) 0
theorem Kp.refl (S N:Nat) (T T':List Sl) (l:List Int):Kp S N T T' l l:=fun _ _ _ _ _ _ _ _=>rfl
theorem off_block {S N j k k':Nat} {c:Int} {l l':List Int} (h:OffU S N (pl (aT S N j) c k) (szC c) l l') (hk:k'≠k) {i:Nat} (hi:i<szC c):l'.getD (pl (aT S N j) c k'+i) 0=l.getD (pl (aT S N j) c k'+i) 0:=by
  refine h _ (by unfold pl aT;omega) ?_
  rcases Nat.lt_or_gt_of_ne hk with q | q
  · have:=bl_apart c q
    unfold pl;omega
  · have:=bl_apart c q
    unfold pl;omega
theorem off_slab {S N j j' k':Nat} {c:Int} {l l':List Int} (h:OffU S N (aT S N j) 1024 l l') (hj:j'≠j) (hk:k'<blC c) {i:Nat} (hi:i<szC c):l'.getD (pl (aT S N j') c k'+i) 0=l.getD (pl (aT S N j') c k'+i) 0:=by
  have:=bl_in hk
  refine h _ (by unfold pl aT;omega) ?_
  unfold pl aT
  omega
theorem off_wide {S N j k:Nat} {c:Int} {l l':List Int} (h:OffU S N (pl (aT S N j) c k) (szC c) l l') (hk:k<blC c):OffU S N (aT S N j) 1024 l l':=fun t h1 h2=>by
  have:=bl_in hk
  refine h t h1 ?_
  unfold pl
  omega
theorem zero_v {s:Sl} (h:s.c=0):s.v = []:=by
  unfold Sl.v
  rw[h,show blC ((0:Nat):Int)=0 from rfl]
  rfl
theorem mem_lt {s:Sl} {k:Nat} (h:k∈s.v):k<blC s.c∧k ∉ s.f:=(s.mem_v k).1 h
structure St (h:Hm) (S N:Nat) (l0 l:List Int) (T:List Sl) (W:World):Prop where
  ex:∃ H L,Sb h S N l0 l H L T W∧Co S N H L T
section
variable {h:Hm} {S N:Nat} {l0 l l':List Int} {T T':List Sl} {w W W':World}
theorem St.below (d:St h S N l0 l T w) (hb:Below w.heap.size w W):St h S N l0 l T W:=by
  obtain⟨H,L,d1,d2⟩:=d
  exact⟨H,L,d1.below hb,d2⟩
theorem St.stay {n:Nat} (d:St h S N l0 l T w) (hb:Below n w W) (hl:Lo h n):St h S N l0 l T W:=by
  obtain⟨H,L,d1,d2⟩:=d
  exact⟨H,L,d1.stay hb hl,d2⟩
theorem St.lo (d:St h S N l0 l T w):Lo h w.heap.size:=by
  obtain⟨H,L,d1,d2⟩:=d
  exact d1.lo
theorem St.tl (d:St h S N l0 l T w):T.length=S∧7≤S∧S≤64:=by
  obtain⟨H,L,d1,d2⟩:=d
  exact⟨d1.tl.1,d1.tl.2.2.2⟩
theorem St.ok (d:St h S N l0 l T w) {j:Nat} (hj:j<S):(T.getD j Sl.zero).Ok:=by
  obtain⟨H,L,d1,d2⟩:=d
  exact d1.ok9 hj
theorem St.faults (d:St h S N l0 l T w) (hz:h.z=false):Calls Tryz.prog 17 #[pV h] w fun e w'=>e = .returned (.int .i64 0)∧Below w.heap.size w w':=by
  obtain⟨H,L,d1,d2⟩:=d
  exact d1.faults hz
end
end Go.Proofs.YtmgeiaglandedaaGreatDoor.Sla

namespace Go.Proofs.YtmgeiaglandedaaGreatDoor.Sla
open Go.RowKit Num
open Mem (Mm MemC MRet Hm rd blkM)
open Lis (Cf LM LR Tb at_ Nx Pv Rep Hx valsN)
open Cls (szC blC pdC)
open Arn (wrL)
set_option linter.unusedVariables false
section
variable {h:Hm} {S N:Nat} {l0 l l':List Int} {H H':List Hx} {L L':List Int} {T T':List Sl} {w W W':World} {r:Value} {e:Ending}
set_option maxRecDepth 100000 in
theorem Sb.take_arg (d:Sb h S N l0 l H L T w) {c:Int} (hz:blC c=0) :
    Calls Tryz.prog 50 #[pV h,.int .i64 c] w (SbR h S N l0 l H L T (.tuple #[.int .i64 0,.int .i64 2]) w):=by
  have H1:=Lib.hid d.made
  have h2:=fun W (k:Sb h S N l0 l H L T W)=>Cls.blocks_any c W k.cls
  rw[hz] at h2
  have H2:=Lib.hid h2
  have HD:=Lib.hid d
  clear h2 d hz
  unfold pV at *
  go_enter Tryz.func50,Tryz.ntmps50
  go_wp2_with fail
  refine H1.out.mono ?_
  rintro e w1 ⟨rfl,hb1⟩
  have HG:=Lib.hid (HD.out.only hb1 (.tuple #[.int .i64 0,.int .i64 2]))
  clear hb1 H1
  go_wp2_with fail
  refine(H2.out _ HG.out.2.1).mono ?_
  rintro e w2 ⟨rfl,rfl⟩
  go_wp2
  go_ret2
  exact HG.out
set_option maxRecDepth 100000 in
theorem Sb.take_full (d:Sb h S N l0 l H L T w) {c:Nat} (hc:1≤c) (h9:c≤9) (hv:Nx L c 0 0) (hv0:Nx L 0 0 0) :
    Calls Tryz.prog 50 #[pV h,.int .i64 (c:Int)] w (SbR h S N l0 l H L T (.tuple #[.int .i64 0,.int .i64 5]) w):=by
  have hz:¬ szC (c:Int)=0:=by rw[Cls.szC_zero];omega
  have hbp:=Cls.blC_pos hz
  have H1:=Lib.hid d.made
  have H2:=Lib.hid (fun W (k:Sb h S N l0 l H L T W)=>Cls.blocks_any c W k.cls)
  have H3:=Lib.hid (fun W (k:Sb h S N l0 l H L T W)=>k.source_no h9 hv hv0)
  generalize blC (c:Int)=n at *
  have hn:((n:Int) == 0)=false:=by simp;omega
  have HD:=Lib.hid d
  clear d hz hv hv0
  unfold pV at *
  go_enter Tryz.func50,Tryz.ntmps50
  go_wp2_with fail
  refine H1.out.mono ?_
  rintro e w1 ⟨rfl,hb1⟩
  have HF1:=Lib.hid (HD.out.only hb1 (.tuple #[]))
  clear hb1 H1
  go_wp2_with fail
  refine(H2.out _ HF1.out.2.1).mono ?_
  rintro e w2 ⟨rfl,rfl⟩
  go_wp2_with fail
  refine(H3.out _ HF1.out.2.1).mono ?_
  intro e w3 hr
  obtain rfl:=hr.1
  have HG:Hid (SbR h S N l0 l H L T (.tuple #[.int .i64 0,.int .i64 5]) w (.returned (.tuple #[.int .i64 0,.int .i64 5])) w3):=⟨rfl,hr.2.1,HF1.out.2.2.trans (hr.2.2.mono HF1.out.2.2.size (fun _ _ q=>q))⟩
  clear hr HF1 H3
  go_wp2
  go_ret2
  exact HG.out
set_option maxRecDepth 100000 in
set_option maxHeartbeats 4000000 in
theorem Sb.take_yes (d:Sb h S N l0 l H L T w) {c j k:Nat} {f:List Nat} {H1:List Hx} {L1:List Int} {T1:List Sl} {P:List Int→Prop} (hc:1≤c) (h9:c≤9)
    (hs:∀ W,Sb h S N l0 l H L T W→Calls Tryz.prog 112 #[pV h,.int .i64 (c:Int)] W fun e W'=>∃ l',SbR h S N l0 l' H1 L1 T1 (.tuple #[.int .i64 (j:Int),.bool true]) W e W'∧P l')
    (hj:j<S) (hH:HC S H1 T1) (hT:T1.getD j Sl.zero=⟨c,k::f⟩) (hF:(H1.getD j (0,0,0)).2.2=(pl (aT S N j) c k:Int)) (hL:at_ L1 j=(c:Int)) (hl0:lk (aT S N j) c f<4294967296) (hf0:lk (aT S N j) c f=0↔f = []) (hlen:T1.length=S) :
    Calls Tryz.prog 50 #[pV h,.int .i64 (c:Int)] w fun e w'=>∃ l1 l',P l1∧SbR h S N l0 l' (H1.set j ((c:Int),((kpA S N j ⟨c,f⟩ 5).length:Int),(lk (aT S N j) c f:Int))) (if f = [] then L1.set j (-1) else L1) (T1.set j ⟨c,f⟩) (.tuple #[.int .i64 (pl (aT S N j) c k:Int),.int .i64 0]) w e w' ∧
      OffU S N (pl (aT S N j) c k) (szC c) l1 l'∧∀ i,i<szC c→l'.getD (pl (aT S N j) c k+i) 0=0:=by
  have hz:¬ szC (c:Int)=0:=by rw[Cls.szC_zero];omega
  have hbp:=Cls.blC_pos hz
  have hAb:Lay.baseT S N≤pl (aT S N j) c k:=by unfold pl aT;omega
  have hTs:(T1.set j ⟨c,f⟩).getD j Sl.zero=⟨c,f⟩:=by rw[Lis.getD_set _ _ _ _ _ (by omega),if_pos rfl]
  have hHc:(H1.getD j (0,0,0)).1=(c:Int):=by rw[hH j hj,hT]
  have G1:=Lib.hid d.made
  have G2:=Lib.hid (fun W (k:Sb h S N l0 l H L T W)=>Cls.blocks_any c W k.cls)
  have G3:=Lib.hid hs
  have G4:=Lib.hid (fun l1 W (dd:Sb h S N l0 l1 H1 L1 T1 W)=>dd.firstB hH hj hT hF)
  have G5:=Lib.hid (fun l1 W (dd:Sb h S N l0 l1 H1 L1 T1 W)=>dd.liveB hj hT (lk (aT S N j) c f))
  have g6:=fun l1 W (dd:Sb h S N l0 l1 H1 L1 (T1.set j ⟨c,f⟩) W)=>dd.note hj (by rw[hTs];exact hHc) (pl (aT S N j) c k) (lk (aT S N j) c f) (lk (aT S N j) c f) hl0
  rw[hTs] at g6
  simp only at g6
  have G6:=Lib.hid g6
  have G7:=Lib.hid (fun l1 H2 T2 W (dd:Sb h S N l0 l1 H2 L1 T2 W)=>dd.remove hj h9 hL)
  have HD:=Lib.hid d
  obtain⟨L2,hL2⟩:∃ L2,L2=if f = [] then L1.set j (-1) else L1:=⟨_,rfl⟩
  rw[←hL2]
  have HL2:Hid ((lk (aT S N j) c f=0→L2=L1.set j (-1))∧(lk (aT S N j) c f≠0→L2=L1)):=by
    refine⟨fun q=>?_,fun q=>?_⟩
    · rw[hL2,if_pos (hf0.1 q)]
    · rw[hL2,if_neg (fun z=>q (hf0.2 z))]
  generalize (kpA S N j ⟨c,f⟩ 5).length=m at G6 ⊢
  generalize pl (aT S N j) c k=A at *
  generalize lk (aT S N j) c f=X at *
  generalize T1.set j ⟨c,f⟩=T2 at G5 G6 ⊢
  generalize szC (c:Int)=z at *
  generalize blC (c:Int)=n at *
  have hn:((n:Int) == 0)=false:=by simp;omega
  have hcc:((c:Int) != (c:Int))=false:=by simp
  obtain⟨H2,hH2⟩:∃ H2,H2=H1.set j ((c:Int),(m:Int),(X:Int)):=⟨_,rfl⟩
  rw[←hH2] at G6 ⊢
  clear hH2 hL2 g6 hTs hHc hz hs hH hT hF hL hf0 d hbp
  unfold bV bCells at *
  unfold pV at *
  go_enter Tryz.func50,Tryz.ntmps50
  go_wp2_with fail
  refine G1.out.mono ?_
  rintro e w1 ⟨rfl,hb1⟩
  have HF1:=Lib.hid (HD.out.only hb1 (.tuple #[]))
  clear hb1 G1
  go_wp2_with fail
  refine(G2.out _ HF1.out.2.1).mono ?_
  rintro e w2 ⟨rfl,rfl⟩
  go_wp2_with fail
  refine(G3.out _ HF1.out.2.1).mono ?_
  rintro e w3 ⟨l3,hr3,hp3⟩
  obtain rfl:=hr3.1
  have HP3:=Lib.hid hp3
  have s3:SX h S N l0 l3 H1 L1 T1 w [] w3:=⟨hr3.2.1,HF1.out.2.2.trans (hr3.2.2.mono HF1.out.2.2.size (fun _ _ q=>q)),(fun p hp=>by cases hp),(fun p hp=>by cases hp),HD.out.lo⟩
  have S3:=Lib.hid s3
  clear hr3 hp3 s3 HF1 G3
  go_wp2_with fail
  refine(G4.out _ _ S3.out.d).mono ?_
  intro e w4 hr4
  obtain rfl:=hr4.1
  have S4:=Lib.hid ((S3.out.sr hr4).alloc (bC (.pointer (some ⟨h.g,0,none⟩)) j c A X) 153)
  clear hr4 S3 G4
  obtain⟨c0,c1,c2,c3,c4⟩:=bC_cells (S4.out.blk (.head _))
  unfold bC at c0 c1 c2 c3 c4 S4
  go_wp2_with fail
  refine(G5.out _ _ S4.out.d).mono ?_
  rintro e w5 ⟨l5,hr5,ho5,hz5⟩
  obtain rfl:=hr5.1
  have S5:=Lib.hid (S4.out.sr hr5)
  have HO5:=Lib.hid (ho5.offU S N)
  have HZ5:=Lib.hid hz5
  clear hr5 ho5 hz5 S4 G5 c0 c1 c2 c3 c4
  obtain⟨c0,c1,c2,c3,c4⟩:=bC_cells (p:=.pointer (some ⟨h.g,0,none⟩)) (j:=j) (c:=c) (a:=A) (nx:=X) (S5.out.blk (.head _))
  go_wp2_with fail
  refine(G6.out _ _ S5.out.d).mono ?_
  rintro e w6 ⟨l6,hr6,hu6⟩
  obtain rfl:=hr6.1
  have S6:=Lib.hid (S5.out.sr hr6)
  have HU6:=Lib.hid hu6
  clear hr6 hu6 S5 G6 c0 c1 c2 c3 c4
  obtain⟨c0,c1,c2,c3,c4⟩:=bC_cells (p:=.pointer (some ⟨h.g,0,none⟩)) (j:=j) (c:=c) (a:=A) (nx:=X) (S6.out.blk (.head _))
  by_cases hX:X=0
  · have hX1:((X:Int) == 0)=true:=by simp;omega
    have hl2:=HL2.out.1 hX
    clear hX HL2
    go_wp2_with fail
    refine(G7.out _ _ _ _ S6.out.d).mono ?_
    rintro e w7 ⟨l7,hr7,hu7⟩
    obtain rfl:=hr7.1
    rw[←hl2] at hr7
    have s7:=S6.out.sr hr7
    have HG:Hid (∃ l1 l',P l1∧SbR h S N l0 l' H2 L2 T2 (.tuple #[.int .i64 (A:Int),.int .i64 0]) w (.returned (.tuple #[.int .i64 (A:Int),.int .i64 0])) w7∧OffU S N A z l1 l'∧∀ i,i<z→l'.getD (A+i) 0=0):=by
      refine⟨l3,l7,HP3.out,s7.ret _,HO5.out.trans ((HU6.out.trans hu7).off A z),fun i hi=>?_⟩
      rw[hu7 _ (by omega),HU6.out _ (by omega)]
      exact HZ5.out i hi
    clear c0 c1 c2 c3 c4
    obtain⟨c0,c1,c2,c3,c4⟩:=bC_cells (p:=.pointer (some ⟨h.g,0,none⟩)) (j:=j) (c:=c) (a:=A) (nx:=X) (s7.blk (.head _))
    clear hr7 hu7 s7 S6 G7 hl2 HU6 HZ5 HO5
    go_wp2
    go_ret2
    exact HG.out
  · have hX1:((X:Int) == 0)=false:=by simp;omega
    have hl2:=HL2.out.2 hX
    have s6:=S6.out
    rw[←hl2] at s6
    have HG:Hid (∃ l1 l',P l1∧SbR h S N l0 l' H2 L2 T2 (.tuple #[.int .i64 (A:Int),.int .i64 0]) w (.returned (.tuple #[.int .i64 (A:Int),.int .i64 0])) w6∧OffU S N A z l1 l'∧∀ i,i<z→l'.getD (A+i) 0=0):=by
      refine⟨l3,l6,HP3.out,s6.ret _,HO5.out.trans (HU6.out.off A z),fun i hi=>?_⟩
      rw[HU6.out _ (by omega)]
      exact HZ5.out i hi
    clear hX HL2 S6 s6 G7 hl2 HU6 HZ5 HO5
    go_wp2
    go_ret2
    exact HG.out
end
end Go.Proofs.YtmgeiaglandedaaGreatDoor.Sla

namespace Go.Proofs.YtmgeiaglandedaaGreatDoor.Sla
open Go.RowKit Num
open Mem (Mm MemC MRet Hm rd blkM)
open Lis (Cf LM LR Tb at_ Nx Pv Rep Hx valsN)
open Cls (szC blC pdC)
open Arn (wrL)
set_option linter.unusedVariables false
section
variable {h:Hm} {S N:Nat} {l0 l l':List Int} {H H':List Hx} {L L':List Int} {T T':List Sl} {w W W':World} {r:Value} {e:Ending}
set_option maxRecDepth 100000 in
set_option maxHeartbeats 4000000 in
theorem Sb.give_no (d:Sb h S N l0 l H L T w) {a:Int} {p:Option Addr} {j c b:Int}
    (hs:∀ W,Sb h S N l0 l H L T W→Calls Tryz.prog 120 #[pV h,.int .i64 a] W (SbR h S N l0 l H L T (.tuple #[.agg (bC (.pointer p) j c b 0),.bool false]) W)) :
    Calls Tryz.prog 52 #[pV h,.int .i64 a] w (SbR h S N l0 l H L T (.int .i64 30) w):=by
  have G1:=Lib.hid d.made
  have G2:=Lib.hid hs
  have HD:=Lib.hid d
  clear d hs
  unfold bC at *
  unfold pV at *
  go_enter Tryz.func52,Tryz.ntmps52
  go_wp2_with fail
  refine G1.out.mono ?_
  rintro e w1 ⟨rfl,hb1⟩
  have HF1:=Lib.hid (HD.out.only hb1 (.tuple #[]))
  clear hb1 G1
  go_wp2_with fail
  refine(G2.out _ HF1.out.2.1).mono ?_
  intro e w3 hr3
  obtain rfl:=hr3.1
  have s3:SX h S N l0 l H L T w [] w3:=⟨hr3.2.1,HF1.out.2.2.trans (hr3.2.2.mono HF1.out.2.2.size (fun _ _ q=>q)),(fun p hp=>by cases hp),(fun p hp=>by cases hp),HD.out.lo⟩
  have S3:=Lib.hid (s3.alloc (bC (.pointer p) j c b 0) 153)
  obtain⟨c0,c1,c2,c3,c4⟩:=bC_cells (S3.out.blk (.head _))
  unfold bC at c0 c1 c2 c3 c4 S3
  have HG:=Lib.hid (S3.out.ret (.int .i64 30))
  clear hr3 s3 HF1 G2 S3
  go_wp2
  go_ret
  exact HG.out
set_option maxRecDepth 100000 in
set_option maxHeartbeats 4000000 in
theorem Sb.give_dead (d:Sb h S N l0 l H L T w) {a:Int} {j c A:Nat} {K:Int} (hK:K≠5)
    (hs:∀ W,Sb h S N l0 l H L T W→Calls Tryz.prog 120 #[pV h,.int .i64 a] W (SbR h S N l0 l H L T (.tuple #[bV h j c A 0,.bool true]) W))
    (hk:∀ W,Sb h S N l0 l H L T W→Calls Tryz.prog 121 #[bV h j c A 0] W fun e W'=>e = .returned (.int .i64 K)∧Below W.heap.size W W') :
    Calls Tryz.prog 52 #[pV h,.int .i64 a] w (SbR h S N l0 l H L T (.int .i64 30) w):=by
  have G1:=Lib.hid d.made
  have G2:=Lib.hid hs
  have G3:=Lib.hid hk
  have HD:=Lib.hid d
  have hK1:(K != 5)=true:=by simpa using hK
  clear d hs hk hK
  unfold bV bCells at *
  unfold pV at *
  go_enter Tryz.func52,Tryz.ntmps52
  go_wp2_with fail
  refine G1.out.mono ?_
  rintro e w1 ⟨rfl,hb1⟩
  have HF1:=Lib.hid (HD.out.only hb1 (.tuple #[]))
  clear hb1 G1
  go_wp2_with fail
  refine(G2.out _ HF1.out.2.1).mono ?_
  intro e w3 hr3
  obtain rfl:=hr3.1
  have s3:SX h S N l0 l H L T w [] w3:=⟨hr3.2.1,HF1.out.2.2.trans (hr3.2.2.mono HF1.out.2.2.size (fun _ _ q=>q)),(fun p hp=>by cases hp),(fun p hp=>by cases hp),HD.out.lo⟩
  have S3:=Lib.hid (s3.alloc (bC (.pointer (some ⟨h.g,0,none⟩)) j c A 0) 153)
  obtain⟨c0,c1,c2,c3,c4⟩:=bC_cells (S3.out.blk (.head _))
  unfold bC at c0 c1 c2 c3 c4 S3
  clear hr3 s3 HF1 G2
  go_wp2_with fail
  refine(G3.out _ S3.out.d).mono ?_
  rintro e w4 ⟨rfl,hb4⟩
  have HG:=Lib.hid ((S3.out.below hb4).ret (.int .i64 30))
  clear hb4 S3 G3 c0 c1 c2 c3 c4
  go_wp2
  go_ret
  exact HG.out
set_option maxRecDepth 100000 in
set_option maxHeartbeats 8000000 in
theorem Sb.give_yes (d:Sb h S N l0 l H L T w) {j c k:Nat} {f:List Nat} (hj:j<S) (hH:HC S H T) (hT:T.getD j Sl.zero=⟨c,f⟩) (hk:k<blC c) (hf:k ∉ f) (hc:1≤c) (h9:c≤9) (hF:(H.getD j (0,0,0)).2.2=(lk (aT S N j) c f:Int))
    (hL:at_ L j=if f = [] then -1 else (c:Int)) (hl0:lk (aT S N j) c f<4294967296) (hf0:lk (aT S N j) c f=0↔f = []) (hlen:T.length=S) {m:Nat} (hm:m=(kpA S N j ⟨c,k::f⟩ 5).length) (hmf:m=0→f ≠ []) :
    Calls Tryz.prog 52 #[pV h,.int .i64 (pl (aT S N j) c k:Int)] w fun e w'=>∃ l',(if m=0 then SbR h S N l0 l' (H.set j (0,0,0)) ((L.set j (-1)).set j 0) ((T.set j ⟨c,k::f⟩).set j Sl.zero) (.int .i64 0) w e w'
      else SbR h S N l0 l' (H.set j ((c:Int),(m:Int),(pl (aT S N j) c k:Int))) (if f = [] then L.set j (c:Int) else L) (T.set j ⟨c,k::f⟩) (.int .i64 0) w e w')∧(if m=0 then OffU S N (aT S N j) 1024 l l' else OffU S N (pl (aT S N j) c k) (szC c) l l'):=by
  have hin:=bl_in hk
  have hTc:(T.getD j Sl.zero).c=c:=by rw[hT]
  have hTf:(T.getD j Sl.zero).f=f:=by rw[hT]
  have hTs:(T.set j ⟨c,k::f⟩).getD j Sl.zero=⟨c,k::f⟩:=by rw[Lis.getD_set _ _ _ _ _ (by omega),if_pos rfl]
  have hHc:(H.getD j (0,0,0)).1=(c:Int):=by rw[hH j hj,hT]
  have hk1:k<blC (T.getD j Sl.zero).c:=by rw[hTc];exact hk
  have hPb:pl (aT S N j) c k≤110000:=by
    obtain⟨C,rfl,rfl,h3,h4,h5⟩:=id d
    have h1:=pl_bd (S:=0) (N:=0) h5.ok hj hk
    omega
  have hfn:fnd S N T (pl (aT S N j) c k:Int)=some (j,k):=by
    have:=fnd_at (N:=N) (T:=T) d.right hj hk1 (show 0<_ by rw[hTc];omega)
    rw[hTc,Nat.add_zero] at this
    exact this
  have hbg:=fun W (dd:Sb h S N l0 l H L T W)=>dd.begins hH (a:=(pl (aT S N j) c k:Int)) (by unfold Arn.is64;omega) hfn
  have hki:=fun W (dd:Sb h S N l0 l H L T W)=>dd.kind hj hk1 0
  have hkd:kd (T.getD j Sl.zero) k=5:=by unfold kd;rw[hTf,if_neg hf]
  rw[hkd] at hki
  rw[hTc] at hbg hki
  rw[show decide ((pl (aT S N j) c k:Int)=(pl (aT S N j) c k:Int))=true from decide_eq_true rfl] at hbg
  obtain⟨x,p,hg⟩:=Sb.get_all (h:=h) (N:=N) (l0:=l0) (l:=l) (H:=H) (L:=L) (T:=T) hj
  rw[hHc,hF] at hg
  generalize (H.getD j (0,0,0)).2.1=v at hg
  have hli:∀ l1 W,Sb h S N l0 l1 H L (T.set j ⟨c,k::f⟩) W→Calls Tryz.prog 124 #[pV h,.int .i64 (j:Int)] W fun e W'=>∃ a cap,SbR h S N l0 l1 H L (T.set j ⟨c,k::f⟩) (.slice a m cap) W e W':=fun l1 W dd=>by
    refine(dd.liveL hj (by rw[hTs];exact hHc)).mono ?_
    rintro e W' ⟨u,hr,hrow,-⟩
    obtain⟨a,cap,rfl,-⟩:=hrow
    rw[Lis.ints_length,hTs,←hm] at hr
    exact⟨a,cap,hr⟩
  have hno:=fun l1 W (dd:Sb h S N l0 l1 H L (T.set j ⟨c,k::f⟩) W)=>dd.note hj (by rw[hTs];exact hHc) (pl (aT S N j) c k) (lk (aT S N j) c f) (pl (aT S N j) c k) (by omega)
  rw[hTs] at hno
  simp only at hno
  rw[←hm] at hno
  have G1:=Lib.hid d.made
  have G2:=Lib.hid hbg
  have G3:=Lib.hid hki
  have G4:=Lib.hid hg
  have G5:=Lib.hid (fun W (dd:Sb h S N l0 l H L T W)=>dd.freeB hj hT hk hf)
  have G6:=Lib.hid hli
  have G7:=Lib.hid (fun(hm0:m=0) l1 W (dd:Sb h S N l0 l1 H L (T.set j ⟨c,k::f⟩) W)=>dd.shutS hj (by rw[hL,if_neg (hmf hm0)]) hc h9)
  have G8:=Lib.hid hno
  have G9:=Lib.hid (fun(hfe:lk (aT S N j) c f=0) l1 H1 T1 W (dd:Sb h S N l0 l1 H1 L T1 W)=>dd.insert hj h9 (by rw[hL,if_pos (hf0.1 hfe)]))
  have HD:=Lib.hid d
  have hpA:aT S N j≤pl (aT S N j) c k∧pl (aT S N j) c k+szC (c:Int)≤aT S N j+1024:=by unfold pl;omega
  obtain⟨L2,hL2⟩:∃ L2,L2=if f = [] then L.set j (c:Int) else L:=⟨_,rfl⟩
  rw[←hL2]
  have HL2:Hid ((lk (aT S N j) c f=0→L2=L.set j (c:Int))∧(lk (aT S N j) c f≠0→L2=L)):=by
    refine⟨fun q=>?_,fun q=>?_⟩
    · rw[hL2,if_pos (hf0.1 q)]
    · rw[hL2,if_neg (fun z=>q (hf0.2 z))]
  have hwX:IntKind.i64.wrap (lk (aT S N j) c f:Int)=(lk (aT S N j) c f:Int):=Arn.wrap_id (by omega) (by omega)
  generalize (L.set j (-1)).set j 0=L3 at G7 ⊢
  obtain⟨Q,hQ⟩:∃ Q:Ending→World→Prop,Q=fun e w'=>∃ l',(if m=0 then SbR h S N l0 l' (H.set j (0,0,0)) L3 ((T.set j ⟨c,k::f⟩).set j Sl.zero) (.int .i64 0) w e w' else SbR h S N l0 l' (H.set j ((c:Int),(m:Int),(pl (aT S N j) c k:Int))) L2 (T.set j ⟨c,k::f⟩) (.int .i64 0) w e w')∧(if m=0 then OffU S N (aT S N j) 1024 l l' else OffU S N (pl (aT S N j) c k) (szC c) l l'):=⟨_,rfl⟩
  have HQ0:Hid (m=0→∀ l' W,SbR h S N l0 l' (H.set j (0,0,0)) L3 ((T.set j ⟨c,k::f⟩).set j Sl.zero) (.int .i64 0) w (.returned (.int .i64 0)) W→OffU S N (aT S N j) 1024 l l'→Q (.returned (.int .i64 0)) W):=fun hm0 l' W h1 h2=>by
    rw[hQ]
    exact⟨l',by rw[if_pos hm0];exact h1,by rw[if_pos hm0];exact h2⟩
  have HQ1:Hid (m≠0→∀ l' W,SbR h S N l0 l' (H.set j ((c:Int),(m:Int),(pl (aT S N j) c k:Int))) L2 (T.set j ⟨c,k::f⟩) (.int .i64 0) w (.returned (.int .i64 0)) W→OffU S N (pl (aT S N j) c k) (szC c) l l'→Q (.returned (.int .i64 0)) W):=fun hm0 l' W h1 h2=>by
    rw[hQ]
    exact⟨l',by rw[if_neg hm0];exact h1,by rw[if_neg hm0];exact h2⟩
  rw[show (fun e w'=>∃ l',(if m=0 then SbR h S N l0 l' (H.set j (0,0,0)) L3 ((T.set j ⟨c,k::f⟩).set j Sl.zero) (.int .i64 0) w e w' else SbR h S N l0 l' (H.set j ((c:Int),(m:Int),(pl (aT S N j) c k:Int))) L2 (T.set j ⟨c,k::f⟩) (.int .i64 0) w e w')∧(if m=0 then OffU S N (aT S N j) 1024 l l' else OffU S N (pl (aT S N j) c k) (szC c) l l'))=Q from hQ.symm]
  have HWd:Hid (∀ l1,OffU S N (pl (aT S N j) c k) (szC c) l l1→OffU S N (aT S N j) 1024 l l1):=fun l1 h1 t ht hh=>h1 t ht (by omega)
  clear hQ hbg hki hg hli hno d hin hTc hTf hTs hHc hk1 hfn hkd hL2 hH hT hk hf hF hL hf0 hm hmf hpA
  generalize pl (aT S N j) c k=A at *
  generalize lk (aT S N j) c f=X at *
  generalize T.set j ⟨c,k::f⟩=T2 at *
  generalize szC (c:Int)=z at *
  generalize H.set j (0,0,0)=H3 at *
  generalize H.set j ((c:Int),(m:Int),(A:Int))=H2 at *
  generalize T2.set j Sl.zero=T3 at *
  unfold bV bCells at *
  unfold pV at *
  go_enter Tryz.func52,Tryz.ntmps52
  go_wp2_with fail
  refine G1.out.mono ?_
  rintro e w1 ⟨rfl,hb1⟩
  have HF1:=Lib.hid (HD.out.only hb1 (.tuple #[]))
  clear hb1 G1
  go_wp2_with fail
  refine(G2.out _ HF1.out.2.1).mono ?_
  intro e w3 hr3
  obtain rfl:=hr3.1
  have s3:SX h S N l0 l H L T w [] w3:=⟨hr3.2.1,HF1.out.2.2.trans (hr3.2.2.mono HF1.out.2.2.size (fun _ _ q=>q)),(fun p hp=>by cases hp),(fun p hp=>by cases hp),HD.out.lo⟩
  have S3:=Lib.hid (s3.alloc (bC (.pointer (some ⟨h.g,0,none⟩)) j c A 0) 153)
  obtain⟨c0,c1,c2,c3,c4⟩:=bC_cells (S3.out.blk (.head _))
  unfold bC at c0 c1 c2 c3 c4 S3
  clear hr3 s3 HF1 G2
  go_wp2_with fail
  refine(G3.out _ S3.out.d).mono ?_
  rintro e w4 ⟨rfl,hb4⟩
  have S4:=Lib.hid (S3.out.below hb4)
  clear hb4 S3 G3 c0 c1 c2 c3 c4
  obtain⟨c0,c1,c2,c3,c4⟩:=bC_cells (p:=.pointer (some ⟨h.g,0,none⟩)) (j:=j) (c:=c) (a:=A) (nx:=0) (S4.out.blk (.head _))
  go_wp2_with fail
  refine(G4.out _ S4.out.d).mono ?_
  intro e w5 hr5
  obtain rfl:=hr5.1
  have s5:=S4.out.sr hr5
  have hne5:w5.heap.size≠w3.heap.size:=by
    have:=s5.lt _ (List.mem_cons_self ..)
    simp only at this
    omega
  have s6:=s5.alloc #[.int .i64 (c:Int),.int .i64 v,.int .u32 (X:Int),.int .i64 (x:Int),.int .i64 (p:Int)] 160
  have d2:=(cell_block (s6.blk (.head _)) 2).trans (show _=some (Value.int .u32 (X:Int)) from rfl)
  have f4:=Hea.frozen_block (s6.blk (.tail _ (.head _))) 4
  have s7:SX h S N l0 l H L T w [(w3.heap.size,.cells (bC (.pointer (some ⟨h.g,0,none⟩)) j c A X) 153 (0,0)),(w5.heap.size,.cells #[.int .i64 (c:Int),.int .i64 v,.int .u32 (X:Int),.int .i64 (x:Int),.int .i64 (p:Int)] 160 (0,0))] ((w5.alloc (.cells #[.int .i64 (c:Int),.int .i64 v,.int .u32 (X:Int),.int .i64 (x:Int),.int .i64 (p:Int)] 160)).setCell ⟨w3.heap.size,4,none⟩ (.int .i64 (X:Int))) :=
    s6.swap.setC (fun q hq=>by rcases List.mem_cons.1 hq with rfl | hq;exact hne5;cases hq) 4 (.int .i64 (X:Int))
  have S7:=Lib.hid s7
  have c4':=(cell_block (s6.blk (.tail _ (.head _))) 4).trans (show _=some (Value.int .i64 0) from rfl)
  obtain⟨b0,b1,b2,b3,b4⟩:=bC_cells (s7.blk (.head _))
  clear hr5 s5 S4 G4 c0 c1 c2 c3 c4 s6 s7
  go_wp2_with fail
  refine(G5.out _ S7.out.d).mono ?_
  rintro e w8 ⟨l8,hr8,ho8⟩
  obtain rfl:=hr8.1
  have S8:=Lib.hid (S7.out.sr hr8)
  have HO8:=Lib.hid (ho8.offU S N)
  clear hr8 ho8 S7 G5 b0 b1 b2 b3 b4 d2 f4 c4'
  obtain⟨c0,c1,c2,c3,c4⟩:=bC_cells (S8.out.blk (.head _))
  go_wp2_with fail
  refine(G6.out _ _ S8.out.d).mono ?_
  rintro e w9 ⟨a9,cap9,hr9⟩
  obtain rfl:=hr9.1
  have S9:=Lib.hid (S8.out.sr hr9)
  clear hr9 S8 G6 c0 c1 c2 c3 c4
  obtain⟨c0,c1,c2,c3,c4⟩:=bC_cells (S9.out.blk (.head _))
  by_cases hm0:m=0
  · have hm1:((m:Int) == 0)=true:=by simp;omega
    have HSh:=Lib.hid (G7.out hm0)
    have HQ:=Lib.hid (HQ0.out hm0)
    clear hm0 HQ0 HQ1 G7 G8 G9 HL2
    go_wp2_with fail
    refine(HSh.out _ _ S9.out.d).mono ?_
    rintro e w10 ⟨l10,hr10,ho10⟩
    obtain rfl:=hr10.1
    have HG:=Lib.hid (HQ.out _ _ ((S9.out.sr hr10).ret _) ((HWd.out _ HO8.out).trans ho10))
    clear hr10 ho10 S9 HQ HSh c0 c1 c2 c3 c4
    go_wp2
    exact HG.out
  · have hm1:((m:Int) == 0)=false:=by simp;omega
    have HQ:=Lib.hid (HQ1.out hm0)
    clear hm0 HQ0 HQ1 G7 HWd
    go_wp2_with fail
    refine(G8.out _ _ S9.out.d).mono ?_
    rintro e w10 ⟨l10,hr10,hu10⟩
    obtain rfl:=hr10.1
    have S10:=Lib.hid (S9.out.sr hr10)
    have HO10:=Lib.hid (HO8.out.trans (hu10.off A z))
    clear hr10 hu10 S9 G8 HO8 c0 c1 c2 c3 c4
    obtain⟨c0,c1,c2,c3,c4⟩:=bC_cells (S10.out.blk (.head _))
    have d2:=(cell_block (S10.out.blk (.tail _ (.head _))) 2).trans (show _=some (Value.int .u32 (X:Int)) from rfl)
    by_cases hX:X=0
    · have hX1:((X:Int) == 0)=true:=by simp;omega
      have hl2:=HL2.out.1 hX
      have HIn:=Lib.hid (G9.out hX)
      clear hX HL2 G9
      go_wp2_with fail
      refine(HIn.out _ _ _ _ S10.out.d).mono ?_
      rintro e w11 ⟨l11,hr11,hu11⟩
      obtain rfl:=hr11.1
      rw[←hl2] at hr11
      have HG:=Lib.hid (HQ.out _ _ ((S10.out.sr hr11).ret _) (HO10.out.trans (hu11.off A z)))
      clear hr11 hu11 S10 HQ HIn c0 c1 c2 c3 c4 d2 hl2 HO10
      go_wp2
      exact HG.out
    · have hX1:((X:Int) == 0)=false:=by simp;omega
      have hl2:=HL2.out.2 hX
      have s10:=S10.out.ret (.int .i64 0)
      rw[←hl2] at s10
      have HG:=Lib.hid (HQ.out _ _ s10 HO10.out)
      clear hX HL2 G9 s10 S10 HQ hl2 HO10
      go_wp2
      exact HG.out
end
end Go.Proofs.YtmgeiaglandedaaGreatDoor.Sla

namespace Go.Proofs.YtmgeiaglandedaaGreatDoor.Sla
open Go.RowKit Num
open Mem (Mm MemC MRet Hm rd blkM)
open Lis (Cf LM LR Tb at_ Nx Pv Rep Hx valsN)
open Cls (szC blC pdC)
open Arn (wrL)
set_option linter.unusedVariables false
theorem getD_set1 (T:List Sl) (j:Nat) (s:Sl) (hj:j<T.length):(T.set j s).getD j Sl.zero=s:=by rw[Lis.getD_set _ _ _ _ _ hj,if_pos rfl]
theorem getD_set2 (T:List Sl) {i j:Nat} (s:Sl) (hj:j<T.length) (hi:i≠j):(T.set j s).getD i Sl.zero=T.getD i Sl.zero:=by rw[Lis.getD_set _ _ _ _ _ hj,if_neg hi]
theorem hset1 (H:List Hx) (j:Nat) (s:Hx) (hj:j<H.length):(H.set j s).getD j (0,0,0)=s:=by rw[Lis.getD_set _ _ _ _ _ hj,if_pos rfl]
theorem hset2 (H:List Hx) {i j:Nat} (s:Hx) (hj:j<H.length) (hi:i≠j):(H.set j s).getD i (0,0,0)=H.getD i (0,0,0):=by rw[Lis.getD_set _ _ _ _ _ hj,if_neg hi]
theorem lset1 (L:List Int) (j:Nat) (s:Int) (hj:j<L.length):at_ (L.set j s) j=s:=by rw[Lis.at_set hj,if_pos rfl]
theorem lset2 (L:List Int) {i j:Nat} (s:Int) (hj:j<L.length) (hi:i≠j):at_ (L.set j s) i=at_ L i:=by rw[Lis.at_set hj,if_neg hi]
theorem v_of_len {s:Sl} (h:s.Ok) (hl:s.f.length<blC s.c):s.v ≠ []:=by
  intro e
  have:=h.len
  rw[e] at this
  simp at this
  omega
theorem range_cons (n:Nat) (h:1≤n):List.range n=0::(List.range (n-1)).map (·+1):=by
  obtain⟨m,rfl⟩:∃ m,n=m+1:=⟨n-1,by omega⟩
  rw[List.range_succ_eq_map]
  rfl
theorem Co.taken {S N:Nat} {H:List Hx} {L:List Int} {T:List Sl} (hS:T.length=S∧H.length=S∧L.length=S) {j c:Nat} {f:List Nat} (hj:j<S) (hc:1≤c) (hs:(Sl.mk c f).Ok) (hlt:f.length<blC c)
    (hH:∀ i,i<S→i≠j→H.getD i (0,0,0)=(((T.getD i Sl.zero).c:Int),((T.getD i Sl.zero).v.length:Int),(lk (aT S N i) (T.getD i Sl.zero).c (T.getD i Sl.zero).f:Int)))
    (hL:∀ i,i<S→i≠j→at_ L i=lst (T.getD i Sl.zero)) (hLj:at_ L j=(c:Int)) (hV:∀ i,i<S→i≠j→(T.getD i Sl.zero).c≠0→(T.getD i Sl.zero).v ≠ []) :
    Co S N (H.set j ((c:Int),((kpA S N j ⟨c,f⟩ 5).length:Int),(lk (aT S N j) c f:Int))) (if f = [] then L.set j (-1) else L) (T.set j ⟨c,f⟩):=by
  obtain⟨e1,e2,e3⟩:=hS
  refine⟨fun i hi=>?_,fun i hi=>?_,fun i hi=>?_⟩
  · by_cases e : i = j
    · subst e
      rw[hset1 _ _ _ (by omega),getD_set1 _ _ _ (by omega),kpA5_len]
    · rw[hset2 _ _ (by omega) e,getD_set2 _ _ (by omega) e]
      exact hH i hi e
  · by_cases e : i = j
    · subst e
      rw[getD_set1 _ _ _ (by omega)]
      unfold lst
      simp only
      rw[if_neg (show ¬ c=0 by omega)]
      by_cases hf:f = []
      · rw[if_pos hf,if_pos hf,lset1 _ _ _ (by omega)]
      · rw[if_neg hf,if_neg hf,hLj]
    · rw[getD_set2 _ _ (by omega) e]
      by_cases hf:f = []
      · rw[if_pos hf,lset2 _ _ (by omega) e]
        exact hL i hi e
      · rw[if_neg hf]
        exact hL i hi e
  · by_cases e : i = j
    · subst e
      rw[getD_set1 _ _ _ (by omega)]
      intro _
      exact v_of_len hs hlt
    · rw[getD_set2 _ _ (by omega) e]
      exact hV i hi e
section
variable {h:Hm} {S N:Nat} {l0 l l':List Int} {T T':List Sl} {w W W':World}
theorem Sb.lk_zero {H:List Hx} {L:List Int} (d:Sb h S N l0 l H L T w) {j:Nat} (hj:j<S) {c:Int} (f:List Nat) (hf:∀ k,k∈f→k<blC c):lk (aT S N j) c f<4294967296∧(lk (aT S N j) c f=0↔f = []):=by
  obtain⟨C,rfl,rfl,h3,h4,h5⟩:=d
  have hb:=ok_base h5.ok
  cases f with
  | nil=>exact⟨by show 0<4294967296;omega,by simp[lk]⟩
  | cons y f =>
    have hy:=hf y (by simp)
    have:=pl_bd (S:=0) (N:=0) h5.ok hj hy
    refine⟨by show pl (aT C.s C.n j) c y<_;omega,?_⟩
    simp only[lk]
    unfold pl aT
    constructor
    · intro q;omega
    · intro q;cases q
theorem St.take (d:St h S N l0 l T w) (c:Int) :
    Calls Tryz.prog 50 #[pV h,.int .i64 c] w fun e w'=>∃ l',e = .returned (.tuple #[.int .i64 (tkF S N T c).1.1,.int .i64 (tkF S N T c).1.2])∧St h S N l0 l' (tkF S N T c).2 w'∧Fr w.heap.size (blkM h) w w'∧Kp S N T (tkF S N T c).2 l l' ∧
      ((tkF S N T c).1.2=0→∀ i,i<szC c→l'.getD ((tkF S N T c).1.1.toNat+i) 0=0):=by
  obtain⟨H,L,d1,d2⟩:=d
  obtain⟨tl,Ll,Hl,s7,s64⟩:=d1.tl
  by_cases hz:szC c=0
  · have e:tkF S N T c=((0,2),T):=by unfold tkF;rw[if_pos hz]
    rw[e]
    refine(d1.take_arg (Cls.blC_no hz)).mono ?_
    intro e w' hr
    exact⟨l,hr.1,⟨H,L,hr.2.1,d2⟩,hr.2.2,Kp.refl _ _ _ _ _,fun q=>by simp at q⟩
  · have hb:=Cls.szC_is hz
    obtain⟨n,rfl⟩:∃ n:Nat,c=n:=⟨c.toNat,by omega⟩
    have hn1:1≤n:=by omega
    have hn9:n≤9:=by omega
    cases hj:fi T (n:Int) with
    | some j =>
      obtain⟨j1,j2,-⟩:=fi_some hj
      have hjS:j<S:=by omega
      obtain⟨q1,q2⟩:=lst_pos hn1 j2
      obtain⟨k,f,hf⟩:∃ k f,(T.getD j Sl.zero).f=k::f:=by
        cases hx:(T.getD j Sl.zero).f with
        | nil=>exact absurd hx q2
        | cons k f=>exact⟨k,f,rfl⟩
      have hT:T.getD j Sl.zero=⟨n,k::f⟩:=by
        cases hx:T.getD j Sl.zero with
        | mk c0 f0 =>
          rw[hx] at q1 hf
          simp only at q1 hf
          rw[q1,hf]
      have hok:=d1.ok9 hjS
      rw[hT] at hok
      have hk:k<blC (n:Int):=hok.lt k (by simp)
      have e:tkF S N T (n:Int)=(((pl (aT S N j) n k:Int),0),T.set j ⟨n,f⟩):=by
        unfold tkF tkJ
        rw[if_neg hz,Int.toNat_natCast,hj]
        simp only
        rw[hf]
      rw[e]
      have hF:(H.getD j (0,0,0)).2.2=(pl (aT S N j) n k:Int):=by
        rw[d2.h j hjS,hT]
        rfl
      have hLj:at_ L j=(n:Int):=by rw[d2.l j hjS,j2]
      have hfo:(Sl.mk n f).Ok:=⟨hok.c,(List.nodup_cons.1 hok.nd).2,fun y hy=>hok.lt y (by simp[hy])⟩
      obtain⟨z1,z2⟩:=d1.lk_zero hjS (c:=(n:Int)) f (fun y hy=>hfo.lt y hy)
      have hlen:=hok.len
      have hnx:=nx_some d2 Ll tl hj
      refine(d1.take_yes (P:=fun l1=>l1=l) hn1 hn9 (fun W dd=>by
        refine(dd.source_has hn9 hnx).mono ?_
        intro e W' hr
        exact⟨l,hr,rfl⟩) hjS d2.hc hT hF hLj z1 z2 tl).mono ?_
      rintro e w' ⟨l1,l',rfl,hr,ho,hzr⟩
      refine⟨l',hr.1,⟨_,_,hr.2.1,Co.taken ⟨tl,Hl,Ll⟩ hjS hn1 hfo (by simp at hlen;omega) (fun i hi _=>d2.h i hi) (fun i hi _=>d2.l i hi) hLj (fun i hi _=>d2.v i hi)⟩,hr.2.2,?_,fun _ i hi=>by rw[Int.toNat_natCast];exact hzr i hi⟩
      intro i k' hi hv hv' hcc t ht
      by_cases e:i=j
      · subst e
        rw[hT] at hv ht ⊢
        refine off_block ho ?_ ht
        rintro rfl
        exact(mem_lt hv).2 (by simp)
      · exact off_slab (off_wide ho hk) e (mem_lt hv).1 ht
    | none =>
      have hnx:=nx_none d2 Ll tl hj
      cases hj0:fi T 0 with
      | none =>
        have e:tkF S N T (n:Int)=((0,5),T):=by
          unfold tkF tkJ
          rw[if_neg hz,Int.toNat_natCast,hj]
          simp only
          rw[hj0]
        rw[e]
        refine(d1.take_full hn1 hn9 hnx (nx_none d2 Ll tl hj0)).mono ?_
        intro e w' hr
        exact⟨l,hr.1,⟨H,L,hr.2.1,d2⟩,hr.2.2,Kp.refl _ _ _ _ _,fun q=>by simp at q⟩
      | some j =>
        obtain⟨j1,j2,-⟩:=fi_some hj0
        have hjS:j<S:=by omega
        have hc0:=lst_zero.1 j2
        have hbp:=Cls.blC_pos hz
        have hrc:=range_cons (blC (n:Int)) (by omega)
        have hTs:(T.set j ⟨n,List.range (blC (n:Int))⟩).getD j Sl.zero=⟨n,List.range (blC (n:Int))⟩:=getD_set1 _ _ _ (by omega)
        have e:tkF S N T (n:Int)=(((pl (aT S N j) n 0:Int),0),T.set j ⟨n,(List.range (blC (n:Int)-1)).map (·+1)⟩):=by
          unfold tkF tkJ
          rw[if_neg hz,Int.toNat_natCast,hj]
          simp only
          rw[hj0]
          simp only
          rw[hTs]
          simp only
          rw[hrc]
          simp only
          rw[List.set_set]
        rw[e]
        have hLj:at_ L j=0:=by rw[d2.l j hjS,j2]
        have hr9:(Sl.mk n (List.range (blC (n:Int)))).Ok:=⟨hn9,List.nodup_range,fun y hy=>by simpa using hy⟩
        have hfo:(Sl.mk n ((List.range (blC (n:Int)-1)).map (·+1))).Ok:=by
          have h1:=hr9.nd
          have h2:=hr9.lt
          simp only at h1 h2
          rw[hrc] at h1 h2
          exact⟨hn9,(List.nodup_cons.1 h1).2,fun y hy=>h2 y (by simp only[List.mem_cons];exact .inr hy)⟩
        obtain⟨z1,z2⟩:=d1.lk_zero hjS (c:=(n:Int)) _ (fun y hy=>hfo.lt y hy)
        have hHC:HC S (H.set j ((n:Int),0,(aT S N j:Int))) (T.set j ⟨n,List.range (blC (n:Int))⟩):=fun i hi=>by
          by_cases e:i=j
          · subst e
            rw[hset1 _ _ _ (by omega),hTs]
          · rw[hset2 _ _ (by omega) e,getD_set2 _ _ (by omega) e]
            exact d2.hc i hi
        have hnx0:=nx_some d2 Ll tl hj0
        refine(d1.take_yes (P:=fun l1=>OffU S N (aT S N j) 1024 l l1) (f:=(List.range (blC (n:Int)-1)).map (·+1)) (k:=0) hn1 hn9 (fun W dd=>by
          refine(dd.source_new hn1 hn9 hnx hnx0 hjS hLj).mono ?_
          rintro e W' ⟨l1,hr,ho⟩
          exact⟨l1,hr,ho⟩) hjS hHC (by rw[hTs,hrc]) (by rw[hset1 _ _ _ (by omega)];unfold pl;simp) (lset1 _ _ _ (by rw[List.length_set];omega)) z1 z2 (by rw[List.length_set];exact tl)).mono ?_
        rintro e w' ⟨l1,l',hp,hr,ho,hzr⟩
        have hss:(T.set j ⟨n,List.range (blC (n:Int))⟩).set j ⟨n,(List.range (blC (n:Int)-1)).map (·+1)⟩=T.set j ⟨n,(List.range (blC (n:Int)-1)).map (·+1)⟩:=List.set_set ..
        rw[hss] at hr
        have hlen:=hfo.len
        have hsb:=hr.2.1
        have hco:Co S N ((H.set j ((n:Int),0,(aT S N j:Int))).set j ((n:Int),((kpA S N j ⟨n,(List.range (blC (n:Int)-1)).map (·+1)⟩ 5).length:Int),(lk (aT S N j) n ((List.range (blC (n:Int)-1)).map (·+1)):Int)))
            (if (List.range (blC (n:Int)-1)).map (·+1) = [] then ((L.set j (-1)).set j (n:Int)).set j (-1) else (L.set j (-1)).set j (n:Int)) ((T.set j ⟨n,List.range (blC (n:Int))⟩).set j ⟨n,(List.range (blC (n:Int)-1)).map (·+1)⟩) :=
          Co.taken ⟨by rw[List.length_set];exact tl,by rw[List.length_set];exact Hl,by rw[List.length_set,List.length_set];exact Ll⟩ hjS hn1 hfo (by simp;omega)
            (fun i hi e=>by rw[hset2 _ _ (by omega) e,getD_set2 _ _ (by omega) e];exact d2.h i hi)
            (fun i hi e=>by rw[lset2 _ _ (by rw[List.length_set];omega) e,lset2 _ _ (by omega) e,getD_set2 _ _ (by omega) e];exact d2.l i hi)
            (lset1 _ _ _ (by rw[List.length_set];omega))
            (fun i hi e=>by rw[getD_set2 _ _ (by omega) e];exact d2.v i hi)
        rw[hss] at hco
        refine⟨l',hr.1,⟨_,_,hsb,hco⟩,hr.2.2,?_,fun _ i hi=>by rw[Int.toNat_natCast];exact hzr i hi⟩
        intro i k' hi hv hv' hcc t ht
        have hne:i≠j:=by
          rintro rfl
          rw[zero_v hc0] at hv
          cases hv
        exact off_slab (hp.trans (off_wide ho (by omega))) hne (mem_lt hv).1 ht
theorem St.give (d:St h S N l0 l T w) {a:Int} (h64:Arn.is64 a) :
    Calls Tryz.prog 52 #[pV h,.int .i64 a] w fun e w'=>∃ l',e = .returned (.int .i64 (gvF S N T a).1)∧St h S N l0 l' (gvF S N T a).2 w'∧Fr w.heap.size (blkM h) w w'∧Kp S N T (gvF S N T a).2 l l':=by
  obtain⟨H,L,d1,d2⟩:=d
  obtain⟨tl,Ll,Hl,s7,s64⟩:=d1.tl
  cases hf:fnd S N T a with
  | none =>
    have e:gvF S N T a=(30,T):=by unfold gvF;rw[hf]
    rw[e]
    refine(d1.give_no (p:=none) (j:=0) (c:=0) (b:=0) (fun W dd=>dd.begins_no d2.hc h64 hf)).mono ?_
    intro e w' hr
    exact⟨l,hr.1,⟨H,L,hr.2.1,d2⟩,hr.2.2,Kp.refl _ _ _ _ _⟩
  | some p =>
    obtain⟨j,k⟩:=p
    obtain⟨hj,hk,-,-⟩:=fnd_some d1.right hf
    by_cases hp:(pl (aT S N j) (T.getD j Sl.zero).c k:Int)=a
    · by_cases hkf : k ∈ (T.getD j Sl.zero).f
      · have e:gvF S N T a=(30,T):=by
          unfold gvF
          rw[hf]
          exact if_neg (fun q=>q.2 hkf)
        rw[e]
        refine(d1.give_dead (j:=j) (c:=(T.getD j Sl.zero).c) (A:=pl (aT S N j) (T.getD j Sl.zero).c k) (K:=6) (by omega) (fun W dd=>by
          have:=dd.begins d2.hc h64 hf
          rw[decide_eq_true hp] at this
          exact this) (fun W dd=>by
          have:=dd.kind hj hk 0
          rw[show kd (T.getD j Sl.zero) k=6 from if_pos hkf] at this
          exact this)).mono ?_
        intro e w' hr
        exact⟨l,hr.1,⟨H,L,hr.2.1,d2⟩,hr.2.2,Kp.refl _ _ _ _ _⟩
      · have hok:=d1.ok9 hj
        have e:gvF S N T a=(0,T.set j (if (T.getD j Sl.zero).f.length+1=blC (T.getD j Sl.zero).c then Sl.zero else ⟨(T.getD j Sl.zero).c,k::(T.getD j Sl.zero).f⟩)):=by
          unfold gvF
          rw[hf]
          exact if_pos ⟨hp,hkf⟩
        rw[e]
        have hHj:=d2.h j hj
        have hLj:=d2.l j hj
        obtain⟨c,f,hT⟩:∃ c f,T.getD j Sl.zero=⟨c,f⟩:=⟨_,_,rfl⟩
        rw[hT] at hk hp hkf hok hHj hLj ⊢
        simp only at hk hp hkf hHj ⊢
        have hlen:=hok.len
        have hc0:c≠0:=by
          rintro rfl
          rw[show blC ((0:Nat):Int)=0 from rfl] at hk
          omega
        have hc9:=hok.c
        simp only at hlen hc9
        have hfo:(Sl.mk c (k::f)).Ok:=⟨hc9,List.nodup_cons.2 ⟨hkf,hok.nd⟩,fun y hy=>by
          rcases List.mem_cons.1 hy with rfl | hy
          · exact hk
          · exact hok.lt y hy⟩
        have hlen2:=hfo.len
        simp only[List.length_cons] at hlen2
        have hbp:=Cls.blC_pos (c:=(c:Int)) (by rw[Cls.szC_zero];omega)
        obtain⟨z1,z2⟩:=d1.lk_zero hj (c:=(c:Int)) f (fun y hy=>hok.lt y hy)
        have hL2:at_ L j=if f = [] then -1 else (c:Int):=by
          rw[hLj]
          unfold lst
          simp only
          rw[if_neg hc0]
        rw[←hp]
        refine(d1.give_yes (m:=(kpA S N j ⟨c,k::f⟩ 5).length) hj d2.hc hT hk hkf (by omega) hc9 (by rw[hHj]) hL2 z1 z2 tl rfl (fun q=>by
          rw[kpA5_len] at q
          rintro rfl
          simp at hlen2
          omega)).mono ?_
        rintro e w' ⟨l',hr,ho⟩
        rw[kpA5_len] at hr ho
        by_cases hm:f.length+1=blC (c:Int)
        · have hm0:(Sl.mk c (k::f)).v.length=0:=by omega
          rw[if_pos hm0] at hr ho
          rw[if_pos hm]
          have hss:(T.set j ⟨c,k::f⟩).set j Sl.zero=T.set j Sl.zero:=List.set_set ..
          rw[hss] at hr
          refine⟨l',hr.1,⟨_,_,hr.2.1,fun i hi=>?_,fun i hi=>?_,fun i hi=>?_⟩,hr.2.2,?_⟩
          · by_cases e : i = j
            · subst e
              rw[hset1 _ _ _ (by omega),getD_set1 _ _ _ (by omega),zero_v (s:=Sl.zero) rfl]
              rfl
            · rw[hset2 _ _ (by omega) e,getD_set2 _ _ (by omega) e]
              exact d2.h i hi
          · by_cases e : i = j
            · subst e
              rw[lset1 _ _ _ (by rw[List.length_set];omega),getD_set1 _ _ _ (by omega)]
              rfl
            · rw[lset2 _ _ (by rw[List.length_set];omega) e,lset2 _ _ (by omega) e,getD_set2 _ _ (by omega) e]
              exact d2.l i hi
          · by_cases e : i = j
            · subst e
              rw[getD_set1 _ _ _ (by omega)]
              intro q
              exact absurd rfl q
            · rw[getD_set2 _ _ (by omega) e]
              exact d2.v i hi
          · intro i k' hi hv hv' hcc t ht
            have hne:i≠j:=by
              rintro rfl
              rw[getD_set1 _ _ _ (by omega),zero_v (s:=Sl.zero) rfl] at hv'
              cases hv'
            exact off_slab ho hne (mem_lt hv).1 ht
        · have hm0:¬ (Sl.mk c (k::f)).v.length=0:=by omega
          rw[if_neg hm0] at hr ho
          rw[if_neg hm]
          refine⟨l',hr.1,⟨_,_,hr.2.1,fun i hi=>?_,fun i hi=>?_,fun i hi=>?_⟩,hr.2.2,?_⟩
          · by_cases e : i = j
            · subst e
              rw[hset1 _ _ _ (by omega),getD_set1 _ _ _ (by omega)]
              rfl
            · rw[hset2 _ _ (by omega) e,getD_set2 _ _ (by omega) e]
              exact d2.h i hi
          · by_cases e : i = j
            · subst e
              rw[getD_set1 _ _ _ (by omega)]
              have hl:lst (Sl.mk c (k::f))=(c:Int):=by
                unfold lst
                simp only
                rw[if_neg hc0,if_neg (by simp)]
              rw[hl]
              by_cases hf0:f = []
              · rw[if_pos hf0,lset1 _ _ _ (by omega)]
              · rw[if_neg hf0,hL2,if_neg hf0]
            · rw[getD_set2 _ _ (by omega) e]
              by_cases hf0:f = []
              · rw[if_pos hf0,lset2 _ _ (by omega) e]
                exact d2.l i hi
              · rw[if_neg hf0]
                exact d2.l i hi
          · by_cases e : i = j
            · subst e
              rw[getD_set1 _ _ _ (by omega)]
              intro _
              exact v_of_len hfo (by simp only[List.length_cons];omega)
            · rw[getD_set2 _ _ (by omega) e]
              exact d2.v i hi
          · intro i k' hi hv hv' hcc t ht
            by_cases e:i=j
            · subst e
              rw[getD_set1 _ _ _ (by omega)] at hv'
              rw[hT] at ht ⊢
              refine off_block ho ?_ ht
              rintro rfl
              exact(mem_lt hv').2 (by simp)
            · exact off_slab (off_wide ho hk) e (mem_lt hv).1 ht
    · have e:gvF S N T a=(30,T):=by
        unfold gvF
        rw[hf]
        exact if_neg (fun q=>hp q.1)
      rw[e]
      refine(d1.give_no (p:=some ⟨h.g,0,none⟩) (j:=j) (c:=(T.getD j Sl.zero).c) (b:=pl (aT S N j) (T.getD j Sl.zero).c k) (fun W dd=>by
        have:=dd.begins d2.hc h64 hf
        rw[decide_eq_false hp] at this
        exact this)).mono ?_
      intro e w' hr
      exact⟨l,hr.1,⟨H,L,hr.2.1,d2⟩,hr.2.2,Kp.refl _ _ _ _ _⟩
end
end Go.Proofs.YtmgeiaglandedaaGreatDoor.Sla

namespace Go.Proofs.YtmgeiaglandedaaGreatDoor.Sla
open Go.RowKit Num
open Mem (Mm MemC MRet Hm rd blkM)
open Lis (Cf LM LR Tb at_ Nx Pv Rep Hx valsN)
open Cls (szC blC pdC)
open Arn (wrL)
set_option linter.unusedVariables false
theorem putA_far {l:List Int} {a x v:Int} {t:Nat} (h:a.toNat+x.toNat≤t):(Arn.putA l a x v).1.getD t 0=l.getD t 0:=by
  unfold Arn.putA
  split
  · rename_i hs
    obtain⟨m,n,rfl,rfl,h1,h2⟩:=Arn.ste_zero hs
    rw[Int.toNat_natCast,Int.toNat_natCast] at h ⊢
    exact Lis.st_get (by simpa using h1) (by simpa using h2) (.inr h)
  · rfl
theorem stamped_far (s n:Int) (l:List Int) {t:Nat} (ht:20≤t):(Mem.stamped s n 3 l).getD t 0=l.getD t 0:=by
  unfold Mem.stamped Mem.stamped Mem.stamped Mem.stamped
  rw[putA_far (Nat.le_trans (show (Mem.fatM ((2:Nat):Int)).toNat+(Mem.fwdM ((2:Nat):Int)).toNat≤20 by decide) ht),
    putA_far (Nat.le_trans (show (Mem.fatM ((1:Nat):Int)).toNat+(Mem.fwdM ((1:Nat):Int)).toNat≤20 by decide) ht),
    putA_far (Nat.le_trans (show (Mem.fatM ((0:Nat):Int)).toNat+(Mem.fwdM ((0:Nat):Int)).toNat≤20 by decide) ht)]
def newL (S N:Nat):List Int:=Mem.stamped (S:Int) (N:Int) 3 (List.replicate (Lay.sizeC (S:Int) (N:Int)) 0)
theorem newL_far (S N:Nat) {t:Nat} (ht:20≤t):(newL S N).getD t 0=0:=by
  unfold newL
  rw[stamped_far _ _ _ ht]
  simp[List.getD,List.getElem?_replicate]
  split<;>rfl
theorem getD_rep {α : Type} (n:Nat) (x d : α) {j:Nat} (hj:j<n):(List.replicate n x).getD j d=x:=by simp[List.getD,hj]
section
variable {h:Hm} {S N:Nat} {l0 l l':List Int} {T T':List Sl} {w W W':World}
theorem new_z (z:Bool) (S N:Nat) (w:World) (hr:Lay.rightC (S:Int) (N:Int)=true) (ht:Tb w) (hh:Hea.Tab w) :
    Calls Tryz.prog 41 #[.agg #[.int .i64 (S:Int),.int .i64 (N:Int)]] w fun e w'=>∃ h,e = .returned (pV h)∧SM h (Lis.newCf S N) (newL S N) w'∧Below w.heap.size w w'∧(∀ k,blkM h k→w.heap.size≤k)∧h.z=z:=by
  refine(Mem.new_yes S N w hr ht.c ht.p).mono ?_
  rintro e w' ⟨v,h,rfl,hm,hb,hk⟩
  have hv:=hm.hv
  subst hv
  exact⟨{ h with z:=z },rfl,⟨⟨ht.keep hb,0,hm.lax z⟩,hh.keep hb⟩,hb,hk,rfl⟩
theorem Co.start (S N:Nat):Co S N (List.replicate S (0,0,0)) (List.replicate S 0) (List.replicate S Sl.zero):=by
  refine⟨fun j hj=>?_,fun j hj=>?_,fun j hj=>?_⟩
  · rw[getD_rep _ _ _ hj,getD_rep _ _ _ hj,zero_v (s:=Sl.zero) rfl]
    rfl
  · rw[Lis.at_rep,if_pos hj,getD_rep _ _ _ hj]
    rfl
  · rw[getD_rep _ _ _ hj]
    intro q
    exact absurd rfl q
theorem begin_low {Z:List Int} (hZ:∀ t,20≤t→Z.getD t 0=0) (hr:Lay.rightC (S:Int) (N:Int)=true) (d:SM h (Lis.newCf S N) Z w) :
    Calls Tryz.prog 42 #[pV h] w fun e w'=>∃ l',e = .returned (.int .i64 0)∧St h S N l' l' (List.replicate S Sl.zero) w'∧Fr w.heap.size (blkM h) w w'∧∀ t,128+16*S≤t→l'.getD t 0=Z.getD t 0:=by
  have hC:=Lis.newCf_ok hr
  have hlx:=d.m.len
  have hll:Z.length=Lay.sizeT S N:=by
    obtain⟨-,lk,hm⟩:=d.m
    have h1:=hm.len
    rw[show ((Lis.newCf S N).mm Z lk).l=Z from rfl] at h1
    rw[h1]
    show Lay.sizeC (S:Int) (N:Int)=_
    rw[Lay.sizeC,if_pos hr,Int.toNat_natCast,Int.toNat_natCast]
  have hbs:=ok_base hC
  have hBg:=Lis.begin_any h (Lis.newCf S N) Z Z w hC d.m (Lis.B1.fresh (by rw[hll];show 128+16*S≤_;rw[show (Lis.newCf S N).s=S from rfl,show (Lis.newCf S N).n=N from rfl] at hbs;omega))
  have hmain:Calls Tryz.prog 97 #[pV h] w fun e w'=>∃ l',e = .returned (.int .i64 0)∧St h S N l' l' (List.replicate S Sl.zero) w'∧Fr w.heap.size (blkM h) w w'∧∀ t,128+16*S≤t→l'.getD t 0=Z.getD t 0:=by
    refine hBg.mono ?_
    rintro e w' ⟨l',hl,hrp⟩
    have hq:=d.lr hl
    have hx:(Lis.newCf S N).x.length=Lay.sizeT S N:=hlx.symm.trans hll
    refine⟨l',hq.1,⟨_,_,⟨Lis.newCf S N,rfl,rfl,fun _=>rfl,hq.2.1,⟨hC,rep_self hrp,hx,hrp.llen.trans hll,List.length_replicate ..,fun _ _ _=>rfl,fun t ht=>?_,fun j hj=>?_⟩⟩,Co.start S N⟩,hq.2.2,fun t ht=>hrp.rest t (by right;right;show 128+16*S≤t;exact ht)⟩
    · obtain⟨S',N',e1,e2,-,-,-,-,-,hk⟩:=Mem.kinds0_at hr
      obtain rfl:S=S':=by omega
      obtain rfl:N=N':=by omega
      exact hk t
    · have hj':j<S:=hj
      rw[getD_rep _ _ _ hj']
      refine Sh.done (fun t h1 h2=>?_)
      rw[show (Lis.newCf S N).s=S from rfl,show (Lis.newCf S N).n=N from rfl] at hbs h1 h2
      unfold aT at h1 h2
      constructor
      · obtain⟨S',N',e1,e2,-,-,-,-,-,hk⟩:=Mem.kinds0_at hr
        obtain rfl:S=S':=by omega
        obtain rfl:N=N':=by omega
        rw[show (Lis.newCf S N).x=Mem.kinds0 S N from rfl,hk]
        unfold Mem.kindT
        have e1:Lay.endT S N≤Lay.baseT S N:=by unfold Lay.baseT;omega
        have e2:Lay.slT S≤Lay.endT S N:=by unfold Lay.slT Lay.endT;omega
        rw[if_neg (by omega),if_neg (by omega),if_neg (by omega),if_neg (by omega),if_neg (by omega),if_pos (by omega)]
      · rw[hrp.rest t (by right;right;show 128+16*S≤t;omega)]
        exact hZ t (by omega)
  have HM:=Lib.hid hmain
  clear hmain hBg hlx hll hbs hC d hr
  unfold pV at *
  go_enter Tryz.func42,Tryz.ntmps42
  go_wp2_with fail
  refine HM.out.mono ?_
  rintro e w1 ⟨l',rfl,h1,h2,h3⟩
  have HG:Hid (St h S N l' l' (List.replicate S Sl.zero) w1∧Fr w.heap.size (blkM h) w w1∧∀ t,128+16*S≤t→l'.getD t 0=Z.getD t 0):=⟨h1,h2,h3⟩
  clear h1 h2 h3 HM
  go_wp2
  go_ret
  exact⟨l',rfl,HG.out⟩
def X0:List Sl:=List.replicate 7 Sl.zero
def X1:List Sl:=(tkF 7 224 X0 1).2
def X2:List Sl:=(tkF 7 224 X1 1).2
set_option maxRecDepth 100000 in
theorem ex1:(tkF 7 224 X0 1).1=(1136,0):=by kernel_rfl
set_option maxRecDepth 100000 in
theorem ex2:(tkF 7 224 X1 1).1=(1168,0):=by kernel_rfl
structure Ts (w:World):Prop where
  t:Tb w
  h:Hea.Tab w
theorem Ts.keep {w w':World} (hb:Below w.heap.size w w') (h:Ts w):Ts w':=⟨h.t.keep hb,h.h.keep hb⟩
end
end Go.Proofs.YtmgeiaglandedaaGreatDoor.Sla
