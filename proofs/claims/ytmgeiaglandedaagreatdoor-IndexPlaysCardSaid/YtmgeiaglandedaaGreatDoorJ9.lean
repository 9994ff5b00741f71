/- Plain mathematics of memories: what each call answers, and what becomes of it. Plain mathematics of memories: what is stored is loaded, and nothing else is another one; kinds of bytes. The kinds of a new memory, place by place. -/
import Derived.Test.YtmgeiaglandedaaGreatDoorJ7
import Derived.Test.YtmgeiaglandedaaGreatDoorJ8
namespace Go.Proofs.YtmgeiaglandedaaGreatDoor.Mem
open Go.RowKit Num Arn Wat
set_option linter.unusedVariables false
structure Mm where
  s:Int
  n:Int
  l:List Int
  x:List Int
  lk:Int
  ft:Int
def Mm.ticked (M:Mm) (r:Bool):Mm := { M with lk:=wrap64 (M.lk+1),ft:=if r then M.ft else wrap64 (M.ft+1) }
def Mm.load (M:Mm) (a n k:Int):Int×Mm:=if lookA M.x a n k then ((ldv M.l a n).1,M.ticked true) else (0,M.ticked false)
def Mm.store (M:Mm) (a n k v:Int):Bool×Mm :=
  if lookA M.x a n k then (decide ((putA M.l a n v).2=0),{ M.ticked true with l:=(putA M.l a n v).1 }) else (false,M.ticked false)
def Mm.each (k:Int):Nat→Mm→Int→Bool×Mm
  | 0,M,_=>(true,M)
  | m+1,M,a=>if lookA M.x a 1 k then Mm.each k m (M.ticked true) (a+1) else (false,M.ticked false)
def Mm.look (M:Mm) (a n k:Int):Bool×Mm:=if fitB M.l.length a n then Mm.each k n.toNat M a else (false,M.ticked false)
def Mm.read (M:Mm) (a n k:Int):List Int×Mm:=(if (M.look a n k).1 then (M.l.drop a.toNat).take n.toNat else [],(M.look a n k).2)
def Mm.write (M:Mm) (a:Int) (X:List Int) (k:Int):Bool×Mm :=
  ((M.look a X.length k).1,{ (M.look a X.length k).2 with l:=if (M.look a X.length k).1 then wrL M.l a.toNat X else M.l })
def Mm.zero (M:Mm) (a n k:Int):Bool×Mm :=
  ((M.look a n k).1,{ (M.look a n k).2 with l:=if (M.look a n k).1 then wrL M.l a.toNat (List.replicate n.toNat 0) else M.l })
def Mm.mark (M:Mm) (a n k:Int):Int×Mm:=((mrkA M.x a n k).2,{ M with x:=(mrkA M.x a n k).1 })
def plI:List Int := [8,12,16,20,24,28,32,36,40,44,48,52,56,60,64,68,72,80,84,88,92,96]
def fldM (f:Int):Bool:=decide (0≤f) && decide (f<21)
def fatM (f:Int):Int:=plI.getD f.toNat 0
def fwdM (f:Int):Int:=plI.getD (f.toNat+1) 0-plI.getD f.toNat 0
def Mm.root (M:Mm) (f:Int):Int×Mm:=if fldM f then M.load (fatM f) (fwdM f) 2 else (0,M)
def Mm.setRoot (M:Mm) (f v:Int):Bool×Mm:=if fldM f then M.store (fatM f) (fwdM f) 2 v else (false,M)
def kinds0 (s n:Int):List Int:=(Lay.runsC s n).foldl (fun x r=>(mrkA x r.1 r.2.1 r.2.2).1) (List.replicate (Lay.sizeC s n) 0)
def stampL (s n:Int):List Int := [1129270338,s,n]
def stamped (s n:Int):Nat→List Int→List Int
  | 0,l=>l
  | i+1,l=>(putA (stamped s n i l) (fatM i) (fwdM i) ((stampL s n).getD i 0)).1
def Mm.new (s n:Int):Mm:=⟨s,n,stamped s n 3 (List.replicate (Lay.sizeC s n) 0),kinds0 s n,0,0⟩
theorem stl_length {l:List Int} {a x:Nat} {v:Int} (h:a+x≤l.length) (hx:x≤8):(stl l a x v).length=l.length:=by
  unfold stl
  simp[parts]
  omega
theorem putA_length (l:List Int) (a x v:Int):(putA l a x v).1.length=l.length:=by
  unfold putA
  split
  · rename_i h
    unfold ste at h
    split at h
    · rename_i hf
      have hw:isW x=true:=by simp[fits] at hf;exact hf.1
      obtain⟨b1,b2⟩:=isW_bd hw
      obtain⟨p1,p2,p3⟩:=plc_ok h
      exact stl_length (by omega) (by omega)
    · cases h
  · rfl
theorem each_x (k:Int):∀ (m:Nat) (M:Mm) (a:Int),(Mm.each k m M a).2.x=M.x∧(Mm.each k m M a).2.l=M.l∧(Mm.each k m M a).2.s=M.s∧(Mm.each k m M a).2.n=M.n
  | 0,_,_=>⟨rfl,rfl,rfl,rfl⟩
  | m+1,M,a=>by
    rw[Mm.each]
    split
    · exact each_x k m (M.ticked true) (a+1)
    · exact⟨rfl,rfl,rfl,rfl⟩
theorem look_x (M:Mm) (a n k:Int):(M.look a n k).2.x=M.x∧(M.look a n k).2.l=M.l∧(M.look a n k).2.s=M.s∧(M.look a n k).2.n=M.n:=by
  unfold Mm.look
  split
  · exact each_x _ _ _ _
  · exact⟨rfl,rfl,rfl,rfl⟩
end Go.Proofs.YtmgeiaglandedaaGreatDoor.Mem

namespace Go.Proofs.YtmgeiaglandedaaGreatDoor.Mem
open Go.RowKit Num Arn Wat
set_option linter.unusedVariables false
def rd (l:List Int) (a n:Nat):Int:=le ((l.drop a).take n)
theorem stl_wrL (l:List Int) (a n:Nat) (v:Int) (hn:n≤8):stl l a n v=wrL l a ((parts v).take n):=by
  unfold stl wrL
  rw[List.length_take,parts_length,Nat.min_eq_left hn]
theorem wr_part (x N:List Int) (a:Nat) (h:a+N.length≤x.length):((wrL x a N).drop a).take N.length=N:=by
  unfold wrL
  rw[List.drop_append_of_le_length (by rw[List.length_take];omega),List.drop_eq_nil_of_le (by rw[List.length_take];omega),List.nil_append,List.take_left]
theorem wr_get (x N:List Int) (a t:Nat) (h:a+N.length≤x.length):(wrL x a N).getD t 0=if a≤t∧t<a+N.length then N.getD (t-a) 0 else x.getD t 0:=by
  unfold wrL List.getD
  rw[List.getElem?_append,List.length_take,Nat.min_eq_left (by omega),List.getElem?_append]
  split
  · rw[if_neg (by omega),List.getElem?_take_of_lt (by omega)]
  · split
    · rw[if_pos (by omega)]
    · rw[if_neg (by omega),List.getElem?_drop,show a+N.length+(t-a-N.length)=t by omega]
theorem list_of_getD {a b:List Int} (hl:a.length=b.length) (h:∀ i,i<a.length→a.getD i 0=b.getD i 0):a=b:=by
  refine List.ext_getElem hl fun i h1 h2=>?_
  have:=h i h1
  simpa[List.getD,h1,h2] using this
theorem wr_other (x N:List Int) (a b m:Nat) (h:a+N.length≤x.length) (hd:b+m≤a∨a+N.length≤b):((wrL x a N).drop b).take m=(x.drop b).take m:=by
  have hl:(wrL x a N).length=x.length:=wrL_length _ _ _ h
  refine list_of_getD (by simp[hl]) fun i hi=>?_
  have hi2:i<m:=by
    rw[List.length_take] at hi
    omega
  rw[take_getD _ _ _ hi2,drop_getD,take_getD _ _ _ hi2,drop_getD,wr_get _ _ _ _ h,if_neg (by omega)]
theorem le_take {v:Int} {n:Nat} (hn:isW n=true) (h0:0≤v) (hf:fits v n=true):le ((parts v).take n)=v:=by
  have hw:=isW_cases hn
  simp only[fits,Bool.and_eq_true,decide_eq_true_eq,Int.toNat_natCast] at hf
  have hv:=hf.2
  rcases(show n=1∨n=2∨n=4∨n=8 by omega) with rfl | rfl | rfl | rfl
  · rw[show (2:Int) ^ (8*1)=256 by decide] at hv
    show v % 256+256*0=v
    omega
  · rw[show (2:Int) ^ (8*2)=65536 by decide] at hv
    show v % 256+256*(v / 256 % 256+256*0)=v
    omega
  · rw[show (2:Int) ^ (8*4)=4294967296 by decide] at hv
    show v % 256+256*(v / 256 % 256+256*(v / 65536 % 256+256*(v / 16777216 % 256+256*0)))=v
    omega
  · show v % 256+256*(v / 256 % 256+256*(v / 65536 % 256+256*(v / 16777216 % 256+256*(v / 4294967296 % 256+256*(v / 1099511627776 % 256+256*(v / 281474976710656 % 256+256*(v / 72057594037927936+256*0)))))))=v
    omega
theorem rd_same {l:List Int} {a n:Nat} {v:Int} (h:a+n≤l.length) (hn:isW n=true) (h0:0≤v) (hf:fits v n=true):rd (stl l a n v) a n=v:=by
  obtain⟨b1,b2⟩:=isW_bd hn
  have hl:((parts v).take n).length=n:=by rw[List.length_take,parts_length];omega
  have h1:=wr_part l ((parts v).take n) a (by omega)
  rw[hl] at h1
  rw[rd,stl_wrL _ _ _ _ (by omega),h1,le_take hn h0 hf]
theorem rd_other {l:List Int} {a n b m:Nat} {v:Int} (h:a+n≤l.length) (hn:n≤8) (hd:b+m≤a∨a+n≤b):rd (stl l a n v) b m=rd l b m:=by
  have hl:((parts v).take n).length=n:=by rw[List.length_take,parts_length];omega
  rw[rd,rd,stl_wrL _ _ _ _ hn,wr_other _ _ _ _ _ (by omega) (by omega)]
theorem rd_bd {l:List Int} (hl:IsBytes l) (a n:Nat):0≤rd l a n∧rd l a n<256 ^ n:=by
  have h:=le_bd ((l.drop a).take n) (part_bytes a n hl)
  refine⟨h.1,Int.lt_of_lt_of_le h.2 ?_⟩
  have h1:((l.drop a).take n).length≤n:=by rw[List.length_take];omega
  have e:∀ k:Nat,(256:Int) ^ k=((256 ^ k:Nat):Int):=fun k=>by rw[Int.natCast_pow];rfl
  rw[e,e]
  exact Int.ofNat_le.2 (Nat.pow_le_pow_right (by decide) h1)
theorem look_iff {x:List Int} {a n:Nat} {k:Int} : lookA x a n k=true↔isW n=true∧a+n≤x.length∧a % n=0∧k≠0∧∀ j,j<n→x.getD (a+j) 0=k:=by
  unfold lookA
  simp only[Bool.and_eq_true,decide_eq_true_eq]
  constructor
  · rintro ⟨h1,h2,h3,h4,h5⟩
    obtain⟨b1,b2⟩:=isW_bd h1
    obtain⟨-,-,-,h6⟩:=fitB_bd h2
    refine⟨h1,by omega,by omega,h4,fun j hj=>?_⟩
    rw[kndA,if_pos h2] at h5
    simp only[Int.toNat_natCast] at h5
    unfold kndS at h5
    split at h5
    · rename_i h7
      have hl:((x.drop a).take n).length=n:=by rw[List.length_take,List.length_drop];omega
      have h8:=h7.2 j (by omega)
      rw[h5,take_getD _ _ _ hj,drop_getD] at h8
      exact h8
    · exact absurd h5.symm h4
  · rintro ⟨h1,h2,h3,h4,h5⟩
    obtain⟨b1,b2⟩:=isW_bd h1
    have hf:fitB x.length (a:Int) (n:Int)=true:=fitB_of h2
    refine⟨h1,hf,by omega,h4,?_⟩
    rw[kndA,if_pos hf]
    simp only[Int.toNat_natCast]
    have hl:((x.drop a).take n).length=n:=by rw[List.length_take,List.length_drop];omega
    have hg:∀ j,j<n→((x.drop a).take n).getD j 0=k:=fun j hj=>by rw[take_getD _ _ _ hj,drop_getD,h5 j hj]
    unfold kndS
    rw[if_pos,hg 0 (by omega)]
    refine⟨fun e=>by rw[e] at hl;simp at hl;omega,fun j hj=>by rw[hg j (by omega),hg 0 (by omega)]⟩
theorem load_ok {M:Mm} {a n:Nat} {k:Int} (h:lookA M.x a n k=true) (he:M.x.length=M.l.length):M.load a n k=(rd M.l a n,M.ticked true):=by
  obtain⟨h1,h2,h3,h4,h5⟩:=look_iff.1 h
  obtain⟨b1,b2⟩:=isW_bd h1
  have hp:plc M.l.length a n=0:=by
    unfold plc
    rw[if_neg (by omega),if_pos (by omega)]
  rw[Mm.load,if_pos h,ldv,if_pos h1,if_pos hp]
  rfl
theorem store_ok {M:Mm} {a n:Nat} {k v:Int} (h:lookA M.x a n k=true) (he:M.x.length=M.l.length) (hv:fits v n=true):M.store a n k v=(true,{ M.ticked true with l:=stl M.l a n v }):=by
  obtain⟨h1,h2,h3,h4,h5⟩:=look_iff.1 h
  obtain⟨b1,b2⟩:=isW_bd h1
  have hp:ste M.l a n v=0:=by
    unfold ste plc
    rw[if_pos hv,if_neg (by omega),if_pos (by omega)]
  rw[Mm.store,if_pos h,putA,if_pos hp]
  rfl
theorem store_big {M:Mm} {a n k v:Int} (h:lookA M.x a n k=true) (hv:fits v n=false):M.store a n k v=(false,M.ticked true):=by
  have hp:ste M.l a n v=2:=by
    unfold ste
    rw[if_neg (by rw[hv];decide)]
  rw[Mm.store,if_pos h,putA,hp]
  rfl
theorem mark_yes {x:List Int} {p q:Nat} {k:Int} (h:p+q≤x.length) (hp:p % 4=0) (hq:q % 4=0) (h0:0≤k) (h8:k≤8):mrkA x p q k=(wrL x p (List.replicate q k),0):=by
  rw[mrkA,if_neg (by omega),if_neg (by rw[fitB_of h];decide),if_neg (by omega)]
  rfl
theorem wr_rep (x:List Int) (p q t:Nat) (k:Int) (h:p+q≤x.length):(wrL x p (List.replicate q k)).getD t 0=if p≤t∧t<p+q then k else x.getD t 0:=by
  rw[wr_get _ _ _ _ (by rw[List.length_replicate];exact h),List.length_replicate]
  split
  · rename_i h1
    have h2:t-p<q:=by omega
    simp[List.getD,h2]
  · rfl
end Go.Proofs.YtmgeiaglandedaaGreatDoor.Mem

namespace Go.Proofs.YtmgeiaglandedaaGreatDoor.Mem
open Go.RowKit Num Arn Wat
set_option linter.unusedVariables false
def kindT (S N t:Nat):Int :=
  if t<8 then 1 else if t<128 then 2 else if t<Lay.slT S then 3 else if t<Lay.endT S N then 4 else if t<Lay.baseT S N then 8 else if t<Lay.sizeT S N then 7 else 0
theorem mark_on {z:Nat} (x:List Int) (hx:x.length=z) (p q k:Nat) (h:p+q≤z) (hp:p % 4=0) (hq:q % 4=0) (h8:k≤8) :
    (mrkA x (p:Int) (q:Int) (k:Int)).1.length=z∧∀ t,(mrkA x (p:Int) (q:Int) (k:Int)).1.getD t 0=if p≤t∧t<p+q then (k:Int) else x.getD t 0:=by
  refine⟨by rw[mrkA_length,hx],fun t=>?_⟩
  rw[mark_yes (by omega) hp hq (by omega) (by omega),wr_rep _ _ _ _ _ (by omega)]
set_option maxHeartbeats 4000000 in
theorem kinds0_at {s n:Int} (hr:Lay.rightC s n=true):∃ S N:Nat,s=S∧n=N∧7≤S∧S≤64∧N % 2=0∧32*S≤N∧N≤8192∧∀ t,(kinds0 s n).getD t 0=kindT S N t:=by
  have h0:=hr
  obtain⟨S,N,rfl,rfl,h1,h2,h3,h4,h5⟩:=Lay.right_nat hr
  refine⟨S,N,rfl,rfl,h1,h2,h3,h4,h5,fun t=>?_⟩
  have hb:=Lay.base_sixteen (s:=S) h3
  have hp:=Lay.pad_two (s:=S) h3
  have hz:Lay.sizeC S N=Lay.sizeT S N:=by rw[Lay.sizeC,if_pos h0];rfl
  unfold kinds0
  rw[hz,Lay.runsC,if_pos h0]
  simp only[Int.toNat_natCast]
  unfold kindT
  have e1:Lay.slT S=128+16*S:=rfl
  have e2:Lay.endT S N=128+16*S+4*N:=rfl
  have e3:Lay.baseT S N=Lay.endT S N+Lay.padT S N:=rfl
  have e4:Lay.sizeT S N=Lay.baseT S N+1024*S:=rfl
  generalize Lay.sizeT S N=z at *
  have hl0:(List.replicate z (0:Int)).length=z:=List.length_replicate
  have g0:∀ t,(List.replicate z (0:Int)).getD t 0=0:=fun t=>by
    by_cases h:t<z
    · simp[List.getD,h]
    · simp[List.getD,h]
  obtain⟨l1,g1⟩:=mark_on (z:=z) _ hl0 0 8 1 (by omega) (by omega) (by omega) (by omega)
  obtain⟨l2,g2⟩:=mark_on (z:=z) _ l1 8 120 2 (by omega) (by omega) (by omega) (by omega)
  obtain⟨l3,g3⟩:=mark_on (z:=z) _ l2 128 (16*S) 3 (by omega) (by omega) (by omega) (by omega)
  obtain⟨l4,g4⟩:=mark_on (z:=z) _ l3 (Lay.slT S) (4*N) 4 (by omega) (by omega) (by omega) (by omega)
  unfold Lay.runsT
  by_cases hp0:Lay.padT S N=0
  · obtain⟨l6,g6⟩:=mark_on (z:=z) _ l4 (Lay.baseT S N) (1024*S) 7 (by omega) (by omega) (by omega) (by omega)
    rw[if_pos hp0]
    simp only[List.append_nil,List.cons_append,List.nil_append,List.foldl_cons,List.foldl_nil]
    rw[g6,g4,g3,g2,g1,g0]
    repeat' split
    all_goals omega
  · have hp8:Lay.padT S N=8:=by omega
    obtain⟨l5,g5⟩:=mark_on (z:=z) _ l4 (Lay.endT S N) 8 8 (by omega) (by omega) (by omega) (by omega)
    obtain⟨l6,g6⟩:=mark_on (z:=z) _ l5 (Lay.baseT S N) (1024*S) 7 (by omega) (by omega) (by omega) (by omega)
    rw[if_neg hp0]
    simp only[List.cons_append,List.nil_append,List.foldl_cons,List.foldl_nil]
    rw[g6,g5,g4,g3,g2,g1,g0]
    repeat' split
    all_goals omega
end Go.Proofs.YtmgeiaglandedaaGreatDoor.Mem
