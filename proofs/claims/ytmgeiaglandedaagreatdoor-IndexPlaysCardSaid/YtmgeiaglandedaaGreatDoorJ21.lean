/- Slots and blocks in a memory of slabs: what is loaded, stored, written and read. The landed index: a memory whose slots hold places of blocks; loads and stores of slots and of fields. Contracts of the index: tables in their boxes; where a slot lies, what it holds; homes and steps. Contracts of the index: the tag, hash and key of a block; what slots tell. Contracts of the index: tests of slots; seek; which slot, which block. Contracts of the index: what is put in and taken out; the slot and the block of a search. Contracts of the index: tables and searches that are made. Contracts of the index: a search for a block. Contracts of the index: Place, Insert, Delete, Move. Contracts of the index: Insert, Delete, Move. Contracts of the index: keys and labels; the tests of Entry and Node. Contracts of the index: Entry and Node. Contracts of the index: Entry, Node, Begin, Longest. The index within a statement: a memory with blocks and slots; blocks that are taken and filled. -/
import Derived.Test.YtmgeiaglandedaaGreatDoorJ20
import Derived.Test.YtmgeiaglandedaaGreatDoorJ2
import Derived.Deep.RegionHeld3
import Derived.BigQuiet
import Derived.Laws.EntriesVeiled
import Derived.Test.YtmgeiaglandedaaGreatDoorJ0
import Derived.WalkMore
import Derived.ScopeJumps
import Derived.Deep.LoopGhost
import Derived.Laws.StructEq
import Derived.Test.YtmgeiaglandedaaGreatDoorJ18
import Derived.Test.YtmgeiaglandedaaGreatDoorJ19
namespace Go.Proofs.YtmgeiaglandedaaGreatDoor.Ind
open Go.RowKit Num
open Mem (Mm MemC MRet Hm rd blkM)
open Lis (Cf LM LR Tb at_ Nx Pv Rep Hx valsN)
open Sla (Sl St Sx SM SR SlabOk Out Lv pl aT pV ok_base bl_in bl_apart mem_lt Tk)
open Cls (szC blC pdC)
open Arn (wrL is64)
open Rin (st_self st_len st_bytes lv_at st_kind kX Sx.inside room_live)
set_option linter.unusedVariables false
structure Bk where
  node:Bool
  name:Nat
  typ:Nat
  lab:List Int
  hash:Nat
  cls:Nat
  refs:Nat
  used:Bool
  next:Nat
  prev:Nat
  exp:Nat
  size:Nat
def Bk.sz (b:Bk):Nat:=szC (b.cls:Int)
theorem sz_cls {c:Nat} (h1:1≤c) (h2:c≤9):32≤szC (c:Int)∧szC (c:Int)≤1024:=by
  rcases(show c=1∨c=2∨c=3∨c=4∨c=5∨c=6∨c=7∨c=8∨c=9 by omega) with rfl | rfl | rfl | rfl | rfl | rfl | rfl | rfl | rfl<;>decide
def Bk.tag (b:Bk):Int:=if b.node then 2 else 1
def Bk.blk (b:Bk):Hea.Blk:=if b.node then { Hea.Blk.zero with tag:=2,cls:=b.cls,name:=b.name,lab:=b.lab.length,refs:=b.refs,hash:=b.hash } else { Hea.Blk.zero with tag:=1,cls:=b.cls,used:=b.used,name:=b.name,next:=b.next,prev:=b.prev,exp:=b.exp,typ:=b.typ,size:=b.size,hash:=b.hash }
structure Bk.Ok (b:Bk):Prop where
  name:b.name<4294967296
  typ:b.typ<65536
  hash:b.hash<4294967296
  lab:b.lab.length≤63∧16+b.lab.length≤b.sz
  cls:1≤b.cls∧b.cls≤9
  refs:b.refs<4294967296
  ring:b.next<4294967296∧b.prev<4294967296
  exp:b.exp<18446744073709551616
  size:b.size≤480
  node:b.node=true→b.typ=0∧1≤b.lab.length
  entry:b.node=false→b.lab = []
def hom (b:Bk):Nat:=b.hash % 224
theorem hom_lt (b:Bk):hom b<224:=Nat.mod_lt _ (by omega)
theorem Bk.Ok.blk_ok {b:Bk} (h:b.Ok):b.blk.Ok∧Hea.RightP b.blk∧b.blk.tag=b.tag:=by
  obtain⟨h1,h2,h3,⟨h4,-⟩,hc,hr,hg,hx,hz,h5,h6⟩:=h
  cases hn:b.node with
  | true =>
    obtain⟨h7,h8⟩:=h5 hn
    have e1:b.blk = { Hea.Blk.zero with tag:=2,cls:=b.cls,name:=b.name,lab:=b.lab.length,refs:=b.refs,hash:=b.hash } := by unfold Bk.blk;rw[hn];rfl
    have e2:b.tag=2:=by unfold Bk.tag;rw[hn];rfl
    rw[e1,e2]
    refine⟨?_,?_,rfl⟩
    · constructor<;>simp[Hea.Blk.zero,Hea.i64,Hea.u32,Hea.u64,Hea.u16]<;>omega
    · refine .inr (.inr ?_)
      simp[Hea.Blk.zero]
      omega
  | false =>
    have e1:b.blk = { Hea.Blk.zero with tag:=1,cls:=b.cls,used:=b.used,name:=b.name,next:=b.next,prev:=b.prev,exp:=b.exp,typ:=b.typ,size:=b.size,hash:=b.hash } := by unfold Bk.blk;rw[hn];rfl
    have e2:b.tag=1:=by unfold Bk.tag;rw[hn];rfl
    rw[e1,e2]
    refine⟨?_,?_,rfl⟩
    · constructor<;>simp[Hea.Blk.zero,Hea.i64,Hea.u32,Hea.u64,Hea.u16]<;>omega
    · refine .inr (.inl ?_)
      simp[Hea.Blk.zero]
      omega
theorem Bk.Ok.szd {b:Bk} (h:b.Ok):32≤b.sz∧b.sz≤1024:=sz_cls h.cls.1 h.cls.2
structure BAt (l:List Int) (x:Nat) (b:Bk):Prop where
  ok:b.Ok
  hd:(l.drop x).take (Hea.encL b.blk).length=Hea.encL b.blk
  lab:(l.drop (x+16)).take b.lab.length=b.lab∨b.node=false
theorem enc_len {b:Bk} (h:b.Ok):(Hea.encL b.blk).length=if b.node then 16 else 32:=by
  have ht:=h.blk_ok.2.2
  unfold Bk.tag at ht
  cases hn:b.node<;>rw[hn] at ht<;>simp[Hea.encL,ht,Hea.p1,Hea.p4,Hea.p8,Hea.p2]
theorem part_agree {l l':List Int} {a n:Nat} (hl:l'.length=l.length) (h:∀ t,a≤t→t<a+n→l'.getD t 0=l.getD t 0):(l'.drop a).take n=(l.drop a).take n:=by
  refine Mem.list_of_getD (by simp[hl]) (fun i hi=>?_)
  have h1:i<n:=by simp at hi;omega
  have:=h (a+i) (by omega) (by omega)
  simp[List.getD,h1] at this ⊢
  exact this
theorem BAt.same {l l':List Int} {x:Nat} {b:Bk} (h:BAt l x b) (hl:l'.length=l.length) (hs:∀ t,x≤t→t<x+b.sz→l'.getD t 0=l.getD t 0):BAt l' x b:=by
  have he:=enc_len h.ok
  have hz:=h.ok.szd
  refine⟨h.ok,?_,?_⟩
  · rw[part_agree hl (fun t q1 q2=>hs t q1 (by rw[he] at q2;split at q2<;>omega))]
    exact h.hd
  · have:=h.ok.lab
    rw[part_agree hl (fun t q1 q2=>hs t (by omega) (by omega))]
    exact h.lab
theorem BAt.tag {l:List Int} {x:Nat} {b:Bk} (h:BAt l x b):l.getD x 0=b.tag:=by
  have he:=enc_len h.ok
  have hp:0<(Hea.encL b.blk).length:=by rw[he];split<;>omega
  have h1:(Hea.encL b.blk).getD 0 0=b.tag:=by
    rw[←h.ok.blk_ok.2.2]
    simp[Hea.encL,Hea.p1]
  rw[←h.hd,take_getD _ _ _ hp,drop_getD] at h1
  exact h1
def fldV (b:Bk) (f:Nat):Int:=if f=0 then b.tag else if f=3 then b.lab.length else if f=4 then b.name else if f=8 then b.typ else b.hash
theorem BAt.ld {l:List Int} {x:Nat} {b:Bk} (h:BAt l x b) {f:Nat} (hf:f=0∨f=3∨f=4∨f=8∨f=10):Hea.ldF l x b.tag (f:Int)=fldV b f:=by
  obtain⟨k1,k2,k3⟩:=h.ok.blk_ok
  by_cases h8:f=8∧b.node=true
  · obtain⟨rfl,hn⟩:=h8
    have e:b.tag=2:=by unfold Bk.tag;rw[hn];rfl
    rw[e]
    unfold Hea.ldF
    rw[if_pos (by decide)]
    unfold fldV
    simp[(h.ok.node hn).1]
  · have hh:Hea.hasF b.blk.tag f=true:=by
      rw[k3]
      unfold Bk.tag
      cases hn:b.node
      · rcases hf with rfl | rfl | rfl | rfl | rfl<;>decide
      · rcases hf with rfl | rfl | rfl | rfl | rfl
        · decide
        · decide
        · decide
        · exact absurd ⟨rfl,hn⟩ h8
        · decide
    have:=Hea.ld_num k1 k2 h.hd hh (by omega)
    rw[k3] at this
    rw[this]
    have ho:=h.ok
    obtain⟨m1,m2,m3,⟨m4,-⟩,-,-,-,-,-,m5,m6⟩:=ho
    cases hn:b.node
    · have e0:=m6 hn
      rcases hf with rfl | rfl | rfl | rfl | rfl<;>simp[fldV,Hea.numF,Bk.blk,Bk.tag,hn,Hea.Blk.zero,e0]<;>first | decide | rfl
    · rcases hf with rfl | rfl | rfl | rfl | rfl
      · simp[fldV,Hea.numF,Bk.blk,Bk.tag,hn];decide
      · simp[fldV,Hea.numF,Bk.blk,hn];exact Hea.u64_id (by omega) (by omega)
      · simp[fldV,Hea.numF,Bk.blk,hn]
      · exact absurd ⟨rfl,hn⟩ h8
      · simp[fldV,Hea.numF,Bk.blk,hn]
def LvC (S N:Nat) (T:List Sl) (x c:Nat):Prop:=∃ j k,j<S∧k∈(T.getD j Sl.zero).v∧x=pl (aT S N j) (T.getD j Sl.zero).c k∧(T.getD j Sl.zero).c=c
theorem LvC.lv {S N x c:Nat} {T:List Sl} (h:LvC S N T x c):Lv S N T x:=by
  obtain⟨j,k,h1,h2,h3,-⟩:=h
  exact⟨j,k,h1,h2,h3⟩
theorem Lv.cls {S N x:Nat} {T:List Sl} (h:Lv S N T x):∃ c,LvC S N T x c:=by
  obtain⟨j,k,h1,h2,h3⟩:=h
  exact⟨_,j,k,h1,h2,h3,rfl⟩
theorem LvC.apart {S N x y c c':Nat} {T:List Sl} (hx:LvC S N T x c) (hy:LvC S N T y c') (hne:x≠y):x+szC (c:Int)≤y∨y+szC (c':Int)≤x:=by
  obtain⟨j,k,hj,hk,rfl,rfl⟩:=hx
  obtain⟨j',k',hj',hk',rfl,rfl⟩:=hy
  exact Sla.blk_apart (S:=S) (N:=N) (mem_lt hk).1 (mem_lt hk').1 (by rintro ⟨rfl,rfl⟩;exact hne rfl)
section
variable {h:Hm} {S N:Nat} {l0 l l':List Int} {T T':List Sl} {w w' W W':World}
theorem Sx.slots {C:Cf} {H:List Hx} {L:List Int} (h5:Sx l0 C l H L T) (hl:l'.length=l.length) (hs:∀ t,t<128+16*C.s∨Lay.baseT C.s C.n≤t→l'.getD t 0=l.getD t 0):Sx l' C l' H L T:=by
  refine⟨h5.ok,Sla.rep_low h5.rep hl (fun t ht=>hs t (.inl ht)),h5.xl,hl.trans h5.ll,h5.tl,fun _ _ _=>rfl,h5.xlow,fun j hj=>?_⟩
  exact(h5.sl j hj).same (fun t h1 h2=>⟨hs t (.inr (by unfold aT at h1;omega)),rfl⟩)
theorem base7:Lay.baseT 7 224=1136:=by decide
theorem slot_look {C:Cf} {H:List Hx} {L:List Int} (h5:Sx l0 C l H L T) (e1:C.s=7) (e2:C.n=224) {i:Nat} (hi:i<224):Wat.lookA C.x ((240+i*4:Nat):Int) ((4:Nat):Int) 4=true:=by
  have hb:=ok_base h5.ok
  rw[e1,e2,base7] at hb
  refine Mem.look_iff.2 ⟨by decide,by rw[h5.xl,e1,e2];omega,by omega,by decide,fun j hj=>?_⟩
  rw[h5.xlow _ (by rw[e1,e2,base7];omega),e1,e2]
  unfold Mem.kindT
  rw[if_neg (by omega),if_neg (by omega),if_neg (by unfold Lay.slT;omega),if_pos (by unfold Lay.endT;omega)]
theorem st_slot (d:St h 7 224 l0 l T W) {i:Nat} (hi:i<224) :
    Calls Tryz.prog 128 #[pV h,.int .i64 ((240+i*4:Nat):Int),.int .i64 4,.int .i64 4] W fun e W'=>e = .returned (.int .u64 (rd l (240+i*4) 4))∧St h 7 224 l0 l T W'∧Fr W.heap.size (blkM h) W W':=by
  obtain⟨H,L,⟨C,q1,q2,h3,h4,h5⟩,d2⟩:=d
  obtain⟨ht,lk,hm⟩:=id h4.m
  have hl:=Mem.load_any h _ (C.mm l lk) ((240+i*4:Nat):Int) ((4:Nat):Int) 4 W hm (by unfold is64;omega)
  rw[Mem.load_ok (M:=C.mm l lk) (slot_look h5 q1 q2 hi) hm.lenx] at hl
  refine Calls.mono hl ?_
  intro e w' hq
  have hr:SR h C l (.int .u64 (rd l (240+i*4) 4)) W e w':=h4.mret (lk:=wrap64 (lk+1)) hq
  exact⟨hr.1,⟨H,L,⟨C,q1,q2,h3,hr.2.1,h5⟩,d2⟩,hr.2.2⟩
theorem st_setSlot (d:St h 7 224 l l T W) {i v:Nat} (hi:i<224) (hv:v<4294967296) :
    Calls Tryz.prog 166 #[pV h,.int .i64 ((240+i*4:Nat):Int),.int .i64 4,.int .i64 4,.int .u64 (v:Int)] W fun e W'=>e = .returned (.bool true)∧St h 7 224 (stl l (240+i*4) 4 (v:Int)) (stl l (240+i*4) 4 (v:Int)) T W'∧Fr W.heap.size (blkM h) W W':=by
  obtain⟨k1,k2,k3⟩:=st_len d
  rw[show Lay.sizeT 7 224=8304 by decide] at k1
  obtain⟨H,L,⟨C,q1,q2,h3,h4,h5⟩,d2⟩:=d
  obtain⟨ht,lk,hm⟩:=id h4.m
  have hfit:fits (v:Int) ((4:Nat):Int)=true:=by simp[fits,isW];omega
  have hl:=Mem.store_any h _ (C.mm l lk) ((240+i*4:Nat):Int) ((4:Nat):Int) 4 (v:Int) W hm (by unfold is64;omega) (by omega) (by omega)
  rw[Mem.store_ok (M:=C.mm l lk) (slot_look h5 q1 q2 hi) hm.lenx hfit] at hl
  refine Calls.mono hl ?_
  intro e w' hq
  have hr:SR h C (stl l (240+i*4) 4 (v:Int)) (.bool true) W e w':=h4.mret (lk:=wrap64 (lk+1)) hq
  have hx:=Sx.slots (l':=stl l (240+i*4) 4 (v:Int)) h5 (stl_length _ _ _ _ (by omega) (by omega)) (fun t q=>Lis.st_get (by omega) (by omega) (by rw[q1,q2,base7] at q;omega))
  exact⟨hr.1,⟨H,L,⟨C,q1,q2,h3,hr.2.1,hx⟩,d2⟩,hr.2.2⟩
theorem room_tag {C:Cf} {H:List Hx} {L:List Int} (h5:Sx l0 C l H L T) {j k:Nat} (hj:j<C.s) (hk:k∈(T.getD j Sl.zero).v) (l':List Int) (lk:Int) (b:Bk):Hea.Room (C.mm l' lk) (pl (aT C.s C.n j) (T.getD j Sl.zero).c k) b.tag:=by
  obtain⟨r1,r2,r3,r4⟩:=room_live h5 hj hk l' lk
  have e1:(Hea.szF 1).toNat=32:=rfl
  have e2:Hea.kdF 1=5:=rfl
  unfold Bk.tag
  cases b.node
  · exact⟨r1,r2,r3,r4⟩
  · rw[e1] at r3 r4
    rw[e2] at r4
    have e3:(Hea.szF 2).toNat=16:=rfl
    exact⟨by decide,r2,by show _+(Hea.szF 2).toNat≤_;rw[e3];omega,fun i hi=>by
      have hi2:i<16:=hi
      exact r4 i (by omega)⟩
theorem st_fld (d:St h S N l0 l T W) {x:Nat} (hx:Lv S N T x) {b:Bk} (hb:BAt l x b) {f:Nat} (hf:f=0∨f=3∨f=4∨f=8∨f=10) :
    Calls Tryz.prog 165 #[pV h,.int .i64 (x:Int),.int .i64 (f:Int)] W fun e W'=>e = .returned (.int .u64 (fldV b f))∧St h S N l0 l T W'∧Fr W.heap.size (blkM h) W W':=by
  obtain⟨H,L,⟨C,rfl,rfl,h3,h4,h5⟩,d2⟩:=d
  obtain⟨j,k,hj,hk,rfl⟩:=hx
  obtain⟨-,lk0,hm⟩:=id h4.m
  refine(Hea.hload_any h _ (C.mm l lk0) _ b.tag (f:Int) W h4.t hm (room_tag h5 hj hk l lk0 b) (fun _=>hb.tag)).mono ?_
  rintro e w' ⟨lk,hq⟩
  rw[show (C.mm l lk0).l=l from rfl,hb.ld hf] at hq
  have hr:SR h C l (.int .u64 (fldV b f)) W e w':=h4.mret (lk:=lk) hq
  exact⟨hr.1,⟨H,L,⟨C,rfl,rfl,h3,hr.2.1,h5⟩,d2⟩,hr.2.2⟩
theorem lvc_at (d:St h S N l0 l T W) {x c:Nat} (hx:LvC S N T x c):128≤x∧x % 16=0∧x+szC (c:Int)≤Lay.sizeT S N∧Lay.sizeT S N≤100000∧32≤szC (c:Int):=by
  have h0:=lv_at d hx.lv
  obtain⟨H,L,⟨C,rfl,rfl,h3,h4,h5⟩,d2⟩:=d
  obtain⟨j,k,hj,hk,rfl,rfl⟩:=hx
  have hb:=ok_base h5.ok
  have hin:=bl_in (mem_lt hk).1
  refine⟨h0.1,h0.2.1,?_,h0.2.2.2,hin.2.2⟩
  unfold pl aT
  unfold Lay.sizeT
  omega
theorem live_atC (d:St h S N l0 l T W) {x n c:Nat} (hx:LvC S N T x c) (h0:0<n) (hn:n≤szC (c:Int)):Wat.kndA (kX S N T) (x:Int) (n:Int)=5:=by
  obtain⟨H,L,⟨C,rfl,rfl,h3,h4,h5⟩,d2⟩:=d
  obtain⟨j,k,hj,hk,rfl,rfl⟩:=hx
  have hb:=ok_base h5.ok
  obtain⟨h1,h2⟩:=mem_lt hk
  have hin:=bl_in h1
  rw[←Rin.sx_x h5]
  have hg:∀ i,i<szC (T.getD j Sl.zero).c→C.x.getD (pl (aT C.s C.n j) (T.getD j Sl.zero).c k+i) 0=5:=fun i hi=>by
    have:=(h5.sl j hj).k k h1 i (by omega)
    rw[if_neg h2] at this
    exact this
  generalize hp:pl (aT C.s C.n j) (T.getD j Sl.zero).c k=p at hg
  have hlen:p+szC (T.getD j Sl.zero).c≤C.x.length:=by rw[h5.xl,←hp];unfold pl aT;omega
  unfold Wat.kndA
  rw[if_pos (Arn.fitB_of (by omega)),Int.toNat_natCast,Int.toNat_natCast]
  have hl:((C.x.drop p).take n).length=n:=by rw[List.length_take,List.length_drop];omega
  have hgg:∀ i,i<n→((C.x.drop p).take n).getD i 0=5:=fun i hi=>by rw[take_getD _ _ _ hi,drop_getD,hg i (by omega)]
  unfold Wat.kndS
  rw[if_pos,hgg 0 h0]
  exact⟨fun e=>by rw[e] at hl;simp at hl;omega,fun i hi=>by rw[hgg i (by omega),hgg 0 h0]⟩
theorem live_at (d:St h S N l0 l T W) {x n:Nat} (hx:Lv S N T x) (h0:0<n) (hn:n≤32):Wat.kndA (kX S N T) (x:Int) (n:Int)=5:=by
  obtain⟨c,hc⟩:=Lv.cls hx
  have:=(lvc_at d hc).2.2.2.2
  exact live_atC d hc h0 (by omega)
theorem st_writeAt (d:St h S N l l T W) {x o c:Nat} (hx:LvC S N T x c) {u:Value} {X:List Int} (hX:o+X.length≤szC (c:Int)) (hu:Row .u8 W u X) (hub:∀ b,u.ownBlock=some b→¬ blkM h b) :
    Calls Tryz.prog 87 #[pV h,.int .i64 ((x+o:Nat):Int),u,.int .i64 5] W fun e w'=>e = .returned (.bool true)∧St h S N (wrL l (x+o) X) (wrL l (x+o) X) T w'∧Fr W.heap.size (blkM h) W w':=by
  have hat:=lvc_at d hx
  have hlen:=st_len d
  obtain⟨H,L,⟨C,rfl,rfl,h3,h4,h5⟩,d2⟩:=d
  obtain⟨j,k,hj,hk,rfl,rfl⟩:=hx
  obtain⟨k1,k2⟩:=mem_lt hk
  have hin:=bl_in k1
  obtain⟨ht,lk0,hm⟩:=id h4.m
  refine(Mem.write_any h _ (C.mm l lk0) ((pl (aT C.s C.n j) (T.getD j Sl.zero).c k+o:Nat):Int) 5 u X W hm (by unfold Arn.is64;omega) hu (fun b hb q=>hub b hb (.inr (.inl q)))).mono ?_
  intro e w' hq
  obtain⟨lk,hlk⟩:=Sla.look_ok (M:=C.mm l lk0) (a:=pl (aT C.s C.n j) (T.getD j Sl.zero).c k+o) (n:=X.length) (k:=5) (by omega) (fun i hi=>by
    have:=(h5.sl j hj).k k k1 (o+i) (by omega)
    rw[if_neg k2] at this
    rw[←this,Nat.add_assoc]
    rfl) (by show _≤C.x.length;rw[h5.xl];omega) hm.lenx
  rw[Mm.write,hlk,if_pos rfl,Int.toNat_natCast] at hq
  have hr:SR h C (wrL l (pl (aT C.s C.n j) (T.getD j Sl.zero).c k+o) X) (.bool true) W e w':=h4.mret (lk:=lk) hq
  have hx:=Sx.inside (l':=wrL l (pl (aT C.s C.n j) (T.getD j Sl.zero).c k+o) X) h5 hj hk (Arn.wrL_length _ _ _ (by omega)) (fun t q=>by
    rw[Mem.wr_get _ _ _ _ (by omega),if_neg (by omega)])
  exact⟨hr.1,st_self ⟨H,L,⟨C,rfl,rfl,h3,hr.2.1,hx⟩,d2⟩,hr.2.2⟩
theorem st_readAt (d:St h S N l0 l T W) {x o n c:Nat} (hx:LvC S N T x c) (hn:o+n≤szC (c:Int)) :
    Calls Tryz.prog 62 #[pV h,.int .i64 ((x+o:Nat):Int),.int .i64 (n:Int),.int .i64 5] W fun e w'=>∃ u,e = .returned u∧St h S N l0 l T w'∧Fr W.heap.size (blkM h) W w'∧Arn.NewRow W.heap.size w' u ((l.drop (x+o)).take n):=by
  have hat:=lvc_at d hx
  have hlen:=st_len d
  obtain⟨H,L,⟨C,rfl,rfl,h3,h4,h5⟩,d2⟩:=d
  obtain⟨j,k,hj,hk,rfl,rfl⟩:=hx
  obtain⟨k1,k2⟩:=mem_lt hk
  have hin:=bl_in k1
  obtain⟨ht,lk0,hm⟩:=id h4.m
  refine(Mem.read_any h _ (C.mm l lk0) ((pl (aT C.s C.n j) (T.getD j Sl.zero).c k+o:Nat):Int) n 5 W hm (by unfold Arn.is64;omega) (by unfold Arn.is64;omega)).mono ?_
  rintro e w' ⟨u,hq,hrow⟩
  obtain⟨lk,hlk⟩:=Sla.look_ok (M:=C.mm l lk0) (a:=pl (aT C.s C.n j) (T.getD j Sl.zero).c k+o) (n:=n) (k:=5) (by omega) (fun i hi=>by
    have:=(h5.sl j hj).k k k1 (o+i) (by omega)
    rw[if_neg k2] at this
    rw[←this,Nat.add_assoc]
    rfl) (by show _≤C.x.length;rw[h5.xl];omega) hm.lenx
  rw[Mm.read,hlk,if_pos rfl,Int.toNat_natCast,Int.toNat_natCast] at hq hrow
  have hr:SR h C l u W e w':=h4.mret (lk:=lk) hq
  exact⟨u,hr.1,⟨H,L,⟨C,rfl,rfl,h3,hr.2.1,h5⟩,d2⟩,hr.2.2,hrow⟩
theorem st_putBk (d:St h S N l l T W) {x:Nat} (hx:Lv S N T x) {b:Bk} (hb:b.Ok) :
    Calls Tryz.prog 86 #[pV h,.int .i64 (x:Int),b.blk.agg] W fun e W'=>e = .returned (.int .i64 0)∧St h S N (wrL l x (Hea.encL b.blk)) (wrL l x (Hea.encL b.blk)) T W'∧Fr W.heap.size (blkM h) W W':=by
  have hat:=lv_at d hx
  have hlen:=st_len d
  have he:=enc_len hb
  have he2:(Hea.encL b.blk).length≤32:=by rw[he];split<;>omega
  obtain⟨g1,g2,g3⟩:=hb.blk_ok
  obtain⟨H,L,⟨C,rfl,rfl,h3,h4,h5⟩,d2⟩:=d
  obtain⟨j,k,hj,hk,rfl⟩:=hx
  have hin:=bl_in (mem_lt hk).1
  refine(h4.put b.blk g1 g2 (fun lk=>by rw[g3];exact room_tag h5 hj hk l lk b)).mono ?_
  intro e w' hr
  have hx:=Sx.inside (l':=wrL l (pl (aT C.s C.n j) (T.getD j Sl.zero).c k) (Hea.encL b.blk)) h5 hj hk (Arn.wrL_length _ _ _ (by omega)) (fun t q=>by
    rw[Mem.wr_get _ _ _ _ (by omega),if_neg (by omega)])
  exact⟨hr.1,st_self ⟨H,L,⟨C,rfl,rfl,h3,hr.2.1,hx⟩,d2⟩,hr.2.2⟩
end
end Go.Proofs.YtmgeiaglandedaaGreatDoor.Ind

namespace Go.Proofs.YtmgeiaglandedaaGreatDoor.Ind
open Go.RowKit Num
open Mem (Mm MemC MRet Hm rd blkM)
open Lis (Cf LM LR Tb at_ Nx Pv Rep Hx valsN)
open Sla (Sl St Lv pl aT pV Lo)
open Arn (wrL is64)
open Rin (st_self st_len st_bytes lv_at st_kind kX st_config)
set_option linter.unusedVariables false
structure Fx where
  h:Hm
  T:List Sl
  E:List Nat
  B:Nat→Bk
  lb:List Int
structure Nc (l l':List Int):Prop where
  len:l'.length=l.length
  out:∀ t,¬ (240≤t∧t<1136)→l'.getD t 0=l.getD t 0
theorem Nc.refl (l:List Int):Nc l l:=⟨rfl,fun _ _=>rfl⟩
theorem Nc.trans {a b c:List Int} (h:Nc a b) (k:Nc b c):Nc a c:=⟨k.len.trans h.len,fun t q=>(k.out t q).trans (h.out t q)⟩
def Sls (l:List Int) (K:Nat→Nat):Prop:=∀ i,i<224→rd l (240+i*4) 4=(K i:Int)
structure En (X:Fx) (l:List Int) (K:Nat→Nat) (W:World):Prop where
  st:St X.h 7 224 l l X.T W
  lv:∀ x∈X.E,LvC 7 224 X.T x (X.B x).cls
  bk:∀ x∈X.E,BAt l x (X.B x)
  sl:Sls l K
  kin:∀ i,i<224→K i≠0→K i∈X.E
structure Ix (X:Fx) (K:Nat→Nat) (W:World):Prop where
  ex:∃ l,En X l K W∧Nc X.lb l
def IxR (X:Fx) (K:Nat→Nat) (r:Value) (w:World) (e:Ending) (w':World):Prop:=e = .returned r∧Ix X K w'∧Fr w.heap.size (blkM X.h) w w'
def hmX (X:Fx) (x:Nat):Nat:=hom (X.B x)
theorem sls_set {l:List Int} {K:Nat→Nat} (h:Sls l K) (hl:1136≤l.length) {p v:Nat} (hp:p<224) (hv:v<4294967296):Sls (stl l (240+p*4) 4 (v:Int)) (up K p v)∧Nc l (stl l (240+p*4) 4 (v:Int)):=by
  have hfit:fits (v:Int) ((4:Nat):Int)=true:=by simp[fits,isW];omega
  refine⟨fun i hi=>?_,stl_length _ _ _ _ (by omega) (by omega),fun t q=>Lis.st_get (by omega) (by omega) (by omega)⟩
  by_cases e:i=p
  · subst e
    rw[up_at]
    exact Mem.rd_same (by omega) (by decide) (by omega) hfit
  · rw[up_ne _ _ e,Mem.rd_other (by omega) (by omega) (by omega)]
    exact h i hi
section
variable {X:Fx} {l:List Int} {K K':Nat→Nat} {r r':Value} {w w1 w2 w' W W':World} {e e':Ending}
theorem En.below (d:En X l K w) (hb:Below w.heap.size w w'):En X l K w':=⟨d.st.below hb,d.lv,d.bk,d.sl,d.kin⟩
theorem Ix.below (d:Ix X K w) (hb:Below w.heap.size w w'):Ix X K w':=by
  obtain⟨l,h1,h2⟩:=d
  exact⟨l,h1.below hb,h2⟩
theorem Ix.drew (d:Ix X K w):Ix X K w.drew:=d.below (Below.refl _ _).drew
theorem Ix.lt (d:Ix X K w):∀ k,blkM X.h k→k<w.heap.size:=by
  obtain⟨l,h1,h2⟩:=d
  exact fun k hk=>h1.st.lo.m k hk
theorem Ix.lo (d:Ix X K w):Lo X.h w.heap.size:=by
  obtain⟨l,h1,h2⟩:=d
  exact h1.st.lo
theorem Ix.low (d:Ix X K w) {n:Nat} (hb:Below n w w') (hl:Lo X.h n):Ix X K w':=by
  obtain⟨l,h1,h2⟩:=d
  exact⟨l,⟨h1.st.stay hb hl,h1.lv,h1.bk,h1.sl,h1.kin⟩,h2⟩
theorem Ix.only(d:Ix X K w) (hb:Below w.heap.size w w') (r:Value):IxR X K r w (.returned r) w':=⟨rfl,d.below hb,Fr.of_below hb⟩
theorem IxR.then (h1:IxR X K r w e w1) (h2:IxR X K' r' w1 e' w2):IxR X K' r' w e' w2:=⟨h2.1,h2.2.1,h1.2.2.trans (h2.2.2.mono h1.2.2.size (fun _ _ hk=>hk))⟩
theorem IxR.ret (h1:IxR X K r w e w1) (r':Value):IxR X K r' w (.returned r') w1:=⟨rfl,h1.2.1,h1.2.2⟩
theorem Ix.facts (d:Ix X K w) {x:Nat} (hx:x∈X.E):128≤x∧x % 16=0∧x+32≤100000:=by
  obtain⟨l,h1,h2⟩:=d
  have:=lv_at h1.st (h1.lv x hx).lv
  omega
theorem Ix.ok (d:Ix X K w) {x:Nat} (hx:x∈X.E):(X.B x).Ok:=by
  obtain⟨l,h1,h2⟩:=d
  exact(h1.bk x hx).ok
theorem Ix.kin (d:Ix X K w) {i:Nat} (hi:i<224) (h:K i≠0):K i∈X.E:=by
  obtain⟨l,h1,h2⟩:=d
  exact h1.kin i hi h
theorem Ix.kbd (d:Ix X K w) {i:Nat} (hi:i<224):K i<100000:=by
  by_cases h:K i=0
  · omega
  · have:=d.facts (d.kin hi h)
    omega
theorem Ix.congr (d:Ix X K w) (h:∀ i,i<224→K' i=K i):Ix X K' w:=by
  obtain⟨l,h1,h2⟩:=d
  exact⟨l,⟨h1.st,h1.lv,h1.bk,fun i hi=>by rw[h i hi];exact h1.sl i hi,fun i hi=>by rw[h i hi];exact h1.kin i hi⟩,h2⟩
theorem Ix.held (d:Ix X K w) {i:Nat} (hi:i<224) :
    Calls Tryz.prog 128 #[pV X.h,.int .i64 ((240+i*4:Nat):Int),.int .i64 4,.int .i64 4] w (IxR X K (.int .u64 (K i:Int)) w):=by
  obtain⟨l,h1,h2⟩:=d
  have:=st_slot h1.st hi
  rw[h1.sl i hi] at this
  refine this.mono ?_
  rintro e w' ⟨rfl,hs,hf⟩
  exact⟨rfl,⟨l,⟨hs,h1.lv,h1.bk,h1.sl,h1.kin⟩,h2⟩,hf⟩
theorem En.apart (d:En X l K w) {x:Nat} (hx:x∈X.E):1136≤x:=by
  obtain⟨j,k,hj,hk,e,-⟩:=d.lv x hx
  have:=base7
  unfold pl aT at e
  omega
theorem Ix.put (d:Ix X K w) {i v:Nat} (hi:i<224) (hv:v=0∨v∈X.E) :
    Calls Tryz.prog 166 #[pV X.h,.int .i64 ((240+i*4:Nat):Int),.int .i64 4,.int .i64 4,.int .u64 (v:Int)] w (IxR X (up K i v) (.bool true) w):=by
  have hv2:v<4294967296:=by
    rcases hv with rfl | q
    · omega
    · have:=d.facts q
      omega
  obtain⟨l,h1,h2⟩:=d
  have hl:=st_len h1.st
  rw[show Lay.sizeT 7 224=8304 by decide] at hl
  obtain⟨k1,k2⟩:=sls_set h1.sl (by omega) hi hv2
  refine(st_setSlot h1.st hi hv2).mono ?_
  rintro e w' ⟨rfl,hs,hf⟩
  refine⟨rfl,⟨_,⟨hs,h1.lv,fun x hx=>(h1.bk x hx).same k2.len (fun t q1 q2=>k2.out t (by have:=h1.apart hx;omega)),k1,fun j hj=>?_⟩,h2.trans k2⟩,hf⟩
  by_cases q:j=i
  · subst q
    rw[up_at]
    exact fun q=>hv.resolve_left q
  · rw[up_ne _ _ q]
    exact h1.kin j hj
theorem Ix.fld (d:Ix X K w) {x:Nat} (hx:x∈X.E) {f:Nat} (hf:f=0∨f=3∨f=4∨f=8∨f=10) :
    Calls Tryz.prog 165 #[pV X.h,.int .i64 (x:Int),.int .i64 (f:Int)] w (IxR X K (.int .u64 (fldV (X.B x) f)) w):=by
  obtain⟨l,h1,h2⟩:=d
  refine(st_fld h1.st (h1.lv x hx).lv (h1.bk x hx) hf).mono ?_
  rintro e w' ⟨rfl,hs,hf⟩
  exact⟨rfl,⟨l,⟨hs,h1.lv,h1.bk,h1.sl,h1.kin⟩,h2⟩,hf⟩
theorem Ix.live (d:Ix X K w) {x n:Nat} (hx:x∈X.E) (h0:0<n) (hn:n≤32) :
    Calls Tryz.prog 35 #[pV X.h,.int .i64 (x:Int),.int .i64 (n:Int)] w fun e w'=>e = .returned (.int .i64 5)∧Below w.heap.size w w':=by
  have hb:=d.facts hx
  obtain⟨l,h1,h2⟩:=d
  have:=st_kind h1.st (x:Int) (n:Int) (by unfold is64;omega)
  rw[live_at h1.st (h1.lv x hx).lv h0 hn] at this
  exact this
theorem Ix.liveC (d:Ix X K w) {x n:Nat} (hx:x∈X.E) (h0:0<n) (hn:n≤(X.B x).sz) :
    Calls Tryz.prog 35 #[pV X.h,.int .i64 (x:Int),.int .i64 (n:Int)] w fun e w'=>e = .returned (.int .i64 5)∧Below w.heap.size w w':=by
  have hb:=d.facts hx
  obtain⟨l,h1,h2⟩:=d
  have:=st_kind h1.st (x:Int) (n:Int) (by unfold is64;omega)
  rw[live_atC h1.st (h1.lv x hx) h0 hn] at this
  exact this
theorem Ix.kind (d:Ix X K w) (a n:Int) (ha:is64 a) :
    Calls Tryz.prog 35 #[pV X.h,.int .i64 a,.int .i64 n] w fun e w'=>e = .returned (.int .i64 (Wat.kndA (kX 7 224 X.T) a n))∧Below w.heap.size w w':=by
  obtain⟨l,h1,h2⟩:=d
  exact st_kind h1.st a n ha
theorem Ix.config (d:Ix X K w):Calls Tryz.prog 147 #[pV X.h] w fun e w'=>e = .returned (.agg #[.int .i64 7,.int .i64 224])∧Below w.heap.size w w':=by
  obtain⟨l,h1,h2⟩:=d
  exact st_config h1.st
theorem Ix.slotAt (d:Ix X K w):Calls Tryz.prog 148 #[.agg #[.int .i64 7,.int .i64 224],.int .i64 0] w fun e w'=>e = .returned (.int .i64 240)∧Below w.heap.size w w':=by
  obtain⟨l,h1,h2⟩:=d
  obtain⟨H,L,d1,d2⟩:=h1.st
  exact Lay.slotAt_any 7 224 0 w d1.cls (by omega) (by omega) (by omega) (by omega) (by omega) (by omega)
theorem Ix.label (d:Ix X K w) {x:Nat} (hx:x∈X.E) (hn:(X.B x).node=true) :
    Calls Tryz.prog 62 #[pV X.h,.int .i64 ((x+16:Nat):Int),.int .i64 ((X.B x).lab.length:Int),.int .i64 5] w fun e w'=>∃ u,IxR X K u w e w'∧Arn.NewRow w.heap.size w' u (X.B x).lab:=by
  have hk:=(d.ok hx).lab.2
  obtain⟨l,h1,h2⟩:=d
  have e:=(h1.bk x hx).lab.resolve_right (by rw[hn];decide)
  have:=st_readAt h1.st (h1.lv x hx) (o:=16) (n:=(X.B x).lab.length) hk
  rw[e] at this
  refine this.mono ?_
  rintro e w' ⟨u,rfl,hs,hf,hr⟩
  exact⟨u,⟨rfl,⟨l,⟨hs,h1.lv,h1.bk,h1.sl,h1.kin⟩,h2⟩,hf⟩,hr⟩
theorem Ix.faults (d:Ix X K w) (hz:X.h.z=false):Calls Tryz.prog 17 #[pV X.h] w fun e w'=>e = .returned (.int .i64 0)∧Below w.heap.size w w':=by
  obtain⟨l,h1,h2⟩:=d
  exact h1.st.faults hz
end
end Go.Proofs.YtmgeiaglandedaaGreatDoor.Ind

namespace Go.Proofs.YtmgeiaglandedaaGreatDoor.Ind
open Go.RowKit Num
open Pro
open Mem (Mm MemC MRet Hm rd blkM)
open Sla (Sl St Lv pl aT pV Lo)
open Arn (wrL is64)
set_option linter.unusedVariables false
set_option maxRecDepth 100000
theorem wrap_id {n:Int} (h1 : -9223372036854775808≤n) (h2:n≤9223372036854775807):IntKind.i64.wrap n=n:=by simp[IntKind.wrap,IntKind.bits,IntKind.signed];omega
theorem wrap64_id {n:Int} (h0:0≤n) (h1:n<4294967296):wrap64 n=n:=IntWalk.wrap64_in _ (by omega)
abbrev tV (h:Hm):Value:=.agg #[pV h,.int .i64 240,.int .i64 224]
structure TB (X:Fx) (K:Nat→Nat) (w:World) (b:Nat) (W:World):Prop where
  m:Ix X K W
  bx:W.heap[b]? = some (.cells #[pV X.h,.int .i64 240,.int .i64 224] 110 (0,0))
  n:¬ blkM X.h b
  f:Fr w.heap.size (blkM X.h) w W
section
variable {X:Fx} {l:List Int} {K K':Nat→Nat} {r r':Value} {w w1 w2 w' W W':World} {e e':Ending} {b:Nat}
theorem TB.made (d:Ix X K w):TB X K w w.heap.size (w.alloc (.cells #[pV X.h,.int .i64 240,.int .i64 224] 110)) :=
  ⟨d.below (below_made _ _),heap_alloc_new _ _,fun q=>by have:=d.lt _ q;omega,Fr.of_below (below_made _ _)⟩
theorem TB.cells (d:TB X K w b W):W.cell? ⟨b,0,none⟩=some (.pointer (some ⟨X.h.g,0,none⟩))∧W.cell? ⟨b,1,none⟩=some (.int .i64 240)∧W.cell? ⟨b,2,none⟩=some (.int .i64 224) :=
  ⟨(cell_block d.bx 0).trans rfl,(cell_block d.bx 1).trans rfl,(cell_block d.bx 2).trans rfl⟩
theorem TB.step (d:TB X K w b W) (hr:IxR X K' r W e W'):TB X K' w b W' :=
  ⟨hr.2.1,(hr.2.2.block _ (Array.getElem?_eq_some_iff.1 d.bx).1 d.n).trans d.bx,d.n,d.f.trans (hr.2.2.mono d.f.size (fun _ _ q=>q))⟩
theorem TB.below (d:TB X K w b W) (hb:Below W.heap.size W W'):TB X K w b W':=d.step (d.m.only hb (.bool true))
theorem TB.drew (d:TB X K w b W):TB X K w b W.drew:=d.below (Below.refl _ _).drew
theorem TB.done (d:TB X K w b W) (r:Value):IxR X K r w (.returned r) W:=⟨rfl,d.m,d.f⟩
theorem place_any (d:Ix X K w) {i:Nat} (hi:i<224):Calls Tryz.prog 167 #[tV X.h,.int .i64 (i:Int)] w (IxR X K (.int .i64 ((240+i*4:Nat):Int)) w):=by
  have hd:=TB.made d
  obtain⟨c0,c1,c2⟩:=hd.cells
  have HE:=Lib.hid (hd.done (.int .i64 ((240+i*4:Nat):Int)))
  clear d hd
  try unfold tV at *
  unfold pV at *
  go_enter Tryz.func167,Tryz.ntmps167
  go_wp2
  go_ret
  have e1:wrap64 (240+wrap64 ((i:Int)*4))=((240+i*4:Nat):Int):=by
    rw[wrap64_id (n:=(i:Int)*4) (by omega) (by omega),wrap64_id (by omega) (by omega)]
    omega
  first | exact HE.out | (rw[e1];exact HE.out) | (simp only[e1];exact HE.out)
theorem held_any (d:Ix X K w) {i:Nat} (hi:i<224):Calls Tryz.prog 151 #[tV X.h,.int .i64 (i:Int)] w (IxR X K (.int .i64 (K i:Int)) w):=by
  have hd:=TB.made d
  have hk:=d.kbd hi
  obtain⟨c0,c1,c2⟩:=hd.cells
  have HP:=Lib.hid (fun W (hW:Ix X K W)=>place_any hW hi)
  have HL:=Lib.hid (fun W (hW:Ix X K W)=>hW.held hi)
  obtain⟨a,ha⟩:∃ a:Int,a=((240+i*4:Nat):Int):=⟨_,rfl⟩
  obtain⟨y,hy⟩:∃ y:Int,y=(K i:Int):=⟨_,rfl⟩
  rw[←ha] at HP HL
  rw[←hy] at HL ⊢
  have hy0:0≤y:=by omega
  have hy1:y<100000:=by omega
  have hyw:IntKind.i64.wrap y=y:=Ind.wrap_id (by omega) (by omega)
  have hyu:IntKind.u64.wrap y=y:=Hea.u64_id (by omega) (by omega)
  clear d ha hy hk
  try unfold tV at *
  unfold pV at *
  go_enter Tryz.func151,Tryz.ntmps151
  go_wp2_with fail
  go_region_held3 (fun w'=>w'.cell? ⟨w.heap.size,0,none⟩=some (.pointer (some ⟨X.h.g,0,none⟩))∧w'.cell? ⟨w.heap.size,1,none⟩=some (.int .i64 240)∧w'.cell? ⟨w.heap.size,2,none⟩=some (.int .i64 224)) (first | exact⟨c0,c1,c2⟩ | go_keep) ((first | (go_at_call 167;refine(HP.out _ (by first | exact hd.m | exact hd.m.drew)).mono ?_;rintro e w2 hq;obtain rfl:=hq.1;replace hd:=(by first | exact hd.step hq | exact hd.drew.step hq);clear hq c0 c1 c2;obtain⟨c0,c1,c2⟩:=hd.cells) | (go_at_call 128;refine(HL.out _ (by first | exact hd.m | exact hd.m.drew)).mono ?_;rintro e w2 hq;obtain rfl:=hq.1;replace hd:=(by first | exact hd.step hq | exact hd.drew.step hq);clear hq c0 c1 c2;obtain⟨c0,c1,c2⟩:=hd.cells)))
  all_goals
    have HE:=Lib.hid (hd.done (.int .i64 y))
    clear hd
    go_wp2
    go_ret
    exact HE.out
theorem set_any (d:Ix X K w) {i v:Nat} (hi:i<224) (hv:v=0∨v∈X.E):Calls Tryz.prog 85 #[tV X.h,.int .i64 (i:Int),.int .i64 (v:Int)] w (IxR X (up K i v) (.tuple #[]) w):=by
  have hd:=TB.made d
  have hv2:v<100000:=by
    rcases hv with rfl | q
    · omega
    · have:=d.facts q
      omega
  obtain⟨c0,c1,c2⟩:=hd.cells
  have HP:=Lib.hid (fun W (hW:Ix X K W)=>place_any hW hi)
  have HL:=Lib.hid (fun W (hW:Ix X K W)=>hW.put hi hv)
  obtain⟨a,ha⟩:∃ a:Int,a=((240+i*4:Nat):Int):=⟨_,rfl⟩
  obtain⟨y,hy⟩:∃ y:Int,y=(v:Int):=⟨_,rfl⟩
  rw[←ha] at HP HL
  rw[←hy] at HL ⊢
  have hy0:0≤y:=by omega
  have hy1:y<100000:=by omega
  have hyw:IntKind.i64.wrap y=y:=Ind.wrap_id (by omega) (by omega)
  have hyu:IntKind.u64.wrap y=y:=Hea.u64_id (by omega) (by omega)
  generalize up K i v=K2 at HL ⊢
  clear d ha hy hv hv2
  try unfold tV at *
  unfold pV at *
  go_enter Tryz.func85,Tryz.ntmps85
  go_wp2_with fail
  go_region_held3 (fun w'=>w'.cell? ⟨w.heap.size,0,none⟩=some (.pointer (some ⟨X.h.g,0,none⟩))∧w'.cell? ⟨w.heap.size,1,none⟩=some (.int .i64 240)∧w'.cell? ⟨w.heap.size,2,none⟩=some (.int .i64 224)) (first | exact⟨c0,c1,c2⟩ | go_keep) ((first | (go_at_call 167;refine(HP.out _ (by first | exact hd.m | exact hd.m.drew)).mono ?_;rintro e w2 hq;obtain rfl:=hq.1;replace hd:=(by first | exact hd.step hq | exact hd.drew.step hq);clear hq c0 c1 c2;obtain⟨c0,c1,c2⟩:=hd.cells) | (go_at_call 166;refine(HL.out _ (by first | exact hd.m | exact hd.m.drew)).mono ?_;rintro e w2 hq;obtain rfl:=hq.1;replace hd:=(by first | exact hd.step hq | exact hd.drew.step hq);clear hq c0 c1 c2;obtain⟨c0,c1,c2⟩:=hd.cells)))
  all_goals
    have HE:=Lib.hid (hd.done (.tuple #[]))
    clear hd
    go_wp2
    refine bodyPost_end (results_none rfl _ _ _) rfl ?_
    exact HE.out
theorem off_emod {a b:Nat} (ha:a<224) (hb:b<224):((b:Int)-a+224).tmod 224=(off 224 a b:Int):=by
  rw[Int.tmod_eq_emod_of_nonneg (by omega)]
  unfold off
  split<;>omega
theorem steps_any (d:Ix X K w) {p q:Nat} (hp:p<224) (hq:q<224):Calls Tryz.prog 157 #[tV X.h,.int .i64 (p:Int),.int .i64 (q:Int)] w (IxR X K (.int .i64 (off 224 p q:Int)) w):=by
  have hd:=TB.made d
  have he:=off_emod hp hq
  obtain⟨c0,c1,c2⟩:=hd.cells
  have HE:=Lib.hid (hd.done (.int .i64 (off 224 p q:Int)))
  have hw1:IntKind.i64.wrap ((q:Int)-p)=(q:Int)-p:=Ind.wrap_id (by omega) (by omega)
  have hw2:IntKind.i64.wrap ((q:Int)-p+224)=(q:Int)-p+224:=Ind.wrap_id (by omega) (by omega)
  generalize (off 224 p q:Int)=o at he HE ⊢
  clear d hd
  try unfold tV at *
  unfold pV at *
  go_enter Tryz.func157,Tryz.ntmps157
  go_wp2
  go_ret
  first | exact HE.out | (simp only[he];exact HE.out)
theorem nx_emod {a:Nat} (ha:a<224):((a:Int)+1).tmod 224=(nx 224 a:Int):=by
  rw[Int.tmod_eq_emod_of_nonneg (by omega)]
  unfold nx
  split<;>omega
theorem next_any (d:Ix X K w) {p:Nat} (hp:p<224):Calls Tryz.prog 152 #[tV X.h,.int .i64 (p:Int)] w (IxR X K (.int .i64 (nx 224 p:Int)) w):=by
  have hd:=TB.made d
  have he:=nx_emod hp
  obtain⟨c0,c1,c2⟩:=hd.cells
  have HE:=Lib.hid (hd.done (.int .i64 (nx 224 p:Int)))
  have hw1:IntKind.i64.wrap ((p:Int)+1)=(p:Int)+1:=Ind.wrap_id (by omega) (by omega)
  generalize (nx 224 p:Int)=o at he HE ⊢
  clear d hd
  try unfold tV at *
  unfold pV at *
  go_enter Tryz.func152,Tryz.ntmps152
  go_wp2
  go_ret
  first | exact HE.out | (simp only[he];exact HE.out)
theorem mhome_any (y:Nat) (w:World) (h2:y<4294967296) :
    Calls Tryz.prog 217 #[.int .u32 (y:Int),.int .i64 224] w fun e w'=>e = .returned (.int .i64 ((y % 224:Nat):Int))∧w=w':=by
  have e:Hid (((y % 224:Nat):Int)=(y:Int) % 224):=by unfold Hid;omega
  have p2:=Int.emod_nonneg (y:Int) (show (224:Int)≠0 by omega)
  have p3:=Int.emod_lt_of_pos (y:Int) (show (0:Int)<224 by omega)
  have h3:(y:Int)<4294967296:=by omega
  go_enter Tryz.func217,Tryz.ntmps217
  go_wp2
  go_ret
  exact⟨ret_int e.out.symm,rfl⟩
theorem home_any (d:Ix X K w) {y:Nat} (hy:y<4294967296):Calls Tryz.prog 134 #[tV X.h,.int .u32 (y:Int)] w (IxR X K (.int .i64 ((y % 224:Nat):Int)) w):=by
  have hd:=TB.made d
  obtain⟨c0,c1,c2⟩:=hd.cells
  have HM:=Lib.hid (fun W=>mhome_any y W hy)
  generalize ((y % 224:Nat):Int)=o at HM ⊢
  clear d
  try unfold tV at *
  unfold pV at *
  go_enter Tryz.func134,Tryz.ntmps134
  go_wp2_with fail
  refine(HM.out _).mono ?_
  rintro e w2 ⟨rfl,rfl⟩
  have HE:=Lib.hid (hd.done (.int .i64 o))
  clear hd
  go_wp2
  go_ret
  exact HE.out
theorem tmade_any (d:Ix X K w):Calls Tryz.prog 98 #[tV X.h] w (IxR X K (.bool true) w):=by
  have hd:=TB.made d
  obtain⟨c0,c1,c2⟩:=hd.cells
  clear d
  try unfold tV at *
  unfold pV at *
  go_enter Tryz.func98,Tryz.ntmps98
  have HE:=Lib.hid (hd.done (.bool true))
  clear hd
  go_wp2
  go_ret
  exact HE.out
end
end Go.Proofs.YtmgeiaglandedaaGreatDoor.Ind

namespace Go.Proofs.YtmgeiaglandedaaGreatDoor.Ind
open Go.RowKit Num
open Pro
open Mem (Mm MemC MRet Hm rd blkM)
open Sla (Sl St Lv pl aT pV Lo)
open Arn (wrL is64)
set_option linter.unusedVariables false
set_option maxRecDepth 100000
section
variable {X:Fx} {l:List Int} {K K':Nat→Nat} {r r':Value} {w w1 w2 w' W W':World} {e e':Ending} {b x:Nat}
theorem Ix.kindR (d:Ix X K w) (a n:Int) (ha:is64 a):Calls Tryz.prog 35 #[pV X.h,.int .i64 a,.int .i64 n] w (IxR X K (.int .i64 (Wat.kndA (Rin.kX 7 224 X.T) a n)) w) :=
  (d.kind a n ha).mono fun e w' q=>⟨q.1,d.below q.2,Fr.of_below q.2⟩
theorem Ix.liveR (d:Ix X K w) {n:Nat} (hx:x∈X.E) (h0:0<n) (hn:n≤32):Calls Tryz.prog 35 #[pV X.h,.int .i64 (x:Int),.int .i64 (n:Int)] w (IxR X K (.int .i64 5) w) :=
  (d.live hx h0 hn).mono fun e w' q=>⟨q.1,d.below q.2,Fr.of_below q.2⟩
theorem Ix.liveRC (d:Ix X K w) {n:Nat} (hx:x∈X.E) (h0:0<n) (hn:n≤(X.B x).sz):Calls Tryz.prog 35 #[pV X.h,.int .i64 (x:Int),.int .i64 (n:Int)] w (IxR X K (.int .i64 5) w) :=
  (d.liveC hx h0 hn).mono fun e w' q=>⟨q.1,d.below q.2,Fr.of_below q.2⟩
theorem TB.of {f:Nat} {a:Array Value} (d:TB X K w b W) {r:Value} (h:Ix X K W→Calls Tryz.prog f a W (IxR X K r W)):Calls Tryz.prog f a W fun e w'=>e = .returned r∧TB X K w b w' :=
  (h d.m).mono fun e w' q=>⟨q.1,d.step q⟩
theorem sz_tag (b:Bk):∃ z:Nat,Hea.szF b.tag=(z:Int)∧0<z∧z≤32:=by
  unfold Bk.tag
  cases b.node
  · exact⟨32,rfl,by omega,by omega⟩
  · exact⟨16,rfl,by omega,by omega⟩
theorem tag_is (b:Bk):b.tag=1∨b.tag=2:=by unfold Bk.tag;cases b.node<;>simp
theorem tag_any (d:Ix X K w) (hx:x∈X.E):Calls Tryz.prog 149 #[tV X.h,.int .i64 (x:Int)] w (IxR X K (.int .i64 (X.B x).tag) w):=by
  have hd:=TB.made d
  have hb:=d.facts hx
  have hz:((x:Int) == 0)=false:=by simp;omega
  have hm:(x:Int).tmod 16=0:=by
    rw[Int.tmod_eq_emod_of_nonneg (by omega)]
    omega
  obtain⟨z,hz1,hz2,hz3⟩:=sz_tag (X.B x)
  have hg:=tag_is (X.B x)
  have HT:=Lib.hid (fun W (hW:Ix X K W)=>hW.fld hx (f:=0) (.inl rfl))
  rw[show fldV (X.B x) 0=(X.B x).tag from rfl,show ((0:Nat):Int)=0 from rfl] at HT
  generalize (X.B x).tag=g at *
  have HK:=Lib.hid (fun W (hW:Ix X K W)=>hW.liveR hx (n:=16) (by omega) (by omega))
  rw[show ((16:Nat):Int)=16 from rfl] at HK
  have HZ:Hid (∀ kk:KM (fun V=>TB X K w w.heap.size V),Calls Tryz.prog 202 #[.int .i64 g] kk.w fun e w'=>e = .returned (.int .i64 (z:Int))∧TB X K w w.heap.size w'):=fun kk=>(Hea.size_any g kk.w).mono fun e w' q=>⟨by rw[←hz1];exact q.1,q.2 ▸ kk.ok⟩
  have HK2:Hid (∀ kk:KM (fun V=>TB X K w w.heap.size V),Calls Tryz.prog 35 #[pV X.h,.int .i64 (x:Int),.int .i64 (z:Int)] kk.w fun e w'=>e = .returned (.int .i64 5)∧TB X K w w.heap.size w'):=fun kk=>kk.ok.of (fun q=>q.liveR hx hz2 hz3)
  have k0:∀ kk:KM (fun V=>TB X K w w.heap.size V),kk.w.cell? ⟨w.heap.size,0,none⟩=some (.pointer (some ⟨X.h.g,0,none⟩)):=fun kk=>kk.ok.cells.1
  have k1:∀ kk:KM (fun V=>TB X K w w.heap.size V),kk.w.cell? ⟨w.heap.size,1,none⟩=some (.int .i64 240):=fun kk=>kk.ok.cells.2.1
  have k2:∀ kk:KM (fun V=>TB X K w w.heap.size V),kk.w.cell? ⟨w.heap.size,2,none⟩=some (.int .i64 224):=fun kk=>kk.ok.cells.2.2
  obtain⟨c0,c1,c2⟩:=hd.cells
  have hg0:0≤g:=by omega
  have hg2:g≤2:=by omega
  clear d hx hb hz1 hg
  try unfold tV at *
  unfold pV at *
  go_enter Tryz.func149,Tryz.ntmps149
  go_wp2_with fail
  refine(HK.out _ hd.m).mono ?_
  rintro e w2 hq
  obtain rfl:=hq.1
  replace hd:=hd.step hq
  clear hq c0 c1 c2
  obtain⟨c0,c1,c2⟩:=hd.cells
  go_wp2_with fail
  refine(HT.out _ hd.m).mono ?_
  rintro e w2 hq
  obtain rfl:=hq.1
  replace hd:=hd.step hq
  clear hq c0 c1 c2
  obtain⟨c0,c1,c2⟩:=hd.cells
  go_wp2_with fail
  refine wp_region_km (Φ := fun V=>TB X K w w.heap.size V) (by kernel_rfl) (by kernel_rfl) (hd.drew) ?_
  intro hne
  repeat (first | (go_big_quiet_step ((first | (go_at_call 202;exact Calls.km_of (HZ.out _)) | (go_at_call 35;exact Calls.km_of (HK2.out _))))) | (quiet_step (first | rfl | (first | (go_at_call 202;exact Calls.km_of (HZ.out _)) | (go_at_call 35;exact Calls.km_of (HK2.out _))))))
  refine wpQuiet_nil ?_
  intro _ hw'
  obtain⟨kk,rfl⟩:=hw'
  have HE:=Lib.hid (kk.ok.done (.int .i64 g))
  clear hd
  go_wp2
  go_ret
  exact HE.out
def NoB (X:Fx) (a:Int):Prop:=is64 a∧(a=0∨a.tmod 16≠0∨Wat.kndA (Rin.kX 7 224 X.T) a 16≠5)
theorem tag_none (d:Ix X K w) {a:Int} (ha:NoB X a):Calls Tryz.prog 149 #[tV X.h,.int .i64 a] w (IxR X K (.int .i64 0) w):=by
  have hd:=TB.made d
  have HK:=Lib.hid (fun W (hW:Ix X K W)=>hW.kindR a 16 ha.1)
  obtain⟨c0,c1,c2⟩:=hd.cells
  have HE:=Lib.hid (hd.done (.int .i64 0))
  by_cases h0:a=0
  · subst h0
    clear d ha hd HK
    try unfold tV at *
    unfold pV at *
    go_enter Tryz.func149,Tryz.ntmps149
    go_wp2
    go_ret
    exact HE.out
  have hz:(a == 0)=false:=by simpa using h0
  by_cases hm:a.tmod 16=0
  · have h5:=(ha.2.resolve_left h0).resolve_left (fun q=>q hm)
    generalize Wat.kndA (Rin.kX 7 224 X.T) a 16=k at *
    have hk:(k != 5)=true:=by simpa using h5
    clear d ha HE h5
    try unfold tV at *
    unfold pV at *
    go_enter Tryz.func149,Tryz.ntmps149
    go_wp2_with fail
    refine(HK.out _ hd.m).mono ?_
    rintro e w2 hq
    obtain rfl:=hq.1
    replace hd:=hd.step hq
    clear hq c0 c1 c2
    obtain⟨c0,c1,c2⟩:=hd.cells
    have HE:=Lib.hid (hd.done (.int .i64 0))
    clear hd
    go_wp2
    go_ret
    exact HE.out
  · have hm1:(a.tmod 16 != 0)=true:=by simpa using hm
    clear d ha hd HK
    try unfold tV at *
    unfold pV at *
    go_enter Tryz.func149,Tryz.ntmps149
    go_wp2
    go_ret
    exact HE.out
theorem hash_any (d:Ix X K w) (hx:x∈X.E):Calls Tryz.prog 84 #[tV X.h,.int .i64 (x:Int)] w (IxR X K (.int .u32 ((X.B x).hash:Int)) w):=by
  have hd:=TB.made d
  have hh:=(d.ok hx).hash
  have hg:=tag_is (X.B x)
  have HT:=Lib.hid (fun W (hW:Ix X K W)=>tag_any hW hx)
  have HL:=Lib.hid (fun W (hW:Ix X K W)=>hW.fld hx (f:=10) (by simp))
  rw[show fldV (X.B x) 10=((X.B x).hash:Int) from rfl,show ((10:Nat):Int)=10 from rfl] at HL
  generalize (X.B x).tag=g at *
  have hg0:(g == 0)=false:=by simp;omega
  obtain⟨y,hy⟩:∃ y:Int,y=((X.B x).hash:Int):=⟨_,rfl⟩
  rw[←hy] at HL ⊢
  have y0:0≤y:=by omega
  have y1:y<4294967296:=by omega
  obtain⟨c0,c1,c2⟩:=hd.cells
  clear d hx hg hh hy
  try unfold tV at *
  unfold pV at *
  go_enter Tryz.func84,Tryz.ntmps84
  go_wp2_with fail
  refine(HT.out _ hd.m).mono ?_
  rintro e w2 hq
  obtain rfl:=hq.1
  replace hd:=hd.step hq
  clear hq c0 c1 c2
  obtain⟨c0,c1,c2⟩:=hd.cells
  go_wp2_with fail
  refine(HL.out _ hd.m).mono ?_
  rintro e w2 hq
  obtain rfl:=hq.1
  replace hd:=hd.step hq
  clear hq c0 c1 c2
  obtain⟨c0,c1,c2⟩:=hd.cells
  have HE:=Lib.hid (hd.done (.int .u32 y))
  clear hd
  go_wp2
  go_ret
  exact HE.out
theorem hash_none (d:Ix X K w) {a:Int} (ha:NoB X a):Calls Tryz.prog 84 #[tV X.h,.int .i64 a] w (IxR X K (.int .u32 0) w):=by
  have hd:=TB.made d
  have HT:=Lib.hid (fun W (hW:Ix X K W)=>tag_none hW ha)
  obtain⟨c0,c1,c2⟩:=hd.cells
  clear d ha
  try unfold tV at *
  unfold pV at *
  go_enter Tryz.func84,Tryz.ntmps84
  go_wp2_with fail
  refine(HT.out _ hd.m).mono ?_
  rintro e w2 hq
  obtain rfl:=hq.1
  replace hd:=hd.step hq
  clear hq c0 c1 c2
  obtain⟨c0,c1,c2⟩:=hd.cells
  have HE:=Lib.hid (hd.done (.int .u32 0))
  clear hd
  go_wp2
  go_ret
  exact HE.out
theorem check_any (d:Ix X K w) (hx:x∈X.E):Calls Tryz.prog 67 #[tV X.h,.int .i64 (x:Int)] w (IxR X K (.int .i64 0) w):=by
  have hd:=TB.made d
  have hg:=tag_is (X.B x)
  have HM:=Lib.hid (fun W (hW:Ix X K W)=>tmade_any hW)
  have HT:=Lib.hid (fun W (hW:Ix X K W)=>tag_any hW hx)
  generalize (X.B x).tag=g at *
  have hg0:(g == 0)=false:=by simp;omega
  obtain⟨c0,c1,c2⟩:=hd.cells
  clear d hx hg
  try unfold tV at *
  unfold pV at *
  go_enter Tryz.func67,Tryz.ntmps67
  go_wp2_with fail
  refine(HM.out _ hd.m).mono ?_
  rintro e w2 hq
  obtain rfl:=hq.1
  replace hd:=hd.step hq
  clear hq c0 c1 c2
  obtain⟨c0,c1,c2⟩:=hd.cells
  go_wp2_with fail
  refine(HT.out _ hd.m).mono ?_
  rintro e w2 hq
  obtain rfl:=hq.1
  replace hd:=hd.step hq
  clear hq c0 c1 c2
  obtain⟨c0,c1,c2⟩:=hd.cells
  have HE:=Lib.hid (hd.done (.int .i64 0))
  clear hd
  go_wp2
  go_ret
  exact HE.out
theorem check_none (d:Ix X K w) {a:Int} (ha:NoB X a):Calls Tryz.prog 67 #[tV X.h,.int .i64 a] w (IxR X K (.int .i64 30) w):=by
  have hd:=TB.made d
  have HM:=Lib.hid (fun W (hW:Ix X K W)=>tmade_any hW)
  have HT:=Lib.hid (fun W (hW:Ix X K W)=>tag_none hW ha)
  obtain⟨c0,c1,c2⟩:=hd.cells
  clear d ha
  try unfold tV at *
  unfold pV at *
  go_enter Tryz.func67,Tryz.ntmps67
  go_wp2_with fail
  refine(HM.out _ hd.m).mono ?_
  rintro e w2 hq
  obtain rfl:=hq.1
  replace hd:=hd.step hq
  clear hq c0 c1 c2
  obtain⟨c0,c1,c2⟩:=hd.cells
  go_wp2_with fail
  refine(HT.out _ hd.m).mono ?_
  rintro e w2 hq
  obtain rfl:=hq.1
  replace hd:=hd.step hq
  clear hq c0 c1 c2
  obtain⟨c0,c1,c2⟩:=hd.cells
  have HE:=Lib.hid (hd.done (.int .i64 30))
  clear hd
  go_wp2
  go_ret
  exact HE.out
theorem far_any (d:Ix X K w) {i:Nat} (hi:i<224) (hk:K i≠0):Calls Tryz.prog 146 #[tV X.h,.int .i64 (i:Int)] w (IxR X K (.int .i64 (off 224 (hmX X (K i)) i:Int)) w):=by
  have hd:=TB.made d
  have hx:=d.kin hi hk
  have hh:=(d.ok hx).hash
  have HH:Hid (∀ kk:KM (fun V=>TB X K w w.heap.size V),Calls Tryz.prog 151 #[tV X.h,.int .i64 (i:Int)] kk.w fun e w'=>e = .returned (.int .i64 (K i:Int))∧TB X K w w.heap.size w'):=fun kk=>kk.ok.of (fun q=>held_any q hi)
  have HA:Hid (∀ kk:KM (fun V=>TB X K w w.heap.size V),Calls Tryz.prog 84 #[tV X.h,.int .i64 (K i:Int)] kk.w fun e w'=>e = .returned (.int .u32 ((X.B (K i)).hash:Int))∧TB X K w w.heap.size w'):=fun kk=>kk.ok.of (fun q=>hash_any q hx)
  have HO:Hid (∀ kk:KM (fun V=>TB X K w w.heap.size V),Calls Tryz.prog 134 #[tV X.h,.int .u32 ((X.B (K i)).hash:Int)] kk.w fun e w'=>e = .returned (.int .i64 (((X.B (K i)).hash % 224:Nat):Int))∧TB X K w w.heap.size w'):=fun kk=>kk.ok.of (fun q=>home_any q hh)
  have HS:Hid (∀ kk:KM (fun V=>TB X K w w.heap.size V),Calls Tryz.prog 157 #[tV X.h,.int .i64 (((X.B (K i)).hash % 224:Nat):Int),.int .i64 (i:Int)] kk.w fun e w'=>e = .returned (.int .i64 (off 224 (hmX X (K i)) i:Int))∧TB X K w w.heap.size w'):=fun kk=>kk.ok.of (fun q=>steps_any q (Nat.mod_lt _ (by omega)) hi)
  generalize (off 224 (hmX X (K i)) i:Int)=o at *
  generalize (((X.B (K i)).hash % 224:Nat):Int)=g at *
  generalize ((X.B (K i)).hash:Int)=y at *
  generalize (K i:Int)=k at *
  have k0:∀ kk:KM (fun V=>TB X K w w.heap.size V),kk.w.cell? ⟨w.heap.size,0,none⟩=some (.pointer (some ⟨X.h.g,0,none⟩)):=fun kk=>kk.ok.cells.1
  have k1:∀ kk:KM (fun V=>TB X K w w.heap.size V),kk.w.cell? ⟨w.heap.size,1,none⟩=some (.int .i64 240):=fun kk=>kk.ok.cells.2.1
  have k2:∀ kk:KM (fun V=>TB X K w w.heap.size V),kk.w.cell? ⟨w.heap.size,2,none⟩=some (.int .i64 224):=fun kk=>kk.ok.cells.2.2
  obtain⟨c0,c1,c2⟩:=hd.cells
  clear d hx hh hk
  try unfold tV at *
  unfold pV at *
  go_enter Tryz.func146,Tryz.ntmps146
  go_wp2_with fail
  refine wp_region_km (Φ := fun V=>TB X K w w.heap.size V) (by kernel_rfl) (by kernel_rfl) (hd.drew) ?_
  intro hne
  repeat (first | (go_big_quiet_step ((first | (go_at_call 151;exact Calls.km_of (HH.out _)) | (go_at_call 84;exact Calls.km_of (HA.out _)) | (go_at_call 134;exact Calls.km_of (HO.out _)) | (go_at_call 157;exact Calls.km_of (HS.out _))))) | (quiet_step (first | rfl | (first | (go_at_call 151;exact Calls.km_of (HH.out _)) | (go_at_call 84;exact Calls.km_of (HA.out _)) | (go_at_call 134;exact Calls.km_of (HO.out _)) | (go_at_call 157;exact Calls.km_of (HS.out _))))))
  refine wpQuiet_nil ?_
  intro _ hw'
  obtain⟨kk,rfl⟩:=hw'
  have HE:=Lib.hid (kk.ok.done (.int .i64 o))
  clear hd
  go_wp2
  go_ret
  exact HE.out
theorem empty_any (d:Ix X K w) {i:Nat} (hi:i<224):Calls Tryz.prog 75 #[tV X.h,.int .i64 (i:Int)] w (IxR X K (.bool (decide (K i=0))) w):=by
  have hd:=TB.made d
  have HH:=Lib.hid (fun W (hW:Ix X K W)=>held_any hW hi)
  have hq:((K i:Int) == 0)=decide (K i=0):=by rw[Bool.eq_iff_iff];simp
  generalize decide (K i=0)=o at *
  generalize (K i:Int)=k at *
  obtain⟨c0,c1,c2⟩:=hd.cells
  clear d
  try unfold tV at *
  unfold pV at *
  go_enter Tryz.func75,Tryz.ntmps75
  go_wp2_with fail
  refine(HH.out _ hd.m).mono ?_
  rintro e w2 hq
  obtain rfl:=hq.1
  replace hd:=hd.step hq
  clear hq c0 c1 c2
  obtain⟨c0,c1,c2⟩:=hd.cells
  have HE:=Lib.hid (hd.done (.bool o))
  clear hd
  go_wp2
  go_ret
  first | exact HE.out | (rw[hq];exact HE.out) | (simp only[hq];exact HE.out)
theorem stays_any (d:Ix X K w) {i:Nat} (hi:i<224):Calls Tryz.prog 153 #[tV X.h,.int .i64 (i:Int)] w (IxR X K (.bool (stb 224 (hmX X) K i)) w):=by
  have hd:=TB.made d
  have HM:=Lib.hid (fun W (hW:Ix X K W)=>empty_any hW hi)
  obtain⟨c0,c1,c2⟩:=hd.cells
  by_cases hz:K i=0
  · have e1:decide (K i=0)=true:=by simpa using hz
    have e2:stb 224 (hmX X) K i=true:=by unfold stb;rw[e1];rfl
    rw[e2]
    rw[e1] at HM
    clear d hz e1 e2
    try unfold tV at *
    unfold pV at *
    go_enter Tryz.func153,Tryz.ntmps153
    go_wp2_with fail
    refine(HM.out _ hd.m).mono ?_
    rintro e w2 hq
    obtain rfl:=hq.1
    replace hd:=hd.step hq
    clear hq c0 c1 c2
    obtain⟨c0,c1,c2⟩:=hd.cells
    have HE:=Lib.hid (hd.done (.bool true))
    clear hd
    go_wp2
    go_ret
    exact HE.out
  · have e1:decide (K i=0)=false:=by simpa using hz
    have HF:=Lib.hid (fun W (hW:Ix X K W)=>far_any hW hi hz)
    have e2:stb 224 (hmX X) K i=(((off 224 (hmX X (K i)) i:Nat):Int) == 0):=by
      unfold stb
      rw[e1,Bool.eq_iff_iff]
      simp
    rw[e2]
    rw[e1] at HM
    generalize ((off 224 (hmX X (K i)) i:Nat):Int)=o at *
    clear d hz e1 e2
    try unfold tV at *
    unfold pV at *
    go_enter Tryz.func153,Tryz.ntmps153
    go_wp2_with fail
    refine(HM.out _ hd.m).mono ?_
    rintro e w2 hq
    obtain rfl:=hq.1
    replace hd:=hd.step hq
    clear hq c0 c1 c2
    obtain⟨c0,c1,c2⟩:=hd.cells
    go_wp2_with fail
    refine(HF.out _ hd.m).mono ?_
    rintro e w2 hq
    obtain rfl:=hq.1
    replace hd:=hd.step hq
    clear hq c0 c1 c2
    obtain⟨c0,c1,c2⟩:=hd.cells
    have HE:=Lib.hid (hd.done (.bool (o == 0)))
    clear hd
    go_wp2
    go_ret
    exact HE.out
end
end Go.Proofs.YtmgeiaglandedaaGreatDoor.Ind

namespace Go.Proofs.YtmgeiaglandedaaGreatDoor.Ind
open Go.RowKit Num
open Pro
open Mem (Mm MemC MRet Hm rd blkM)
open Sla (Sl St Lv pl aT pV Lo)
open Arn (wrL is64)
set_option linter.unusedVariables false
set_option maxRecDepth 100000
abbrev sV (h:Hm) (a:Nat) (fv:Value):Value:=.agg #[pV h,.int .i64 240,.int .i64 224,.int .i64 (a:Int),fv]
structure SB (X:Fx) (K:Nat→Nat) (w:World) (a:Nat) (fv:Value) (Gd:World→Prop) (b:Nat) (W:World):Prop where
  m:Ix X K W
  g:Gd W
  bx:W.heap[b]? = some (.cells #[pV X.h,.int .i64 240,.int .i64 224,.int .i64 (a:Int),fv] 115 (0,0))
  n:¬ blkM X.h b
  f:Fr w.heap.size (blkM X.h) w W
  k:∀ W W',Gd W→Fr W.heap.size (blkM X.h) W W'→Gd W'
structure IsC (X:Fx) (F:Nat) (cp:Array Value) (P:Nat→Bool) (Gd:World→Prop):Prop where
  ent:∀ args w,(callFunc F args).run Tryz.prog w = .ok (.enter F args) w
  keep:∀ W W',Gd W→Fr W.heap.size (blkM X.h) W W'→Gd W'
  call:∀ K W x,x∈X.E→Ix X K W→Gd W→Calls Tryz.prog F (#[.int .i64 (x:Int)]++cp) W (IxR X K (.bool (P x)) W)
section
variable {X:Fx} {l:List Int} {K K':Nat→Nat} {r r':Value} {w w1 w2 w' W W':World} {e e':Ending} {b x a:Nat} {fv:Value} {Gd:World→Prop} {F:Nat} {cp:Array Value} {P:Nat→Bool}
theorem SB.made (d:Ix X K w) (g:Gd w) (k:∀ W W',Gd W→Fr W.heap.size (blkM X.h) W W'→Gd W') (a:Nat) (fv:Value):SB X K w a fv Gd w.heap.size (w.alloc (.cells #[pV X.h,.int .i64 240,.int .i64 224,.int .i64 (a:Int),fv] 115)) :=
  ⟨d.below (below_made _ _),k _ _ g (Fr.of_below (below_made _ _)),heap_alloc_new _ _,fun q=>by have:=d.lt _ q;omega,Fr.of_below (below_made _ _),k⟩
theorem SB.cells (d:SB X K w a fv Gd b W):W.cell? ⟨b,0,none⟩=some (.pointer (some ⟨X.h.g,0,none⟩))∧W.cell? ⟨b,1,none⟩=some (.int .i64 240)∧W.cell? ⟨b,2,none⟩=some (.int .i64 224)∧W.cell? ⟨b,3,none⟩=some (.int .i64 (a:Int))∧W.cell? ⟨b,4,none⟩=some fv :=
  ⟨(cell_block d.bx 0).trans rfl,(cell_block d.bx 1).trans rfl,(cell_block d.bx 2).trans rfl,(cell_block d.bx 3).trans rfl,(cell_block d.bx 4).trans rfl⟩
theorem SB.step (d:SB X K w a fv Gd b W) (hr:IxR X K' r W e W'):SB X K' w a fv Gd b W' :=
  ⟨hr.2.1,d.k _ _ d.g hr.2.2,(hr.2.2.block _ (Array.getElem?_eq_some_iff.1 d.bx).1 d.n).trans d.bx,d.n,d.f.trans (hr.2.2.mono d.f.size (fun _ _ q=>q)),d.k⟩
theorem SB.below (d:SB X K w a fv Gd b W) (hb:Below W.heap.size W W'):SB X K w a fv Gd b W':=d.step (d.m.only hb (.bool true))
theorem SB.drew (d:SB X K w a fv Gd b W):SB X K w a fv Gd b W.drew:=d.below (Below.refl _ _).drew
theorem SB.done (d:SB X K w a fv Gd b W) (r:Value):IxR X K r w (.returned r) W:=⟨rfl,d.m,d.f⟩
theorem SB.of {f:Nat} {u:Array Value} (d:SB X K w a fv Gd b W) {r:Value} (h:Ix X K W→Gd W→Calls Tryz.prog f u W (IxR X K r W)):Calls Tryz.prog f u W fun e w'=>e = .returned r∧SB X K w a fv Gd b w' :=
  (h d.m d.g).mono fun e w' q=>⟨q.1,d.step q⟩
theorem open_any (d:Ix X K w) (g:Gd w) (k:∀ W W',Gd W→Fr W.heap.size (blkM X.h) W W'→Gd W') {i:Nat} (hi:i<224) (ha:a<224) (fv:Value):Calls Tryz.prog 76 #[sV X.h a fv,.int .i64 (i:Int)] w (IxR X K (.bool (opb 224 (hmX X) K a i)) w):=by
  have hd:=SB.made d g k a fv
  have HM:Hid (∀ kk:KM (fun V=>SB X K w a fv Gd w.heap.size V),Calls Tryz.prog 75 #[tV X.h,.int .i64 (i:Int)] kk.w fun e w'=>e = .returned (.bool (decide (K i=0)))∧SB X K w a fv Gd w.heap.size w'):=fun kk=>kk.ok.of (fun q _=>empty_any q hi)
  have k0:∀ kk:KM (fun V=>SB X K w a fv Gd w.heap.size V),kk.w.cell? ⟨w.heap.size,0,none⟩=some (.pointer (some ⟨X.h.g,0,none⟩)):=fun kk=>kk.ok.cells.1
  have k1:∀ kk:KM (fun V=>SB X K w a fv Gd w.heap.size V),kk.w.cell? ⟨w.heap.size,1,none⟩=some (.int .i64 240):=fun kk=>kk.ok.cells.2.1
  have k2:∀ kk:KM (fun V=>SB X K w a fv Gd w.heap.size V),kk.w.cell? ⟨w.heap.size,2,none⟩=some (.int .i64 224):=fun kk=>kk.ok.cells.2.2.1
  have k3:∀ kk:KM (fun V=>SB X K w a fv Gd w.heap.size V),kk.w.cell? ⟨w.heap.size,3,none⟩=some (.int .i64 (a:Int)):=fun kk=>kk.ok.cells.2.2.2.1
  have k4:∀ kk:KM (fun V=>SB X K w a fv Gd w.heap.size V),kk.w.cell? ⟨w.heap.size,4,none⟩=some (fv):=fun kk=>kk.ok.cells.2.2.2.2
  by_cases hz:K i=0
  · have e1:decide (K i=0)=true:=by simpa using hz
    have e2:opb 224 (hmX X) K a i=true:=by unfold opb;rw[e1];rfl
    rw[e2]
    rw[e1] at HM
    clear d g k hz e1 e2
    try unfold tV at *
    unfold pV at *
    go_enter Tryz.func76,Tryz.ntmps76
    go_wp2_with fail
    refine wp_region_km (Φ := fun V=>SB X K w a fv Gd w.heap.size V) (by kernel_rfl) (by kernel_rfl) (hd.drew) ?_
    intro hne
    repeat (first | (go_big_quiet_step ((go_at_call 75;exact Calls.km_of (HM.out _)))) | (quiet_step (first | rfl | (go_at_call 75;exact Calls.km_of (HM.out _)))))
    refine wpQuiet_nil ?_
    intro _ hw'
    obtain⟨kk,rfl⟩:=hw'
    have HE:=Lib.hid (kk.ok.done (.bool true))
    clear hd
    go_wp2
    go_ret
    exact HE.out
  · have e1:decide (K i=0)=false:=by simpa using hz
    have HF:Hid (∀ kk:KM (fun V=>SB X K w a fv Gd w.heap.size V),Calls Tryz.prog 146 #[tV X.h,.int .i64 (i:Int)] kk.w fun e w'=>e = .returned (.int .i64 (off 224 (hmX X (K i)) i:Int))∧SB X K w a fv Gd w.heap.size w'):=fun kk=>kk.ok.of (fun q _=>far_any q hi hz)
    have HS:Hid (∀ kk:KM (fun V=>SB X K w a fv Gd w.heap.size V),Calls Tryz.prog 157 #[tV X.h,.int .i64 (a:Int),.int .i64 (i:Int)] kk.w fun e w'=>e = .returned (.int .i64 (off 224 a i:Int))∧SB X K w a fv Gd w.heap.size w'):=fun kk=>kk.ok.of (fun q _=>steps_any q ha hi)
    have e2:opb 224 (hmX X) K a i=decide ((off 224 (hmX X (K i)) i:Int)<(off 224 a i:Int)):=by
      unfold opb
      rw[e1,Bool.eq_iff_iff]
      simp
    rw[e2]
    rw[e1] at HM
    generalize (off 224 (hmX X (K i)) i:Int)=o1 at *
    generalize (off 224 a i:Int)=o2 at *
    clear d g k hz e1 e2
    try unfold tV at *
    unfold pV at *
    go_enter Tryz.func76,Tryz.ntmps76
    go_wp2_with fail
    refine wp_region_km (Φ := fun V=>SB X K w a fv Gd w.heap.size V) (by kernel_rfl) (by kernel_rfl) (hd.drew) ?_
    intro hne
    repeat (first | (go_big_quiet_step ((first | (go_at_call 75;exact Calls.km_of (HM.out _)) | (go_at_call 146;exact Calls.km_of (HF.out _)) | (go_at_call 157;exact Calls.km_of (HS.out _))))) | (quiet_step (first | rfl | (first | (go_at_call 75;exact Calls.km_of (HM.out _)) | (go_at_call 146;exact Calls.km_of (HF.out _)) | (go_at_call 157;exact Calls.km_of (HS.out _))))))
    refine wpQuiet_nil ?_
    intro _ hw'
    obtain⟨kk,rfl⟩:=hw'
    have HE:=Lib.hid (kk.ok.done (.bool (decide (o1<o2))))
    clear hd
    go_wp2
    go_ret
    exact HE.out
theorem holds_any (C:IsC X F cp P Gd) (d:Ix X K w) (g:Gd w) {i:Nat} (hi:i<224):Calls Tryz.prog 70 #[sV X.h a (.func (.func F) #[] cp),.int .i64 (i:Int)] w (IxR X K (.bool (hit K P i)) w):=by
  have hd:=SB.made d g C.keep a (.func (.func F) #[] cp)
  have HH:=Lib.hid (fun W (hW:Ix X K W)=>held_any hW hi)
  have hent:=C.ent
  obtain⟨c0,c1,c2,c3,c4⟩:=hd.cells
  by_cases hz:K i=0
  · have e2:hit K P i=false:=by unfold hit;simp[hz]
    rw[e2]
    rw[hz,show ((0:Nat):Int)=0 from rfl] at HH
    clear d g C hz e2
    try unfold tV at *
    unfold pV at *
    go_enter Tryz.func70,Tryz.ntmps70
    go_wp2_with fail
    refine(HH.out _ hd.m).mono ?_
    rintro e w2 hq
    obtain rfl:=hq.1
    replace hd:=hd.step hq
    clear hq c0 c1 c2 c3 c4
    obtain⟨c0,c1,c2,c3,c4⟩:=hd.cells
    have HE:=Lib.hid (hd.done (.bool false))
    clear hd
    go_wp2
    go_ret
    exact HE.out
  · have hx:=d.kin hi hz
    have HP:=Lib.hid (fun W (hW:Ix X K W) (g:Gd W)=>C.call K W (K i) hx hW g)
    have e2:hit K P i=P (K i):=by unfold hit;simp[hz]
    have hq:((K i:Int) != 0)=true:=by simp;exact hz
    rw[e2]
    generalize P (K i)=o at *
    generalize (K i:Int)=y at *
    clear d g C hz e2 hx
    try unfold tV at *
    unfold pV at *
    go_enter Tryz.func70,Tryz.ntmps70
    go_wp2_with fail
    refine(HH.out _ hd.m).mono ?_
    rintro e w2 hq
    obtain rfl:=hq.1
    replace hd:=hd.step hq
    clear hq c0 c1 c2 c3 c4
    obtain⟨c0,c1,c2,c3,c4⟩:=hd.cells
    go_wp2_with fail
    refine(HP.out _ hd.m hd.g).mono ?_
    rintro e w2 hq
    obtain rfl:=hq.1
    replace hd:=hd.step hq
    clear hq c0 c1 c2 c3 c4
    obtain⟨c0,c1,c2,c3,c4⟩:=hd.cells
    have HE:=Lib.hid (hd.done (.bool o))
    clear hd
    go_wp2
    go_ret
    exact HE.out
theorem ends_any (C:IsC X F cp P Gd) (d:Ix X K w) (g:Gd w) {i:Nat} (hi:i<224) (ha:a<224):Calls Tryz.prog 164 #[sV X.h a (.func (.func F) #[] cp),.int .i64 (i:Int)] w (IxR X K (.bool (hit K P i || opb 224 (hmX X) K a i)) w):=by
  have hd:=SB.made d g C.keep a (.func (.func F) #[] cp)
  have HH:=Lib.hid (fun W (hW:Ix X K W) (g:Gd W)=>holds_any C hW g (a:=a) hi)
  have HO:=Lib.hid (fun W (hW:Ix X K W) (g:Gd W)=>open_any hW g C.keep (a:=a) hi ha (.func (.func F) #[] cp))
  obtain⟨c0,c1,c2,c3,c4⟩:=hd.cells
  generalize hit K P i=o1 at *
  generalize opb 224 (hmX X) K a i=o2 at *
  clear d g C
  unfold sV at *
  cases o1 with
  | true =>
    try unfold tV at *
    unfold pV at *
    go_enter Tryz.func164,Tryz.ntmps164
    go_wp2_with fail
    refine(HH.out _ hd.m hd.g).mono ?_
    rintro e w2 hq
    obtain rfl:=hq.1
    replace hd:=hd.step hq
    clear hq c0 c1 c2 c3 c4
    obtain⟨c0,c1,c2,c3,c4⟩:=hd.cells
    have HE:=Lib.hid (hd.done (.bool true))
    clear hd
    go_wp2
    go_ret
    exact HE.out
  | false =>
    try unfold tV at *
    unfold pV at *
    go_enter Tryz.func164,Tryz.ntmps164
    go_wp2_with fail
    refine(HH.out _ hd.m hd.g).mono ?_
    rintro e w2 hq
    obtain rfl:=hq.1
    replace hd:=hd.step hq
    clear hq c0 c1 c2 c3 c4
    obtain⟨c0,c1,c2,c3,c4⟩:=hd.cells
    go_wp2_with fail
    refine(HO.out _ hd.m hd.g).mono ?_
    rintro e w2 hq
    obtain rfl:=hq.1
    replace hd:=hd.step hq
    clear hq c0 c1 c2 c3 c4
    obtain⟨c0,c1,c2,c3,c4⟩:=hd.cells
    have HE:=Lib.hid (hd.done (.bool o2))
    clear hd
    go_wp2
    go_ret
    exact HE.out
theorem ps_tmod {p k:Nat} (hp:p<224) (hk:k≤224):((p:Int)+(k:Int)).tmod 224=(ps 224 p k:Int):=by
  rw[Int.tmod_eq_emod_of_nonneg (by omega)]
  unfold ps
  split<;>omega
def sfR (T:Nat→Bool) (p:Nat):Nat×Bool:=if sk (fun s=>T (ps 224 p s)) 224<224 then (ps 224 p (sk (fun s=>T (ps 224 p s)) 224),true) else (0,false)
structure TG (X:Fx) (K:Nat→Nat) (w:World) (Gd:World→Prop) (b:Nat) (W:World):Prop where
  t:TB X K w b W
  g:Gd W
  k:∀ W W',Gd W→Fr W.heap.size (blkM X.h) W W'→Gd W'
theorem TG.cells (d:TG X K w Gd b W):W.cell? ⟨b,0,none⟩=some (.pointer (some ⟨X.h.g,0,none⟩))∧W.cell? ⟨b,1,none⟩=some (.int .i64 240)∧W.cell? ⟨b,2,none⟩=some (.int .i64 224):=d.t.cells
theorem TG.m (d:TG X K w Gd b W):Ix X K W:=d.t.m
theorem TG.step (d:TG X K w Gd b W) (hr:IxR X K' r W e W'):TG X K' w Gd b W':=⟨d.t.step hr,d.k _ _ d.g hr.2.2,d.k⟩
def intOf:Value→Int | .int _ q=>q | _=>0
set_option maxRecDepth 100000 in
theorem seek_any (G:Nat) (rc:Value) (T:Nat→Bool) (hen:∀ args w,(callFunc G args).run Tryz.prog w = .ok (.enter G args) w) (hk:∀ W W',Gd W→Fr W.heap.size (blkM X.h) W W'→Gd W')
    (hc:∀ (i:Nat) W,i<224→Ix X K W→Gd W→Calls Tryz.prog G #[rc,.int .i64 (i:Int)] W (IxR X K (.bool (T i)) W)) (d:Ix X K w) (g:Gd w) {p:Nat} (hp:p<224) :
    Calls Tryz.prog 69 #[tV X.h,.int .i64 (p:Int),.func (.func G) #[rc] #[]] w (IxR X K (.tuple #[.int .i64 ((sfR T p).1:Int),.bool (sfR T p).2]) w):=by
  have hd0:TG X K w Gd w.heap.size (w.alloc (.cells #[pV X.h,.int .i64 240,.int .i64 224] 110)):=⟨TB.made d,hk _ _ g (Fr.of_below (below_made _ _)),hk⟩
  have HT:=Lib.hid hc
  have HSk0:=Lib.hid (fun j=>@sk_eq (fun s=>T (ps 224 p s)) 224 j)
  obtain⟨R,hR⟩:∃ R,R=sfR T p:=⟨_,rfl⟩
  obtain⟨N,hN⟩:∃ N,N=sk (fun s=>T (ps 224 p s)) 224:=⟨_,rfl⟩
  have HR:Hid (R=if N<224 then (ps 224 p N,true) else (0,false)):=by
    unfold Hid
    rw[hR,hN]
    rfl
  rw[←hR]
  rw[←hN] at HSk0
  have HD0:=Lib.hid hd0
  clear d g hk hc hR hN hd0
  unfold tV pV at *
  go_enter Tryz.func69,Tryz.ntmps69
  go_wp2
  refine wp_scope_jumps 0 (fun a' w'=>∃ (k:Nat) (u4 u5 u9 u10 u11 u12 u13 u14 u15 u16 u17 u18 u19 u20 u21 u22 u23 u24 u25:Value),a' = { tmps := #[.agg #[.pointer (some ⟨X.h.g,0,none⟩),.int .i64 240,.int .i64 224],.int .i64 (p:Int),.func (.func G) #[rc] #[],.pointer (some ⟨w.heap.size,0,none⟩),u4,u5,.int .i64 0,.bool false,.int .i64 (k:Int),u9,u10,u11,u12,u13,u14,u15,u16,u17,u18,u19,u20,u21,u22,u23,u24,u25],defers := [] } ∧ k≤224∧Hid (∀ j,j<k→T (ps 224 p j)=false)∧Hid (TG X K w Gd w.heap.size w')) (fun a' _=>224-(intOf (a'.tmps.getD 8 undef)).toNat) rfl ?_ ?_
  · have hd:=HD0.out
    have HT0:=Lib.hid (fun W (hW:Ix X K W) (g:Gd W)=>HT.out p W hp hW g)
    have HP0:Hid (ps 224 p 0=p):=ps_zero hp
    have HSk:=Lib.hid (HSk0.out 0 (by omega))
    have hw1:IntKind.i64.wrap (p:Int)=(p:Int):=Ind.wrap_id (by omega) (by omega)
    have hw2:(p:Int).tmod 224=(p:Int):=by
      rw[Int.tmod_eq_emod_of_nonneg (by omega)]
      omega
    obtain⟨o,ho⟩:∃ o,o=T p:=⟨_,rfl⟩
    rw[←ho] at HT0
    have HQ:=Lib.hid ho
    clear ho HD0
    obtain⟨c0,c1,c2⟩:=hd.cells
    cases o with
    | true =>
      go_wp2
      go_step3
      go_wp2_with fail
      refine(HT0.out _ hd.m hd.g).mono ?_
      rintro e w2 hq
      obtain rfl:=hq.1
      replace hd:=hd.step hq
      clear hq c0 c1 c2
      have HE:=Lib.hid hd
      clear hd HT0 HT
      go_wp2
      simp only[Exit.jump]
      go_ret2
      have e1:N=0:=HSk.out (fun j hj=>by omega) (fun _=>by rw[HP0.out];exact HQ.out.symm)
      rw[HR.out,e1,if_pos (by omega)]
      refine⟨?_,HE.out.t.m,HE.out.t.f⟩
      rw[HP0.out]
      rfl
    | false =>
      go_wp2
      go_step3
      go_wp2_with fail
      refine(HT0.out _ hd.m hd.g).mono ?_
      rintro e w2 hq
      obtain rfl:=hq.1
      replace hd:=hd.step hq
      clear hq c0 c1 c2
      have HE:=Lib.hid hd
      clear hd HT0
      go_wp2
      go_step3
      have HK1:Hid (∀ j,j<1→T (ps 224 p j)=false):=fun j hj=>by
        obtain rfl:j=0:=by omega
        rw[HP0.out]
        exact HQ.out.symm
      exact⟨rfl,1,_,_,_,_,_,_,_,_,_,_,_,_,_,_,_,_,_,_,_,rfl,by omega,HK1,HE.out⟩
  · rintro a' w' ⟨k,u4,u5,u9,u10,u11,u12,u13,u14,u15,u16,u17,u18,u19,u20,u21,u22,u23,u24,u25,rfl,hk,HK,HD⟩
    have hd:=HD.out
    clear HD HD0
    by_cases hlt:k<224
    · have HTk:=Lib.hid (fun W (hW:Ix X K W) (g:Gd W)=>HT.out (ps 224 p k) W (ps_lt hp (Nat.le_of_lt hlt)) hW g)
      have HSk:=Lib.hid (HSk0.out k (Nat.le_of_lt hlt))
      have hlk:(k:Int)<224:=by omega
      have hw1:IntKind.i64.wrap ((p:Int)+(k:Int))=(p:Int)+k:=Ind.wrap_id (by omega) (by omega)
      have hw2:((p:Int)+(k:Int)).tmod 224=(ps 224 p k:Int):=ps_tmod hp (Nat.le_of_lt hlt)
      have hw3:IntKind.i64.wrap ((k:Int)+1)=((k+1:Nat):Int):=(Ind.wrap_id (by omega) (by omega)).trans (by omega)
      have hne:((k:Int) == 224)=false:=by simp;omega
      obtain⟨o,ho⟩:∃ o,o=T (ps 224 p k):=⟨_,rfl⟩
      rw[←ho] at HTk
      have HO:=Lib.hid ho
      clear ho
      have HQ:Hid (∀ j,j=k→T (ps 224 p j)=o):=fun j hj=>by rw[hj];exact HO.out.symm
      clear HO
      obtain⟨q,hq⟩:∃ q,q=ps 224 p k:=⟨_,rfl⟩
      rw[←hq] at hw2 HTk
      have HqQ:=Lib.hid hq
      clear hq
      obtain⟨c0,c1,c2⟩:=hd.cells
      cases o with
      | true =>
        go_wp2_with fail
        refine(HTk.out _ hd.m hd.g).mono ?_
        rintro e w2 hq
        obtain rfl:=hq.1
        replace hd:=hd.step hq
        clear hq c0 c1 c2
        obtain⟨c0,c1,c2⟩:=hd.cells
        have HE:=Lib.hid hd
        clear hd HTk HT
        go_wp2
        simp only[Exit.jump]
        go_ret2
        have e1:N=k:=HSk.out HK.out (fun _=>HQ.out k rfl)
        rw[HR.out,e1,if_pos hlt]
        refine⟨?_,HE.out.t.m,HE.out.t.f⟩
        rw[←HqQ.out]
        rfl
      | false =>
        go_wp2_with fail
        refine(HTk.out _ hd.m hd.g).mono ?_
        rintro e w2 hq
        obtain rfl:=hq.1
        replace hd:=hd.step hq
        clear hq c0 c1 c2
        obtain⟨c0,c1,c2⟩:=hd.cells
        have HE:=Lib.hid hd
        clear hd HTk
        go_wp2
        go_step3
        refine⟨rfl,⟨k+1,_,_,_,_,_,_,_,_,_,_,_,_,_,_,_,_,_,_,_,rfl,by omega,(fun j hj=>(Nat.lt_or_ge j k).elim (fun z=>HK.out j z) (fun z=>HQ.out j (by omega))),HE.out⟩,?_⟩
        simp[intOf]
        omega
    · obtain rfl:k=224:=by omega
      rw[show ((224:Nat):Int)=224 from rfl]
      obtain⟨c0,c1,c2⟩:=hd.cells
      have HE:=Lib.hid hd
      have e1:Hid (N=224):=HSk0.out 224 (Nat.le_refl _) HK.out (fun h=>absurd h (by omega))
      clear hd HT
      go_wp2
      simp only[Exit.jump]
      go_ret2
      rw[HR.out,e1.out,if_neg (by omega)]
      exact⟨rfl,HE.out.t.m,HE.out.t.f⟩
end
end Go.Proofs.YtmgeiaglandedaaGreatDoor.Ind

namespace Go.Proofs.YtmgeiaglandedaaGreatDoor.Ind
open Go.RowKit Num
open Pro
open Mem (Mm MemC MRet Hm rd blkM)
open Sla (Sl St Lv pl aT pV Lo)
open Arn (wrL is64)
set_option linter.unusedVariables false
set_option maxRecDepth 100000
def insj (K:Nat→Nat) (x p j q:Nat):Nat:=if off 224 p q<j then (if off 224 p q=0 then x else K (pv 224 q)) else K q
def delj (K:Nat→Nat) (p j q:Nat):Nat:=if off 224 p q<j then K (nx 224 q) else if off 224 p q=j then 0 else K q
def hnd (K:Nat→Nat) (x p j:Nat):Nat:=if j=0 then x else K (ps 224 p (j-1))
theorem nx_ps {p j:Nat} (hp:p<224) (hj:j<224):nx 224 (ps 224 p j)=ps 224 p (j+1):=by unfold nx ps;(repeat' split)<;>omega
theorem insj_zero (K:Nat→Nat) (x p q:Nat):insj K x p 0 q=K q:=if_neg (by omega)
theorem insj_here {K:Nat→Nat} {x p j:Nat} (hp:p<224) (hj:j<224):insj K x p j (ps 224 p j)=K (ps 224 p j):=by
  unfold insj
  rw[off_ps hp hj,if_neg (by omega)]
theorem insj_step {K:Nat→Nat} {x p j q:Nat} (hp:p<224) (hj:j<224) (hq:q<224):up (insj K x p j) (ps 224 p j) (hnd K x p j) q=insj K x p (j+1) q:=by
  by_cases e:q=ps 224 p j
  · subst e
    rw[up_at]
    unfold insj hnd
    rw[off_ps hp hj]
    by_cases h0:j=0
    · rw[if_pos h0,if_pos (Nat.lt_succ_self j),if_pos h0]
    · rw[if_neg h0,if_pos (Nat.lt_succ_self j),if_neg h0]
      congr 1
      have:=pv_ps (i:=j-1) hp (show j-1+1<224 by omega)
      rw[show j-1+1=j by omega] at this
      exact this.symm
  · rw[up_ne _ _ e]
    have hne:off 224 p q≠j:=fun h=>e (by rw[←h,ps_off hp hq])
    unfold insj
    by_cases h:off 224 p q<j
    · rw[if_pos h,if_pos (show off 224 p q<j+1 by omega)]
    · rw[if_neg h,if_neg (show ¬ off 224 p q<j+1 by omega)]
theorem insj_end {K:Nat→Nat} {x p m:Nat} (q:Nat):insj K x p (m+1) q=insk 224 K x p m q:=by
  unfold insj insk
  by_cases h:off 224 p q=0
  · rw[if_pos (show off 224 p q<m+1 by omega),if_pos h,if_pos h]
  · rw[if_neg h,if_neg h]
    by_cases h2:off 224 p q≤m
    · rw[if_pos (show off 224 p q<m+1 by omega),if_pos h2]
    · rw[if_neg (show ¬ off 224 p q<m+1 by omega),if_neg h2]
theorem delj_zero {K:Nat→Nat} {p q:Nat} (hp:p<224) (hq:q<224):up K p 0 q=delj K p 0 q:=by
  unfold delj
  rw[if_neg (by omega)]
  by_cases e:q=p
  · subst e;rw[up_at,off_self,if_pos rfl]
  · rw[up_ne _ _ e,if_neg (fun h=>e (off_zero hp hq h))]
theorem delj_next {K:Nat→Nat} {p j:Nat} (hp:p<224) (hj:j+1<224):delj K p j (ps 224 p (j+1))=K (ps 224 p (j+1)):=by
  unfold delj
  rw[off_ps hp hj,if_neg (by omega),if_neg (by omega)]
theorem delj_step {K:Nat→Nat} {p j q:Nat} (hp:p<224) (hj:j+1<224) (hq:q<224):up (up (delj K p j) (ps 224 p j) (K (ps 224 p (j+1)))) (ps 224 p (j+1)) 0 q=delj K p (j+1) q:=by
  by_cases e:q=ps 224 p (j+1)
  · subst e
    rw[up_at]
    unfold delj
    rw[off_ps hp hj,if_neg (by omega),if_pos rfl]
  · rw[up_ne _ _ e]
    have n1:off 224 p q≠j+1:=fun h=>e (by rw[←h,ps_off hp hq])
    by_cases e2:q=ps 224 p j
    · subst e2
      rw[up_at]
      unfold delj
      rw[off_ps hp (by omega),if_pos (by omega),nx_ps hp (by omega)]
    · rw[up_ne _ _ e2]
      have n2:off 224 p q≠j:=fun h=>e2 (by rw[←h,ps_off hp hq])
      unfold delj
      by_cases h:off 224 p q<j
      · rw[if_pos h,if_pos (by omega)]
      · rw[if_neg h,if_neg n2,if_neg (by omega),if_neg n1]
section
variable {X:Fx} {l:List Int} {K K':Nat→Nat} {r r':Value} {w w1 w2 w' W W':World} {e e':Ending} {b x a:Nat} {fv:Value} {Gd:World→Prop} {F:Nat} {cp:Array Value} {P:Nat→Bool}
theorem TB.congr (d:TB X K w b W) (h:∀ i,i<224→K' i=K i):TB X K' w b W:=⟨d.m.congr h,d.bx,d.n,d.f⟩
theorem IxR.congr (d:IxR X K r w e W) (h:∀ i,i<224→K' i=K i):IxR X K' r w e W:=⟨d.1,d.2.1.congr h,d.2.2⟩
set_option maxRecDepth 100000 in
theorem push_any (d:Ix X K w) {p m:Nat} (hp:p<224) (hm:m<224) (hx:x∈X.E) (h1:∀ j,j<m→K (ps 224 p j)≠0) (h2:K (ps 224 p m)=0) :
    Calls Tryz.prog 77 #[tV X.h,.int .i64 (p:Int),.int .i64 (x:Int)] w (IxR X (insk 224 K x p m) (.tuple #[]) w):=by
  have hd0:=TB.made d
  have hx0:x≠0:=by have:=d.facts hx;omega
  have hH0:∀ j,j<m+1→hnd K x p j≠0∧hnd K x p j∈X.E:=fun j hj=>by
    unfold hnd
    by_cases h0:j=0
    · rw[if_pos h0];exact⟨hx0,hx⟩
    · rw[if_neg h0]
      have:=h1 (j-1) (by omega)
      exact⟨this,d.kin (ps_lt hp (by omega)) this⟩
  have hHm:hnd K x p (m+1)=0:=by unfold hnd;rw[if_neg (by omega)];exact h2
  have HH0:=Lib.hid hH0
  have HHd:=Lib.hid (fun j W (hj:j<m+1) (hW:Ix X (insj K x p j) W)=>held_any hW (i:=ps 224 p j) (ps_lt hp (by omega)))
  have HSt:=Lib.hid (fun j W (hj:j<m+1) (hW:Ix X (insj K x p j) W)=>set_any hW (i:=ps 224 p j) (v:=hnd K x p j) (ps_lt hp (by omega)) (.inr (hH0 j hj).2))
  have HNx:=Lib.hid (fun j W K' (hj:j<m+1) (hW:Ix X K' W)=>next_any hW (p:=ps 224 p j) (ps_lt hp (by omega)))
  have HP0:Hid (ps 224 p 0=p):=ps_zero hp
  have HD0:Hid (TB X (insj K x p 0) w w.heap.size (w.alloc (.cells #[pV X.h,.int .i64 240,.int .i64 224] 110))):=hd0.congr (fun i _=>insj_zero K x p i)
  have HE:Hid (∀ W,TB X (insj K x p (m+1)) w w.heap.size W→IxR X (insk 224 K x p m) (.tuple #[]) w (.returned (.tuple #[])) W):=fun W hW=>(hW.done (.tuple #[])).congr (fun i _=>(insj_end i).symm)
  have HS:Hid (∀ j,j<m+1→∀ i,i<224→insj K x p (j+1) i=up (insj K x p j) (ps 224 p j) (hnd K x p j) i):=fun j hj i hi=>(insj_step hp (by omega) hi).symm
  have HV:Hid (∀ j,j<m+1→insj K x p j (ps 224 p j)=hnd K x p (j+1)):=fun j hj=>by
    rw[insj_here hp (by omega)]
    unfold hnd
    rw[if_neg (by omega)]
    rfl
  have HN:Hid (∀ j,j<m+1→nx 224 (ps 224 p j)=ps 224 p (j+1)):=fun j hj=>nx_ps hp (by omega)
  have HHm:=Lib.hid hHm
  have HX0:Hid (hnd K x p 0=x):=if_pos rfl
  clear d hd0 hx hx0 h1 h2 hH0 hHm
  try unfold tV at *
  unfold pV at *
  go_enter Tryz.func77,Tryz.ntmps77
  go_wp2
  go_loopg [1,2] (m+1) (fun k s v wr=>∃ j:Nat,k=m+1-j∧j≤m+1∧s = .int .i64 (ps 224 p j:Int)∧v = .int .i64 (hnd K x p j:Int)∧Hid (TB X (insj K x p j) w w.heap.size wr))
  case atStart=>exact⟨0,by omega,by omega,by rw[HP0.out],by rw[HX0.out],HD0.out⟩
  case round =>
    clear HD0
    obtain⟨j,hgk,hj,rfl,rfl,HD⟩:=hrel
    have HG:=Lib.hid hgk
    have hd:=HD.out
    clear hgk HD
    obtain⟨c0,c1,c2⟩:=hd.cells
    by_cases hlt:j<m+1
    · obtain⟨n1,n2⟩:=HH0.out j hlt
      have hq:((hnd K x p j:Int) != 0)=true:=by simpa using n1
      have H1:=Lib.hid (fun W hW=>HHd.out j W hlt hW)
      rw[HV.out j hlt] at H1
      have H2:=Lib.hid (fun W hW=>HSt.out j W hlt hW)
      have H3:=Lib.hid (fun W K' hW=>HNx.out j W K' hlt hW)
      rw[HN.out j hlt] at H3
      have HS1:=Lib.hid (HS.out j hlt)
      clear n1 n2
      generalize insj K x p j=K1 at *
      generalize hnd K x p j=v at H2 HS1 hq ⊢
      obtain⟨v2,hv2⟩:∃ v2,v2=hnd K x p (j+1):=⟨_,rfl⟩
      rw[←hv2] at H1
      have HV2:=Lib.hid hv2
      clear hv2
      obtain⟨s,hs⟩:∃ s,s=ps 224 p j:=⟨_,rfl⟩
      rw[←hs] at H1 H2 H3 HS1 ⊢
      clear hs
      obtain⟨s2,hs2⟩:∃ s2,s2=ps 224 p (j+1):=⟨_,rfl⟩
      rw[←hs2] at H3
      have HS2:=Lib.hid hs2
      clear hs2
      go_wp2_with fail
      refine(H1.out _ hd.m).mono ?_
      rintro e w2 hq
      obtain rfl:=hq.1
      replace hd:=hd.step hq
      clear hq c0 c1 c2
      obtain⟨c0,c1,c2⟩:=hd.cells
      go_wp2_with fail
      refine(H2.out _ hd.m).mono ?_
      rintro e w2 hq
      obtain rfl:=hq.1
      replace hd:=hd.step hq
      clear hq c0 c1 c2
      obtain⟨c0,c1,c2⟩:=hd.cells
      go_wp2_with fail
      refine(H3.out _ _ hd.m).mono ?_
      rintro e w2 hq
      obtain rfl:=hq.1
      replace hd:=hd.step hq
      have HDn:Hid (TB X (insj K x p (j+1)) w w.heap.size w2):=hd.congr (fun i hi=>HS1.out i hi)
      clear hq c0 c1 c2 hd
      go_wp2
      go_roundg (m+1-(j+1))
      case measure=>have:=HG.out;omega
      case rel=>exact⟨j+1,rfl,by omega,by rw[HS2.out],by rw[HV2.out],HDn.out⟩
    · obtain rfl:j=m+1:=by omega
      rw[HHm.out,show ((0:Nat):Int)=0 from rfl]
      have HEn:=Lib.hid (HE.out _ hd)
      clear hd
      go_wp2
      refine bodyPost_end (results_none rfl _ _ _) rfl ?_
      exact HEn.out
set_option maxRecDepth 100000 in
theorem pull_any (d:Ix X K w) {p:Nat} (hp:p<224) :
    Calls Tryz.prog 71 #[tV X.h,.int .i64 (p:Int)] w (IxR X (delF 224 (hmX X) K p) (.tuple #[]) w):=by
  have hd:=TB.made d
  have HSet:=Lib.hid (fun W (hW:Ix X K W)=>set_any hW (i:=p) (v:=0) hp (.inl rfl))
  have HNp:=Lib.hid (fun W (hW:Ix X (up K p 0) W)=>next_any hW (p:=p) hp)
  have hnp:nx 224 p<224:=nx_lt hp
  obtain⟨m,hm⟩:∃ m,m=sta 224 (hmX X) K p:=⟨_,rfl⟩
  have hm1:m<224:=by rw[hm];exact sta_lt hp
  have hsf:sfR (fun i=>stb 224 (hmX X) (up K p 0) i) (nx 224 p)=(ps 224 p (m+1),true):=by
    unfold sfR
    have e1:sk (fun s=>stb 224 (hmX X) (up K p 0) (ps 224 (nx 224 p) s)) 224=m:=hm.symm
    rw[e1,if_pos hm1,ps_nx hp (by omega)]
  have HSk:Hid (∀ W,Ix X (up K p 0) W→Calls Tryz.prog 69 #[tV X.h,.int .i64 (nx 224 p:Int),.func (.func 153) #[tV X.h] #[]] W (IxR X (up K p 0) (.tuple #[.int .i64 (ps 224 p (m+1):Int),.bool true]) W)):=fun W hW=>by
    have:=seek_any (Gd:=fun _=>True) 153 (tV X.h) (fun i=>stb 224 (hmX X) (up K p 0) i) (enters_of Tryz.func153 (by kernel_rfl) rfl) (fun _ _ _ _=>trivial) (fun i W hi hW _=>stays_any hW hi) hW trivial hnp
    rw[hsf] at this
    exact this
  have HHd:=Lib.hid (fun j W (hj:j<m) (hW:Ix X (delj K p j) W)=>held_any hW (i:=ps 224 p (j+1)) (ps_lt hp (by omega)))
  have HS1:=Lib.hid (fun j W (hj:j<m) (hW:Ix X (delj K p j) W)=>set_any hW (i:=ps 224 p j) (v:=K (ps 224 p (j+1))) (ps_lt hp (by omega)) (by
    by_cases q:K (ps 224 p (j+1))=0
    · exact .inl q
    · exact .inr (d.kin (ps_lt hp (by omega)) q)))
  have HS2:=Lib.hid (fun j W K' (hj:j<m) (hW:Ix X K' W)=>set_any hW (i:=ps 224 p (j+1)) (v:=0) (ps_lt hp (by omega)) (.inl rfl))
  have HNx:=Lib.hid (fun j W K' (hj:j<m) (hW:Ix X K' W)=>next_any hW (p:=ps 224 p (j+1)) (ps_lt hp (by omega)))
  have HV:Hid (∀ j,j<m→delj K p j (ps 224 p (j+1))=K (ps 224 p (j+1))):=fun j hj=>delj_next hp (by omega)
  have HN:Hid (∀ j,j<m→nx 224 (ps 224 p (j+1))=ps 224 p (j+2)):=fun j hj=>nx_ps hp (by omega)
  have HS:Hid (∀ j,j<m→∀ i,i<224→delj K p (j+1) i=up (up (delj K p j) (ps 224 p j) (K (ps 224 p (j+1)))) (ps 224 p (j+1)) 0 i):=fun j hj i hi=>(delj_step hp (by omega) hi).symm
  have HZ:Hid (∀ i,i<224→delj K p 0 i=up K p 0 i):=fun i hi=>(delj_zero hp hi).symm
  have HE:Hid (∀ W,TB X (delj K p m) w w.heap.size W→IxR X (delF 224 (hmX X) K p) (.tuple #[]) w (.returned (.tuple #[])) W):=fun W hW=>(hW.done (.tuple #[])).congr (fun i _=>by unfold delF delk;rw[←hm];rfl)
  have HP0:Hid (ps 224 p 0=p):=ps_zero hp
  have HP1:Hid (nx 224 p=ps 224 p 1):=by
    have:=nx_ps (p:=p) (j:=0) hp (by omega)
    rw[ps_zero hp] at this
    exact this
  have HNe:Hid (∀ j,j<m→ps 224 p (j+1)≠ps 224 p (m+1)):=fun j hj e=>by
    unfold ps at e
    split at e<;>split at e<;>omega
  obtain⟨c0,c1,c2⟩:=hd.cells
  generalize up K p 0=K0 at HSet HNp HSk HZ
  generalize delF 224 (hmX X) K p=K9 at HE ⊢
  clear d hsf hm hnp
  rw[show ((0:Nat):Int)=0 from rfl] at HSet HS2
  try unfold tV at *
  unfold pV at *
  go_enter Tryz.func71,Tryz.ntmps71
  go_wp2_with fail
  refine(HSet.out _ hd.m).mono ?_
  rintro e w2 hq
  obtain rfl:=hq.1
  replace hd:=hd.step hq
  clear hq c0 c1 c2
  obtain⟨c0,c1,c2⟩:=hd.cells
  go_wp2_with fail
  go_region_held3 (fun w'=>w'.cell? ⟨w.heap.size,0,none⟩=some (.pointer (some ⟨X.h.g,0,none⟩))∧w'.cell? ⟨w.heap.size,1,none⟩=some (.int .i64 240)∧w'.cell? ⟨w.heap.size,2,none⟩=some (.int .i64 224)) (first | exact⟨c0,c1,c2⟩ | go_keep) ((first | (go_at_call 152;refine(HNp.out _ (by first | exact hd.m | exact hd.m.drew)).mono ?_;rintro e w2 hq;obtain rfl:=hq.1;replace hd:=(by first | exact hd.step hq | exact hd.drew.step hq);clear hq c0 c1 c2;obtain⟨c0,c1,c2⟩:=hd.cells) | (go_at_call 69;refine(HSk.out _ (by first | exact hd.m | exact hd.m.drew)).mono ?_;rintro e w2 hq;obtain rfl:=hq.1;replace hd:=(by first | exact hd.step hq | exact hd.drew.step hq);clear hq c0 c1 c2;obtain⟨c0,c1,c2⟩:=hd.cells)))
  all_goals
    go_wp2_with fail
    refine(HNp.out _ hd.m).mono ?_
    rintro e w2 hq
    obtain rfl:=hq.1
    replace hd:=hd.step hq
    clear hq c0 c1 c2
    obtain⟨c0,c1,c2⟩:=hd.cells
    have HD0:Hid (TB X (delj K p 0) w w.heap.size w2):=hd.congr (fun i hi=>HZ.out i hi)
    clear c0 c1 c2 hd HSet HSk HNp
    go_wp2
    go_loopg [1,6] m (fun k s v wr=>∃ j:Nat,k=m-j∧j≤m∧s = .int .i64 (ps 224 p j:Int)∧v = .int .i64 (ps 224 p (j+1):Int)∧Hid (TB X (delj K p j) w w.heap.size wr))
    case atStart=>exact⟨0,by omega,by omega,by rw[HP0.out],by rw[HP1.out],HD0.out⟩
    case round =>
      clear HD0
      obtain⟨j,hgk,hj,rfl,rfl,HD⟩:=hrel
      have HG:=Lib.hid hgk
      have hd:=HD.out
      clear hgk HD
      obtain⟨c0,c1,c2⟩:=hd.cells
      by_cases hlt:j<m
      · have hne:=HNe.out j hlt
        have hq:((ps 224 p (j+1):Int) != (ps 224 p (m+1):Int))=true:=by rw[bne_iff_ne];omega
        have H1:=Lib.hid (fun W hW=>HHd.out j W hlt hW)
        rw[HV.out j hlt] at H1
        have H2:=Lib.hid (fun W hW=>HS1.out j W hlt hW)
        have H3:=Lib.hid (fun W K' hW=>HS2.out j W K' hlt hW)
        have H4:=Lib.hid (fun W K' hW=>HNx.out j W K' hlt hW)
        rw[HN.out j hlt] at H4
        have HSj:=Lib.hid (HS.out j hlt)
        clear hne
        generalize delj K p j=K1 at *
        generalize K (ps 224 p (j+1))=v at *
        obtain⟨s,hs⟩:∃ s,s=ps 224 p j:=⟨_,rfl⟩
        rw[←hs] at H2 HSj ⊢
        clear hs
        obtain⟨s2,hs2⟩:∃ s2,s2=ps 224 p (j+1):=⟨_,rfl⟩
        rw[←hs2] at H1 H3 H4 HSj hq ⊢
        have HS2':=Lib.hid hs2
        clear hs2
        obtain⟨s3,hs3⟩:∃ s3,s3=ps 224 p (j+2):=⟨_,rfl⟩
        rw[←hs3] at H4
        have HS3':=Lib.hid hs3
        clear hs3
        generalize (ps 224 p (m+1):Int)=en at *
        go_wp2_with fail
        go_region_held3 (fun w'=>w'.cell? ⟨w.heap.size,0,none⟩=some (.pointer (some ⟨X.h.g,0,none⟩))∧w'.cell? ⟨w.heap.size,1,none⟩=some (.int .i64 240)∧w'.cell? ⟨w.heap.size,2,none⟩=some (.int .i64 224)) (first | exact⟨c0,c1,c2⟩ | go_keep) ((first | (go_at_call 151;refine(H1.out _ (by first | exact hd.m | exact hd.m.drew)).mono ?_;rintro e w2 hq;obtain rfl:=hq.1;replace hd:=(by first | exact hd.step hq | exact hd.drew.step hq);clear hq c0 c1 c2;obtain⟨c0,c1,c2⟩:=hd.cells) | (go_at_call 85;refine(H2.out _ (by first | exact hd.m | exact hd.m.drew)).mono ?_;rintro e w2 hq;obtain rfl:=hq.1;replace hd:=(by first | exact hd.step hq | exact hd.drew.step hq);clear hq c0 c1 c2;obtain⟨c0,c1,c2⟩:=hd.cells)))
        all_goals
          go_wp2_with fail
          refine(H3.out _ _ hd.m).mono ?_
          rintro e w2 hq
          obtain rfl:=hq.1
          replace hd:=hd.step hq
          clear hq c0 c1 c2
          obtain⟨c0,c1,c2⟩:=hd.cells
          go_wp2_with fail
          refine(H4.out _ _ hd.m).mono ?_
          rintro e w2 hq
          obtain rfl:=hq.1
          replace hd:=hd.step hq
          have HDn:Hid (TB X (delj K p (j+1)) w w.heap.size w2):=hd.congr (fun i hi=>HSj.out i hi)
          clear hq c0 c1 c2 hd
          go_wp2
          go_roundg (m-(j+1))
          case measure=>have:=HG.out;omega
          case rel=>exact⟨j+1,rfl,by omega,by rw[HS2'.out],by rw[HS3'.out],HDn.out⟩
      · obtain rfl:j=m:=by omega
        have hq:((ps 224 p (j+1):Int) != (ps 224 p (j+1):Int))=false:=by simp
        have HEn:=Lib.hid (HE.out _ hd)
        clear hd
        go_wp2
        refine bodyPost_end (results_none rfl _ _ _) rfl ?_
        exact HEn.out
end
end Go.Proofs.YtmgeiaglandedaaGreatDoor.Ind

namespace Go.Proofs.YtmgeiaglandedaaGreatDoor.Ind
open Go.RowKit Num
open Pro
open Mem (Mm MemC MRet Hm rd blkM)
open Sla (Sl St Lv pl aT pV Lo)
open Arn (wrL is64)
set_option linter.unusedVariables false
set_option maxRecDepth 100000
structure MB (X:Fx) (K:Nat→Nat) (w:World) (L:List (Nat×Array Value×TypeId)) (W:World):Prop where
  m:Ix X K W
  bx:∀ p∈L,W.heap[p.1]? = some (.cells p.2.1 p.2.2 (0,0))∧¬ blkM X.h p.1∧w.heap.size≤p.1
  f:Fr w.heap.size (blkM X.h) w W
  lo:Lo X.h w.heap.size
def S3 (w:World) (b:Nat) (v0 v1 v2:Value):World:=((w.setCell ⟨b,0,none⟩ v0).setCell ⟨b,1,none⟩ v1).setCell ⟨b,2,none⟩ v2
def S4 (w:World) (b:Nat) (v0 v1 v2 v3:Value):World:=(S3 w b v0 v1 v2).setCell ⟨b,3,none⟩ v3
def S5 (w:World) (b:Nat) (v0 v1 v2 v3 v4:Value):World:=(S4 w b v0 v1 v2 v3).setCell ⟨b,4,none⟩ v4
def S6 (w:World) (b:Nat) (v0 v1 v2 v3 v4 v5:Value):World:=(S5 w b v0 v1 v2 v3 v4).setCell ⟨b,5,none⟩ v5
theorem sc_keep {W:World} {b b' i j:Nat} {v u:Value} (hn:b'≠b) (h:W.cell? ⟨b',i,none⟩=some v):(W.setCell ⟨b,j,none⟩ u).cell? ⟨b',i,none⟩=some v:=by
  rw[World.cell?_setCell_other _ _ _ _ (by intro q;injection q with q _ _;exact hn q.symm)]
  exact h
theorem s3_keep {W:World} {b b' i:Nat} {v v0 v1 v2:Value} (hn:b'≠b) (h:W.cell? ⟨b',i,none⟩=some v):(S3 W b v0 v1 v2).cell? ⟨b',i,none⟩=some v:=sc_keep hn (sc_keep hn (sc_keep hn h))
section
variable {X:Fx} {l:List Int} {K K':Nat→Nat} {r r':Value} {w w1 w2 w' W W':World} {e e':Ending} {b x a:Nat} {fv:Value} {Gd:World→Prop} {F:Nat} {cp cs:Array Value} {P:Nat→Bool} {L:List (Nat×Array Value×TypeId)} {t:TypeId}
theorem MB.start (d:Ix X K w):MB X K w [] w:=⟨d,fun p hp=>(by cases hp),Fr.refl _ _ _,d.lo⟩
theorem MB.push (d:MB X K w L W) (cs:Array Value) (t:TypeId):MB X K w ((W.heap.size,cs,t)::L) (W.alloc (.cells cs t)):=by
  refine⟨d.m.below (below_made _ _),fun p hp=>?_,d.f.trans ((Fr.of_below (below_made _ _)).mono d.f.size (fun _ _ q=>q)),d.lo⟩
  rcases List.mem_cons.1 hp with rfl | hp
  · exact⟨heap_alloc_new _ _,fun q=>by have:=d.m.lt _ q;omega,d.f.size⟩
  · obtain⟨h1,h2,h3⟩:=d.bx p hp
    exact⟨(heap_alloc_old _ _ (Array.getElem?_eq_some_iff.1 h1).1).trans h1,h2,h3⟩
theorem MB.step (d:MB X K w L W) (hr:IxR X K' r W e W'):MB X K' w L W' :=
  ⟨hr.2.1,fun p hp=>by
    obtain⟨h1,h2,h3⟩:=d.bx p hp
    exact⟨(hr.2.2.block _ (Array.getElem?_eq_some_iff.1 h1).1 h2).trans h1,h2,h3⟩,d.f.trans (hr.2.2.mono d.f.size (fun _ _ q=>q)),d.lo⟩
theorem MB.below (d:MB X K w L W) (hb:Below W.heap.size W W'):MB X K w L W':=d.step (d.m.only hb (.bool true))
theorem MB.drew (d:MB X K w L W):MB X K w L W.drew:=d.below (Below.refl _ _).drew
theorem MB.done (d:MB X K w L W) (r:Value):IxR X K r w (.returned r) W:=⟨rfl,d.m,d.f⟩
theorem MB.cell (d:MB X K w L W) (hp:(b,cs,t)∈L) (i:Nat):W.cell? ⟨b,i,none⟩=cs[i]?:=cell_block (d.bx _ hp).1 i
theorem MB.frz (d:MB X K w L W) (hp:(b,cs,t)∈L) (i:Nat):W.frozen? ⟨b,i,none⟩=false:=Hea.frozen_block (d.bx _ hp).1 i
theorem MB.at (d:MB X K w L W) {v:Value} (b:Nat) (cs:Array Value) (t:TypeId) (i:Nat) (hp:(b,cs,t)∈L) (h:cs[i]? = some v):W.cell? ⟨b,i,none⟩=some v:=(d.cell hp i).trans h
theorem MB.lt (d:MB X K w L W) (hp:(b,cs,t)∈L):b<W.heap.size:=(Array.getElem?_eq_some_iff.1 (d.bx _ hp).1).1
theorem MB.put (d:MB X K w ((b,cs,t)::L) W) (hn:∀ p∈L,p.1≠b) (i:Nat) (v:Value):MB X K w ((b,cs.setIfInBounds i v,t)::L) (W.setCell ⟨b,i,none⟩ v):=by
  obtain⟨h1,h2,h3⟩:=d.bx (b,cs,t) (by simp)
  refine⟨d.m.low ((Below.refl _ _).setCell (p:=⟨b,i,none⟩) h3 v) d.lo,fun p hp=>?_,d.f.setCell (p:=⟨b,i,none⟩) (.inl h3) v,d.lo⟩
  · rcases List.mem_cons.1 hp with rfl | hp
    · exact⟨Arn.heap_setCell_own h1 v,h2,h3⟩
    · obtain⟨g1,g2,g3⟩:=d.bx p (by simp[hp])
      exact⟨(Below.heap_setCell _ _ _ _ (fun q=>hn p hp q)).trans g1,g2,g3⟩
theorem MB.set3 {a0 a1 a2:Value} (d:MB X K w ((b,#[a0,a1,a2],t)::L) W) (hn:∀ p∈L,p.1≠b) (v0 v1 v2:Value):MB X K w ((b,#[v0,v1,v2],t)::L) (S3 W b v0 v1 v2):=by
  have:=((d.put hn 0 v0).put hn 1 v1).put hn 2 v2
  simpa[S3] using this
theorem MB.set4 {a0 a1 a2 a3:Value} (d:MB X K w ((b,#[a0,a1,a2,a3],t)::L) W) (hn:∀ p∈L,p.1≠b) (v0 v1 v2 v3:Value):MB X K w ((b,#[v0,v1,v2,v3],t)::L) (S4 W b v0 v1 v2 v3):=by
  have:=(((d.put hn 0 v0).put hn 1 v1).put hn 2 v2).put hn 3 v3
  simpa[S3,S4] using this
theorem MB.set5 {a0 a1 a2 a3 a4:Value} (d:MB X K w ((b,#[a0,a1,a2,a3,a4],t)::L) W) (hn:∀ p∈L,p.1≠b) (v0 v1 v2 v3 v4:Value):MB X K w ((b,#[v0,v1,v2,v3,v4],t)::L) (S5 W b v0 v1 v2 v3 v4):=by
  have:=((((d.put hn 0 v0).put hn 1 v1).put hn 2 v2).put hn 3 v3).put hn 4 v4
  simpa[S3,S4,S5] using this
theorem MB.perm {L':List (Nat×Array Value×TypeId)} (d:MB X K w L W) (h:∀ p∈L',p∈L):MB X K w L' W:=⟨d.m,fun p hp=>d.bx p (h p hp),d.f,d.lo⟩
set_option maxHeartbeats 1000000 in
theorem slots_any (d:Ix X K w):Calls Tryz.prog 66 #[pV X.h] w (IxR X K (tV X.h) w):=by
  have hd:=(MB.start d).push #[.pointer none,.int .i64 0,.int .i64 0] 110
  have HC:Hid (∀ W,Ix X K W→Calls Tryz.prog 147 #[pV X.h] W (IxR X K (.agg #[.int .i64 7,.int .i64 224]) W)):=fun W hW=>hW.config.mono fun e w' q=>⟨q.1,hW.below q.2,Fr.of_below q.2⟩
  have HA:Hid (∀ W,Ix X K W→Calls Tryz.prog 148 #[.agg #[.int .i64 7,.int .i64 224],.int .i64 0] W (IxR X K (.int .i64 240) W)):=fun W hW=>hW.slotAt.mono fun e w' q=>⟨q.1,hW.below q.2,Fr.of_below q.2⟩
  clear d
  unfold pV at *
  go_enter Tryz.func66,Tryz.ntmps66
  go_wp2_with fail
  refine(HC.out _ hd.m).mono ?_
  rintro e w1 hq
  obtain rfl:=hq.1
  have hlt1:w.heap.size<w1.heap.size:=(hd.step hq).lt (b:=w.heap.size) (cs := #[.pointer none,.int .i64 0,.int .i64 0]) (t:=110) (by simp)
  replace hd:=(hd.step hq).push #[.int .i64 7,.int .i64 224] 81
  have hlt:=hd.lt (b:=w.heap.size) (cs := #[.pointer none,.int .i64 0,.int .i64 0]) (t:=110) (by simp)
  have c0:=hd.at w1.heap.size #[.int .i64 7,.int .i64 224] 81 0 (by simp) rfl
  have c1:=hd.at w1.heap.size #[.int .i64 7,.int .i64 224] 81 1 (by simp) rfl
  have r0:=hd.at w.heap.size #[.pointer none,.int .i64 0,.int .i64 0] 110 0 (by simp) rfl
  have r1:=hd.at w.heap.size #[.pointer none,.int .i64 0,.int .i64 0] 110 1 (by simp) rfl
  have r2:=hd.at w.heap.size #[.pointer none,.int .i64 0,.int .i64 0] 110 2 (by simp) rfl
  have f0:=hd.frz (b:=w.heap.size) (cs := #[.pointer none,.int .i64 0,.int .i64 0]) (t:=110) (by simp) 0
  have f1:=hd.frz (b:=w.heap.size) (cs := #[.pointer none,.int .i64 0,.int .i64 0]) (t:=110) (by simp) 1
  have f2:=hd.frz (b:=w.heap.size) (cs := #[.pointer none,.int .i64 0,.int .i64 0]) (t:=110) (by simp) 2
  clear hq HC
  go_wp2_with fail
  go_region_held3 (fun w'=>w'.cell? ⟨w1.heap.size,0,none⟩=some (.int .i64 7)∧w'.cell? ⟨w1.heap.size,1,none⟩=some (.int .i64 224)) (first | exact⟨c0,c1⟩ | exact⟨s3_keep (Nat.ne_of_gt hlt1) c0,s3_keep (Nat.ne_of_gt hlt1) c1⟩ | go_keep) ((go_at_call 148;refine(HA.out _ (by first | exact hd.m | exact hd.m.drew)).mono ?_;rintro e w2 hq;obtain rfl:=hq.1;replace hd:=(by first | exact hd.step hq | exact hd.drew.step hq);clear hq c0 c1 r0 r1 r2 f0 f1 f2;have c0:=hd.at w1.heap.size #[.int .i64 7,.int .i64 224] 81 0 (by simp) rfl;have c1:=hd.at w1.heap.size #[.int .i64 7,.int .i64 224] 81 1 (by simp) rfl;have r0:=hd.at w.heap.size #[.pointer none,.int .i64 0,.int .i64 0] 110 0 (by simp) rfl;have r1:=hd.at w.heap.size #[.pointer none,.int .i64 0,.int .i64 0] 110 1 (by simp) rfl;have r2:=hd.at w.heap.size #[.pointer none,.int .i64 0,.int .i64 0] 110 2 (by simp) rfl;have f0:=hd.frz (b:=w.heap.size) (cs := #[.pointer none,.int .i64 0,.int .i64 0]) (t:=110) (by simp) 0;have f1:=hd.frz (b:=w.heap.size) (cs := #[.pointer none,.int .i64 0,.int .i64 0]) (t:=110) (by simp) 1;have f2:=hd.frz (b:=w.heap.size) (cs := #[.pointer none,.int .i64 0,.int .i64 0]) (t:=110) (by simp) 2))
  all_goals
    have HS:=Lib.hid ((hd.perm (L' := [(w.heap.size,#[.pointer none,.int .i64 0,.int .i64 0],110),(w1.heap.size,#[.int .i64 7,.int .i64 224],81)]) (by simp[or_comm])).set3 (by simp;omega) (.pointer (some ⟨X.h.g,0,none⟩)) (.int .i64 240) (.int .i64 224))
    clear hd c0 c1 r0 r1 r2 f0 f1 f2
    show Exit.then _ _ _ _ (S3 w2 w.heap.size (.pointer (some ⟨X.h.g,0,none⟩)) (.int .i64 240) (.int .i64 224))
    rename_i hH
    clear hH
    generalize S3 w2 w.heap.size (.pointer (some ⟨X.h.g,0,none⟩)) (.int .i64 240) (.int .i64 224)=W3 at HS ⊢
    have q0:=HS.out.at w.heap.size _ _ 0 (List.mem_cons_self ..) rfl
    have q1:=HS.out.at w.heap.size _ _ 1 (List.mem_cons_self ..) rfl
    have q2:=HS.out.at w.heap.size _ _ 2 (List.mem_cons_self ..) rfl
    go_wp2
    refine bodyPost_ret (v:=.agg #[.pointer (some ⟨X.h.g,0,none⟩),.int .i64 240,.int .i64 224]) (by simp[results,Tryz.results66,go_sem,q0,q1,q2]) rfl (HS.out.done _)
end
end Go.Proofs.YtmgeiaglandedaaGreatDoor.Ind

namespace Go.Proofs.YtmgeiaglandedaaGreatDoor.Ind
open Go.RowKit Num
open Pro
open Mem (Mm MemC MRet Hm rd blkM)
open Sla (Sl St Lv pl aT pV Lo)
open Arn (wrL is64)
set_option linter.unusedVariables false
set_option maxRecDepth 100000
section
variable {X:Fx} {l:List Int} {K K':Nat→Nat} {r r':Value} {w w1 w2 w' W W':World} {e e':Ending} {b x a:Nat} {fv:Value} {Gd:World→Prop} {F:Nat} {cp cs:Array Value} {P:Nat→Bool} {L:List (Nat×Array Value×TypeId)} {t:TypeId}
theorem ad_ne {b b' i j:Nat} (h:b≠b'):(⟨b,i,none⟩:Addr)≠⟨b',j,none⟩:=fun q=>h (congrArg Addr.block q)
theorem ne1 {b b1:Nat} {c1:Array Value} {t1:TypeId} (h1:b1≠b):∀ p ∈ [(b1,c1,t1)],p.1≠b:=fun p hp=>by
  rcases List.mem_cons.1 hp with rfl | hp
  · exact h1
  · cases hp
theorem ne2 {b b1 b2:Nat} {c1 c2:Array Value} {t1 t2:TypeId} (h1:b1≠b) (h2:b2≠b):∀ p ∈ [(b1,c1,t1),(b2,c2,t2)],p.1≠b:=fun p hp=>by
  rcases List.mem_cons.1 hp with rfl | hp
  · exact h1
  · exact ne1 h2 p hp
theorem size_al (w:World) (o:Obj):(w.alloc o).heap.size=w.heap.size+1:=Array.size_push _
theorem hash1_any {p:Nat} {x:Int} (W:World) (hb:W.heap[b]? = some (.cells #[.int .i64 x] 3 (0,0))):Calls Tryz.prog 150 #[.int .i64 (p:Int),.pointer (some ⟨b,0,none⟩)] W fun e w'=>e = .returned (.bool (decide ((p:Int)=x)))∧W=w':=by
  have c0:W.cell? ⟨b,0,none⟩=some (.int .i64 x):=(cell_block hb 0).trans rfl
  clear hb
  go_enter Tryz.func150,Tryz.ntmps150
  go_wp2
  go_ret
  exact⟨ret_bool (by first | rfl | simp),rfl⟩
abbrev isV (b:Nat):Value:=.func (.func 150) #[] #[.pointer (some ⟨b,0,none⟩)]
set_option maxHeartbeats 2000000 in
theorem forBlock_any (at':Int) (y:Nat) (hy:y<4294967296) (HH0:∀ W,Ix X K W→Calls Tryz.prog 84 #[tV X.h,.int .i64 at'] W (IxR X K (.int .u32 (y:Int)) W)) (d:Ix X K w) :
    Calls Tryz.prog 68 #[tV X.h,.int .i64 at'] w fun e w'=>e = .returned (sV X.h (y % 224) (isV (w.heap.size+1)))∧Ix X K w'∧Fr w.heap.size (blkM X.h) w w'∧w'.heap[w.heap.size+1]? = some (.cells #[.int .i64 at'] 3 (0,0))∧¬ blkM X.h (w.heap.size+1):=by
  have HH:=Lib.hid HH0
  have HO:=Lib.hid (fun W (hW:Ix X K W)=>home_any hW hy)
  obtain⟨o,ho⟩:∃ o:Nat,o=y % 224:=⟨_,rfl⟩
  rw[←ho] at HO ⊢
  obtain⟨yy,hyy⟩:∃ yy:Int,yy=(y:Int):=⟨_,rfl⟩
  rw[←hyy] at HH HO
  obtain⟨w0,hw0⟩:∃ w0,w0=((w.alloc (.cells #[.pointer (some ⟨X.h.g,0,none⟩),.int .i64 240,.int .i64 224] 110)).alloc (.cells #[.int .i64 at'] 3)).alloc (.cells #[.pointer none,.int .i64 0,.int .i64 0,.int .i64 0,Value.nilFunc] 115):=⟨_,rfl⟩
  have hd:MB X K w [(w.heap.size+1+1,#[.pointer none,.int .i64 0,.int .i64 0,.int .i64 0,Value.nilFunc],115),(w.heap.size+1,#[.int .i64 at'],3),(w.heap.size,#[.pointer (some ⟨X.h.g,0,none⟩),.int .i64 240,.int .i64 224],110)] w0:=by
    have:=(((MB.start d).push #[.pointer (some ⟨X.h.g,0,none⟩),.int .i64 240,.int .i64 224] 110).push #[.int .i64 at'] 3).push #[.pointer none,.int .i64 0,.int .i64 0,.int .i64 0,Value.nilFunc] 115
    rw[size_al,size_al] at this
    rw[hw0]
    exact this
  have c0:=hd.at w.heap.size #[.pointer (some ⟨X.h.g,0,none⟩),.int .i64 240,.int .i64 224] 110 0 (.tail _ (.tail _ (.head _))) rfl
  have c1:=hd.at w.heap.size #[.pointer (some ⟨X.h.g,0,none⟩),.int .i64 240,.int .i64 224] 110 1 (.tail _ (.tail _ (.head _))) rfl
  have c2:=hd.at w.heap.size #[.pointer (some ⟨X.h.g,0,none⟩),.int .i64 240,.int .i64 224] 110 2 (.tail _ (.tail _ (.head _))) rfl
  have c3:=hd.at (w.heap.size+1) #[.int .i64 at'] 3 0 (.tail _ (.head _)) rfl
  have r0:=hd.at (w.heap.size+1+1) #[.pointer none,.int .i64 0,.int .i64 0,.int .i64 0,Value.nilFunc] 115 0 (.head _) rfl
  have r1:=hd.at (w.heap.size+1+1) #[.pointer none,.int .i64 0,.int .i64 0,.int .i64 0,Value.nilFunc] 115 1 (.head _) rfl
  have r2:=hd.at (w.heap.size+1+1) #[.pointer none,.int .i64 0,.int .i64 0,.int .i64 0,Value.nilFunc] 115 2 (.head _) rfl
  have r3:=hd.at (w.heap.size+1+1) #[.pointer none,.int .i64 0,.int .i64 0,.int .i64 0,Value.nilFunc] 115 3 (.head _) rfl
  have r4:=hd.at (w.heap.size+1+1) #[.pointer none,.int .i64 0,.int .i64 0,.int .i64 0,Value.nilFunc] 115 4 (.head _) rfl
  have f0:=hd.frz (b:=w.heap.size+1+1) (cs := #[.pointer none,.int .i64 0,.int .i64 0,.int .i64 0,Value.nilFunc]) (t:=115) (.head _) 0
  have f1:=hd.frz (b:=w.heap.size+1+1) (cs := #[.pointer none,.int .i64 0,.int .i64 0,.int .i64 0,Value.nilFunc]) (t:=115) (.head _) 1
  have f2:=hd.frz (b:=w.heap.size+1+1) (cs := #[.pointer none,.int .i64 0,.int .i64 0,.int .i64 0,Value.nilFunc]) (t:=115) (.head _) 2
  have f3:=hd.frz (b:=w.heap.size+1+1) (cs := #[.pointer none,.int .i64 0,.int .i64 0,.int .i64 0,Value.nilFunc]) (t:=115) (.head _) 3
  have f4:=hd.frz (b:=w.heap.size+1+1) (cs := #[.pointer none,.int .i64 0,.int .i64 0,.int .i64 0,Value.nilFunc]) (t:=115) (.head _) 4
  clear d HH0 hy ho hyy
  try unfold tV at *
  unfold pV at *
  go_enter Tryz.func68,Tryz.ntmps68
  go_wp2_with fail
  rw[←hw0]
  clear hw0
  go_region_held3 (fun w'=>w'.cell? ⟨w.heap.size,0,none⟩=some (.pointer (some ⟨X.h.g,0,none⟩))∧w'.cell? ⟨w.heap.size,1,none⟩=some (.int .i64 240)∧w'.cell? ⟨w.heap.size,2,none⟩=some (.int .i64 224)∧w'.cell? ⟨w.heap.size+1,0,none⟩=some (.int .i64 at')) (first | with_reducible exact⟨c0,c1,c2,c3⟩ | (refine⟨?_,?_,?_,?_⟩<;>(repeat rw[World.cell?_setCell_other _ _ _ _ (ad_ne (by omega))])<;>(first | exact c0 | exact c1 | exact c2 | exact c3)) | go_keep) ((first | (go_at_call 84;refine(HH.out _ (by first | exact hd.m | exact hd.m.drew)).mono ?_;rintro e w2 hq;obtain rfl:=hq.1;replace hd:=(by first | exact hd.step hq | exact hd.drew.step hq);clear hq c0 c1 c2 c3 r0 r1 r2 r3 r4 f0 f1 f2 f3 f4;have c0:=hd.at w.heap.size #[.pointer (some ⟨X.h.g,0,none⟩),.int .i64 240,.int .i64 224] 110 0 (.tail _ (.tail _ (.head _))) rfl;have c1:=hd.at w.heap.size #[.pointer (some ⟨X.h.g,0,none⟩),.int .i64 240,.int .i64 224] 110 1 (.tail _ (.tail _ (.head _))) rfl;have c2:=hd.at w.heap.size #[.pointer (some ⟨X.h.g,0,none⟩),.int .i64 240,.int .i64 224] 110 2 (.tail _ (.tail _ (.head _))) rfl;have c3:=hd.at (w.heap.size+1) #[.int .i64 at'] 3 0 (.tail _ (.head _)) rfl;have r0:=hd.at (w.heap.size+1+1) #[.pointer none,.int .i64 0,.int .i64 0,.int .i64 0,Value.nilFunc] 115 0 (.head _) rfl;have r1:=hd.at (w.heap.size+1+1) #[.pointer none,.int .i64 0,.int .i64 0,.int .i64 0,Value.nilFunc] 115 1 (.head _) rfl;have r2:=hd.at (w.heap.size+1+1) #[.pointer none,.int .i64 0,.int .i64 0,.int .i64 0,Value.nilFunc] 115 2 (.head _) rfl;have r3:=hd.at (w.heap.size+1+1) #[.pointer none,.int .i64 0,.int .i64 0,.int .i64 0,Value.nilFunc] 115 3 (.head _) rfl;have r4:=hd.at (w.heap.size+1+1) #[.pointer none,.int .i64 0,.int .i64 0,.int .i64 0,Value.nilFunc] 115 4 (.head _) rfl;have f0:=hd.frz (b:=w.heap.size+1+1) (cs := #[.pointer none,.int .i64 0,.int .i64 0,.int .i64 0,Value.nilFunc]) (t:=115) (.head _) 0;have f1:=hd.frz (b:=w.heap.size+1+1) (cs := #[.pointer none,.int .i64 0,.int .i64 0,.int .i64 0,Value.nilFunc]) (t:=115) (.head _) 1;have f2:=hd.frz (b:=w.heap.size+1+1) (cs := #[.pointer none,.int .i64 0,.int .i64 0,.int .i64 0,Value.nilFunc]) (t:=115) (.head _) 2;have f3:=hd.frz (b:=w.heap.size+1+1) (cs := #[.pointer none,.int .i64 0,.int .i64 0,.int .i64 0,Value.nilFunc]) (t:=115) (.head _) 3;have f4:=hd.frz (b:=w.heap.size+1+1) (cs := #[.pointer none,.int .i64 0,.int .i64 0,.int .i64 0,Value.nilFunc]) (t:=115) (.head _) 4) | (go_at_call 134;refine(HO.out _ (by first | exact hd.m | exact hd.m.drew)).mono ?_;rintro e w2 hq;obtain rfl:=hq.1;replace hd:=(by first | exact hd.step hq | exact hd.drew.step hq);clear hq c0 c1 c2 c3 r0 r1 r2 r3 r4 f0 f1 f2 f3 f4;have c0:=hd.at w.heap.size #[.pointer (some ⟨X.h.g,0,none⟩),.int .i64 240,.int .i64 224] 110 0 (.tail _ (.tail _ (.head _))) rfl;have c1:=hd.at w.heap.size #[.pointer (some ⟨X.h.g,0,none⟩),.int .i64 240,.int .i64 224] 110 1 (.tail _ (.tail _ (.head _))) rfl;have c2:=hd.at w.heap.size #[.pointer (some ⟨X.h.g,0,none⟩),.int .i64 240,.int .i64 224] 110 2 (.tail _ (.tail _ (.head _))) rfl;have c3:=hd.at (w.heap.size+1) #[.int .i64 at'] 3 0 (.tail _ (.head _)) rfl;have r0:=hd.at (w.heap.size+1+1) #[.pointer none,.int .i64 0,.int .i64 0,.int .i64 0,Value.nilFunc] 115 0 (.head _) rfl;have r1:=hd.at (w.heap.size+1+1) #[.pointer none,.int .i64 0,.int .i64 0,.int .i64 0,Value.nilFunc] 115 1 (.head _) rfl;have r2:=hd.at (w.heap.size+1+1) #[.pointer none,.int .i64 0,.int .i64 0,.int .i64 0,Value.nilFunc] 115 2 (.head _) rfl;have r3:=hd.at (w.heap.size+1+1) #[.pointer none,.int .i64 0,.int .i64 0,.int .i64 0,Value.nilFunc] 115 3 (.head _) rfl;have r4:=hd.at (w.heap.size+1+1) #[.pointer none,.int .i64 0,.int .i64 0,.int .i64 0,Value.nilFunc] 115 4 (.head _) rfl;have f0:=hd.frz (b:=w.heap.size+1+1) (cs := #[.pointer none,.int .i64 0,.int .i64 0,.int .i64 0,Value.nilFunc]) (t:=115) (.head _) 0;have f1:=hd.frz (b:=w.heap.size+1+1) (cs := #[.pointer none,.int .i64 0,.int .i64 0,.int .i64 0,Value.nilFunc]) (t:=115) (.head _) 1;have f2:=hd.frz (b:=w.heap.size+1+1) (cs := #[.pointer none,.int .i64 0,.int .i64 0,.int .i64 0,Value.nilFunc]) (t:=115) (.head _) 2;have f3:=hd.frz (b:=w.heap.size+1+1) (cs := #[.pointer none,.int .i64 0,.int .i64 0,.int .i64 0,Value.nilFunc]) (t:=115) (.head _) 3;have f4:=hd.frz (b:=w.heap.size+1+1) (cs := #[.pointer none,.int .i64 0,.int .i64 0,.int .i64 0,Value.nilFunc]) (t:=115) (.head _) 4)))
  all_goals
    have HS:=Lib.hid (hd.set5 (ne2 (by omega) (by omega)) (.pointer (some ⟨X.h.g,0,none⟩)) (.int .i64 240) (.int .i64 224) (.int .i64 (o:Int)) (.func (.func 150) #[] #[.pointer (some ⟨w.heap.size+1,0,none⟩)]))
    clear hd c0 c1 c2 c3 r0 r1 r2 r3 r4 f0 f1 f2 f3 f4
    show Exit.then _ _ _ _ (S5 w2 (w.heap.size+1+1) (.pointer (some ⟨X.h.g,0,none⟩)) (.int .i64 240) (.int .i64 224) (.int .i64 (o:Int)) (.func (.func 150) #[] #[.pointer (some ⟨w.heap.size+1,0,none⟩)]))
    rename_i hH
    clear hH
    generalize S5 w2 (w.heap.size+1+1) (.pointer (some ⟨X.h.g,0,none⟩)) (.int .i64 240) (.int .i64 224) (.int .i64 (o:Int)) (.func (.func 150) #[] #[.pointer (some ⟨w.heap.size+1,0,none⟩)])=W3 at HS ⊢
    have q0:=HS.out.at (w.heap.size+1+1) _ _ 0 (List.mem_cons_self ..) rfl
    have q1:=HS.out.at (w.heap.size+1+1) _ _ 1 (List.mem_cons_self ..) rfl
    have q2:=HS.out.at (w.heap.size+1+1) _ _ 2 (List.mem_cons_self ..) rfl
    have q3:=HS.out.at (w.heap.size+1+1) _ _ 3 (List.mem_cons_self ..) rfl
    have q4:=HS.out.at (w.heap.size+1+1) _ _ 4 (List.mem_cons_self ..) rfl
    have HB:=Lib.hid (HS.out.bx (w.heap.size+1,#[.int .i64 at'],3) (.tail _ (.head _)))
    go_wp2
    refine bodyPost_ret (v:=.agg #[.pointer (some ⟨X.h.g,0,none⟩),.int .i64 240,.int .i64 224,.int .i64 (o:Int),.func (.func 150) #[] #[.pointer (some ⟨w.heap.size+1,0,none⟩)]]) (by simp[results,Tryz.results68,go_sem,q0,q1,q2,q3,q4]) rfl ⟨rfl,HS.out.m,HS.out.f,HB.out.1,HB.out.2.1⟩
end
end Go.Proofs.YtmgeiaglandedaaGreatDoor.Ind

namespace Go.Proofs.YtmgeiaglandedaaGreatDoor.Ind
open Go.RowKit Num
open Pro
open Mem (Mm MemC MRet Hm rd blkM)
open Sla (Sl St Lv pl aT pV Lo)
open Arn (wrL is64)
set_option linter.unusedVariables false
set_option maxRecDepth 100000
def slP (o:Option Nat):Nat×Bool:=match o with | some q=>(q,true) | none=>(0,false)
def bkP (K:Nat→Nat) (o:Option Nat):Nat×Bool:=match o with | some q=>(K q,true) | none=>(0,false)
section
variable {X:Fx} {l:List Int} {K K':Nat→Nat} {r r':Value} {w w1 w2 w' W W':World} {e e':Ending} {b x a:Nat} {fv:Value} {Gd:World→Prop} {F:Nat} {cp cs:Array Value} {P:Nat→Bool} {L:List (Nat×Array Value×TypeId)} {t:TypeId}
theorem slot_any (C:IsC X F cp P Gd) (d:Ix X K w) (g:Gd w) (ha:a<224) :
    Calls Tryz.prog 83 #[sV X.h a (.func (.func F) #[] cp)] w (IxR X K (.tuple #[.int .i64 ((slP (slF 224 (hmX X) K a P)).1:Int),.bool (slP (slF 224 (hmX X) K a P)).2]) w):=by
  have hd:=SB.made d g C.keep a (.func (.func F) #[] cp)
  have HSk0:=fun W (hW:Ix X K W) (g:Gd W)=>seek_any (Gd:=Gd) 164 (sV X.h a (.func (.func F) #[] cp)) (fun i=>hit K P i || opb 224 (hmX X) K a i) (enters_of Tryz.func164 (by kernel_rfl) rfl) C.keep (fun i W hi hW g=>ends_any C hW g hi ha) hW g ha
  have hN:sk (fun s=>hit K P (ps 224 a s) || opb 224 (hmX X) K a (ps 224 a s)) 224=enK 224 (hmX X) K a P:=rfl
  unfold sfR at HSk0
  simp only[hN] at HSk0
  obtain⟨c0,c1,c2,c3,c4⟩:=hd.cells
  by_cases hlt:enK 224 (hmX X) K a P<224
  · simp only[if_pos hlt] at HSk0
    have hq:ps 224 a (enK 224 (hmX X) K a P)<224:=ps_lt ha (Nat.le_of_lt hlt)
    have HH:=Lib.hid (fun W (hW:Ix X K W) (g:Gd W)=>holds_any C hW g (a:=a) hq)
    have HSk:=Lib.hid HSk0
    obtain⟨q,hq2⟩:∃ q,q=ps 224 a (enK 224 (hmX X) K a P):=⟨_,rfl⟩
    rw[←hq2] at HH HSk
    cases ho:hit K P (ps 224 a (enK 224 (hmX X) K a P)) with
    | true =>
      have e1:slP (slF 224 (hmX X) K a P)=(q,true):=by unfold slF;rw[if_pos ⟨hlt,ho⟩,hq2];rfl
      rw[e1]
      rw[←hq2] at ho
      rw[ho] at HH
      clear d g C HSk0 hN hq hq2 ho e1
      unfold sV at *
      try unfold tV at *
      unfold pV at *
      go_enter Tryz.func83,Tryz.ntmps83
      go_wp2_with fail
      refine(HSk.out _ hd.m hd.g).mono ?_
      rintro e w2 hq
      obtain rfl:=hq.1
      replace hd:=hd.step hq
      clear hq c0 c1 c2 c3 c4
      obtain⟨c0,c1,c2,c3,c4⟩:=hd.cells
      go_wp2_with fail
      refine(HH.out _ hd.m hd.g).mono ?_
      rintro e w2 hq
      obtain rfl:=hq.1
      replace hd:=hd.step hq
      clear hq c0 c1 c2 c3 c4
      obtain⟨c0,c1,c2,c3,c4⟩:=hd.cells
      have HE:=Lib.hid (hd.done (.tuple #[.int .i64 (q:Int),.bool true]))
      clear hd
      go_wp2
      go_ret2
      exact HE.out
    | false =>
      have e1:slP (slF 224 (hmX X) K a P)=(0,false):=by unfold slF;rw[if_neg (fun h=>by rw[ho] at h;cases h.2)];rfl
      rw[e1]
      rw[←hq2] at ho
      rw[ho] at HH
      clear d g C HSk0 hN hq hq2 ho e1
      unfold sV at *
      try unfold tV at *
      unfold pV at *
      go_enter Tryz.func83,Tryz.ntmps83
      go_wp2_with fail
      refine(HSk.out _ hd.m hd.g).mono ?_
      rintro e w2 hq
      obtain rfl:=hq.1
      replace hd:=hd.step hq
      clear hq c0 c1 c2 c3 c4
      obtain⟨c0,c1,c2,c3,c4⟩:=hd.cells
      go_wp2_with fail
      refine(HH.out _ hd.m hd.g).mono ?_
      rintro e w2 hq
      obtain rfl:=hq.1
      replace hd:=hd.step hq
      clear hq c0 c1 c2 c3 c4
      obtain⟨c0,c1,c2,c3,c4⟩:=hd.cells
      have HE:=Lib.hid (hd.done (.tuple #[.int .i64 0,.bool false]))
      clear hd
      go_wp2
      go_ret2
      exact HE.out
  · simp only[if_neg hlt] at HSk0
    have HSk:=Lib.hid HSk0
    have e1:slP (slF 224 (hmX X) K a P)=(0,false):=by unfold slF;rw[if_neg (fun h=>hlt h.1)];rfl
    rw[e1]
    clear d g C HSk0 hN e1
    unfold sV at *
    try unfold tV at *
    unfold pV at *
    go_enter Tryz.func83,Tryz.ntmps83
    go_wp2_with fail
    refine(HSk.out _ hd.m hd.g).mono ?_
    rintro e w2 hq
    obtain rfl:=hq.1
    replace hd:=hd.step hq
    clear hq c0 c1 c2 c3 c4
    obtain⟨c0,c1,c2,c3,c4⟩:=hd.cells
    have HE:=Lib.hid (hd.done (.tuple #[.int .i64 0,.bool false]))
    clear hd
    go_wp2
    go_ret2
    exact HE.out
theorem block_any (C:IsC X F cp P Gd) (d:Ix X K w) (g:Gd w) (ha:a<224) :
    Calls Tryz.prog 135 #[sV X.h a (.func (.func F) #[] cp)] w (IxR X K (.tuple #[.int .i64 ((bkP K (slF 224 (hmX X) K a P)).1:Int),.bool (bkP K (slF 224 (hmX X) K a P)).2]) w):=by
  have hd:=SB.made d g C.keep a (.func (.func F) #[] cp)
  have HS:=Lib.hid (fun W (hW:Ix X K W) (g:Gd W)=>slot_any C hW g (a:=a) ha)
  obtain⟨c0,c1,c2,c3,c4⟩:=hd.cells
  cases ho:slF 224 (hmX X) K a P with
  | none =>
    rw[ho] at HS
    simp only[slP,bkP] at HS ⊢
    clear d g C ho
    unfold sV at *
    try unfold tV at *
    unfold pV at *
    go_enter Tryz.func135,Tryz.ntmps135
    go_wp2_with fail
    refine(HS.out _ hd.m hd.g).mono ?_
    rintro e w2 hq
    obtain rfl:=hq.1
    replace hd:=hd.step hq
    clear hq c0 c1 c2 c3 c4
    obtain⟨c0,c1,c2,c3,c4⟩:=hd.cells
    have HE:=Lib.hid (hd.done (.tuple #[.int .i64 0,.bool false]))
    clear hd
    go_wp2
    go_ret2
    exact HE.out
  | some q =>
    obtain⟨h1,h2,h3⟩:=slF_some ha ho
    rw[ho] at HS
    simp only[slP,bkP] at HS ⊢
    have HH:=Lib.hid (fun W (hW:Ix X K W)=>held_any hW h1)
    generalize (K q:Int)=y at HH ⊢
    clear d g C ho h2 h3
    unfold sV at *
    try unfold tV at *
    unfold pV at *
    go_enter Tryz.func135,Tryz.ntmps135
    go_wp2_with fail
    refine(HS.out _ hd.m hd.g).mono ?_
    rintro e w2 hq
    obtain rfl:=hq.1
    replace hd:=hd.step hq
    clear hq c0 c1 c2 c3 c4
    obtain⟨c0,c1,c2,c3,c4⟩:=hd.cells
    go_wp2_with fail
    refine(HH.out _ hd.m).mono ?_
    rintro e w2 hq
    obtain rfl:=hq.1
    replace hd:=hd.step hq
    clear hq c0 c1 c2 c3 c4
    obtain⟨c0,c1,c2,c3,c4⟩:=hd.cells
    have HE:=Lib.hid (hd.done (.tuple #[.int .i64 y,.bool true]))
    clear hd
    go_wp2
    go_ret2
    exact HE.out
theorem isC_block (X:Fx) (b:Nat) (at':Int) (hb:¬ blkM X.h b):IsC X 150 #[.pointer (some ⟨b,0,none⟩)] (fun p=>decide ((p:Int)=at')) (fun W=>W.heap[b]? = some (.cells #[.int .i64 at'] 3 (0,0))) :=
  ⟨enters_of Tryz.func150 (by kernel_rfl) rfl,fun W W' h hf=>(hf.block b (Array.getElem?_eq_some_iff.1 h).1 hb).trans h,fun K W x hx hW h=>(hash1_any W h).mono fun e w' q=>⟨q.1,q.2 ▸ hW,q.2 ▸ Fr.refl _ _ _⟩⟩
theorem Place_any (at':Int) (y:Nat) (hy:y<4294967296) (HH0:∀ W,Ix X K W→Calls Tryz.prog 84 #[tV X.h,.int .i64 at'] W (IxR X K (.int .u32 (y:Int)) W)) (d:Ix X K w) :
    Calls Tryz.prog 36 #[pV X.h,.int .i64 at'] w (IxR X K (.tuple #[.int .i64 ((slP (slF 224 (hmX X) K (y % 224) (fun p=>decide ((p:Int)=at')))).1:Int),.bool (slP (slF 224 (hmX X) K (y % 224) (fun p=>decide ((p:Int)=at')))).2]) w):=by
  have HT:=Lib.hid (fun W (hW:Ix X K W)=>slots_any hW)
  have HB:=Lib.hid (fun W (hW:Ix X K W)=>forBlock_any at' y hy HH0 hW)
  have HS:=Lib.hid (fun W b (hb:¬ blkM X.h b) (h:W.heap[b]? = some (.cells #[.int .i64 at'] 3 (0,0))) (hW:Ix X K W)=>slot_any (isC_block X b at' hb) hW h (a:=y % 224) (Nat.mod_lt _ (by omega)))
  generalize (slP (slF 224 (hmX X) K (y % 224) (fun p=>decide ((p:Int)=at'))))=R at HS ⊢
  generalize y % 224=o at HB HS
  have HD:=Lib.hid d
  clear d HH0 hy
  try unfold sV tV at *
  unfold pV at *
  go_enter Tryz.func36,Tryz.ntmps36
  go_wp2_with fail
  refine(HT.out _ HD.out).mono ?_
  rintro e w1 hq1
  obtain rfl:=hq1.1
  go_wp2_with fail
  refine(HB.out _ hq1.2.1).mono ?_
  rintro e w2 ⟨rfl,hm2,hf2,hb2,hn2⟩
  have hr2:IxR X K (.bool true) w (.returned (.bool true)) w2:=(hq1.ret (.bool true)).then ⟨rfl,hm2,hf2⟩
  have HR2:=Lib.hid hr2
  have HS2:=Lib.hid (HS.out w2 _ hn2 hb2 hm2)
  clear hr2 hm2 hf2 hb2 hn2 hq1 HT HB HD HS
  go_wp2_with fail
  refine HS2.out.mono ?_
  rintro e w3 hq
  obtain rfl:=hq.1
  have HE:=Lib.hid (HR2.out.then hq)
  clear hq HS2 HR2
  go_wp2
  go_ret2
  exact HE.out
end
end Go.Proofs.YtmgeiaglandedaaGreatDoor.Ind

namespace Go.Proofs.YtmgeiaglandedaaGreatDoor.Ind
open Go.RowKit Num
open Pro
open Mem (Mm MemC MRet Hm rd blkM)
open Sla (Sl St Lv pl aT pV Lo)
open Arn (wrL is64)
set_option linter.unusedVariables false
set_option maxRecDepth 100000
abbrev tC (X:Fx):Array Value := #[.pointer (some ⟨X.h.g,0,none⟩),.int .i64 240,.int .i64 224]
abbrev sC (X:Fx) (o:Nat) (bA:Nat):Array Value := #[.pointer (some ⟨X.h.g,0,none⟩),.int .i64 240,.int .i64 224,.int .i64 (o:Int),.func (.func 150) #[] #[.pointer (some ⟨bA,0,none⟩)]]
abbrev isP (at':Int):Nat→Bool:=fun p=>decide ((p:Int)=at')
section
variable {X:Fx} {l:List Int} {K K':Nat→Nat} {r r':Value} {w w1 w2 w' W W':World} {e e':Ending} {b x a:Nat} {fv:Value} {Gd:World→Prop} {F:Nat} {cp cs:Array Value} {P:Nat→Bool} {L:List (Nat×Array Value×TypeId)} {t:TypeId}
theorem MB.add (d:MB X K w L W) (h1:W.heap[b]? = some (.cells cs t (0,0))) (h2:¬ blkM X.h b) (h3:w.heap.size≤b):MB X K w ((b,cs,t)::L) W:=by
  refine⟨d.m,fun p hp=>?_,d.f,d.lo⟩
  rcases List.mem_cons.1 hp with rfl | hp
  · exact⟨h1,h2,h3⟩
  · exact d.bx p hp
theorem MB.tcells (d:MB X K w L W) (hp:(b,tC X,110)∈L):W.cell? ⟨b,0,none⟩=some (.pointer (some ⟨X.h.g,0,none⟩))∧W.cell? ⟨b,1,none⟩=some (.int .i64 240)∧W.cell? ⟨b,2,none⟩=some (.int .i64 224):=⟨d.cell hp 0,d.cell hp 1,d.cell hp 2⟩
theorem MB.scells {o bA:Nat} (d:MB X K w L W) (hp:(b,sC X o bA,115)∈L):W.cell? ⟨b,0,none⟩=some (.pointer (some ⟨X.h.g,0,none⟩))∧W.cell? ⟨b,1,none⟩=some (.int .i64 240)∧W.cell? ⟨b,2,none⟩=some (.int .i64 224)∧W.cell? ⟨b,3,none⟩=some (.int .i64 (o:Int))∧W.cell? ⟨b,4,none⟩=some (.func (.func 150) #[] #[.pointer (some ⟨bA,0,none⟩)]):=⟨d.cell hp 0,d.cell hp 1,d.cell hp 2,d.cell hp 3,d.cell hp 4⟩
theorem seekHolds {o bA:Nat} {at':Int} (hbA:¬ blkM X.h bA) (d:Ix X K w) (hb:w.heap[bA]? = some (.cells #[.int .i64 at'] 3 (0,0))) (ho:o<224) :
    Calls Tryz.prog 69 #[tV X.h,.int .i64 (o:Int),.func (.func 70) #[sV X.h o (isV bA)] #[]] w (IxR X K (.tuple #[.int .i64 ((sfR (hit K (isP at')) o).1:Int),.bool (sfR (hit K (isP at')) o).2]) w) :=
  seek_any (Gd:=fun W=>W.heap[bA]? = some (.cells #[.int .i64 at'] 3 (0,0))) 70 (sV X.h o (isV bA)) (hit K (isP at')) (enters_of Tryz.func70 (by kernel_rfl) rfl) (isC_block X bA at' hbA).keep (fun i W hi hW h=>holds_any (isC_block X bA at' hbA) hW h hi) d hb ho
theorem seekEmpty {o:Nat} (d:Ix X K w) (ho:o<224) :
    Calls Tryz.prog 69 #[tV X.h,.int .i64 (o:Int),.func (.func 75) #[tV X.h] #[]] w (IxR X K (.tuple #[.int .i64 ((sfR (fun i=>decide (K i=0)) o).1:Int),.bool (sfR (fun i=>decide (K i=0)) o).2]) w) :=
  seek_any (Gd:=fun _=>True) 75 (tV X.h) (fun i=>decide (K i=0)) (enters_of Tryz.func75 (by kernel_rfl) rfl) (fun _ _ _ _=>trivial) (fun i W hi hW _=>empty_any hW hi) d trivial ho
theorem seekOpen {o:Nat} (fv:Value) (d:Ix X K w) (ho:o<224) :
    Calls Tryz.prog 69 #[tV X.h,.int .i64 (o:Int),.func (.func 76) #[sV X.h o fv] #[]] w (IxR X K (.tuple #[.int .i64 ((sfR (opb 224 (hmX X) K o) o).1:Int),.bool (sfR (opb 224 (hmX X) K o) o).2]) w) :=
  seek_any (Gd:=fun _=>True) 76 (sV X.h o fv) (opb 224 (hmX X) K o) (enters_of Tryz.func76 (by kernel_rfl) rfl) (fun _ _ _ _=>trivial) (fun i W hi hW _=>open_any hW trivial (fun _ _ _ _=>trivial) hi ho fv) d trivial ho
theorem sfR_yes {T:Nat→Bool} {o i:Nat} (ho:o<224) (hi:i<224) (h:T i=true):(sfR T o).2=true∧(sfR T o).1=ps 224 o (sk (fun s=>T (ps 224 o s)) 224)∧sk (fun s=>T (ps 224 o s)) 224<224:=by
  have h1:sk (fun s=>T (ps 224 o s)) 224≤off 224 o i:=sk_lt (off_lt ho hi) (by rw[ps_off ho hi];exact h)
  have h2:=off_lt ho hi
  unfold sfR
  rw[if_pos (by omega)]
  exact⟨rfl,rfl,by omega⟩
theorem sfR_no {T:Nat→Bool} {o:Nat} (ho:o<224) (h:∀ i,i<224→T i=false):sfR T o=(0,false):=by
  unfold sfR
  rw[if_neg]
  intro q
  have:=sk_yes (P:=fun s=>T (ps 224 o s)) (n:=224) q
  rw[h _ (ps_lt ho (Nat.le_of_lt q))] at this
  cases this
theorem sfR_at (O:Ok 224 (hmX X) K) {o i:Nat} (ho:o<224) (hi:i<224) (hx:x≠0) (h:K i=x):sfR (hit K (isP (x:Int))) o=(i,true):=by
  have hT:hit K (isP (x:Int)) i=true:=by unfold hit isP;simp[h,hx]
  obtain⟨h1,h2,h3⟩:=sfR_yes ho hi hT
  have h4:=sk_yes (P:=fun s=>hit K (isP (x:Int)) (ps 224 o s)) (n:=224) h3
  have h5:hit K (isP (x:Int)) (ps 224 o (sk (fun s=>hit K (isP (x:Int)) (ps 224 o s)) 224))=true:=h4
  unfold hit isP at h5
  rw[Bool.and_eq_true,decide_eq_true_eq,decide_eq_true_eq] at h5
  have h6:=O.one (ps_lt ho (Nat.le_of_lt h3)) hi h5.1 (by have:=h5.2;rw[h];unfold hit isP;omega)
  rw[←Prod.eta (sfR (hit K (isP (x:Int))) o),h1,h2]
  unfold hit isP at *
  rw[h6]
theorem sfR_none {o:Nat} {at':Int} (ho:o<224) (h:∀ i,i<224→(K i:Int)≠at'):sfR (hit K (isP at')) o=(0,false) :=
  sfR_no ho fun i hi=>by unfold hit isP;simp[h i hi]
end
end Go.Proofs.YtmgeiaglandedaaGreatDoor.Ind

namespace Go.Proofs.YtmgeiaglandedaaGreatDoor.Ind
open Go.RowKit Num
open Pro
open Mem (Mm MemC MRet Hm rd blkM)
open Sla (Sl St Lv pl aT pV Lo)
open Arn (wrL is64)
set_option linter.unusedVariables false
set_option maxRecDepth 100000
section
variable {X:Fx} {l:List Int} {K K':Nat→Nat} {r r':Value} {w w1 w2 w' W W':World} {e e':Ending} {b x a:Nat} {fv:Value} {Gd:World→Prop} {F:Nat} {cp cs:Array Value} {P:Nat→Bool} {L:List (Nat×Array Value×TypeId)} {t:TypeId}
def keyV (b:Bk):Value:=.agg #[.int .i64 b.tag,.int .u32 (b.name:Int),.int .u16 (b.typ:Int),.int .u32 (b.hash:Int)]
set_option maxHeartbeats 2000000 in
theorem key_any (d:Ix X K w) (hx:x∈X.E):Calls Tryz.prog 132 #[tV X.h,.int .i64 (x:Int)] w (IxR X K (keyV (X.B x)) w):=by
  obtain⟨h1,h2,h3,-,-,-⟩:=d.ok hx
  have hg:=tag_is (X.B x)
  have HT:=Lib.hid (fun W (hW:Ix X K W)=>tag_any hW hx)
  have HL:Hid (∀ W (z:Int),z=4→Ix X K W→Calls Tryz.prog 165 #[pV X.h,.int .i64 (x:Int),.int .i64 z] W (IxR X K (.int .u64 ((X.B x).name:Int)) W)):=fun W z hz hW=>hz ▸ hW.fld hx (f:=4) (by simp)
  have HM:Hid (∀ W (z:Int),z=8→Ix X K W→Calls Tryz.prog 165 #[pV X.h,.int .i64 (x:Int),.int .i64 z] W (IxR X K (.int .u64 ((X.B x).typ:Int)) W)):=fun W z hz hW=>hz ▸ hW.fld hx (f:=8) (by simp)
  have HN:Hid (∀ W (z:Int),z=10→Ix X K W→Calls Tryz.prog 165 #[pV X.h,.int .i64 (x:Int),.int .i64 z] W (IxR X K (.int .u64 ((X.B x).hash:Int)) W)):=fun W z hz hW=>hz ▸ hW.fld hx (f:=10) (by simp)
  unfold keyV
  generalize (X.B x).tag=g at *
  have hg0:(g == 0)=false:=by simp;omega
  obtain⟨y1,e1⟩:∃ z:Int,z=((X.B x).name:Int):=⟨_,rfl⟩
  obtain⟨y2,e2⟩:∃ z:Int,z=((X.B x).typ:Int):=⟨_,rfl⟩
  obtain⟨y3,e3⟩:∃ z:Int,z=((X.B x).hash:Int):=⟨_,rfl⟩
  rw[←e1,←e2,←e3]
  rw[←e1] at HL
  rw[←e2] at HM
  rw[←e3] at HN
  have a1:0≤y1:=by omega
  have a2:y1<4294967296:=by omega
  have a3:0≤y2:=by omega
  have a4:y2<65536:=by omega
  have a5:0≤y3:=by omega
  have a6:y3<4294967296:=by omega
  have u1:IntKind.u32.wrap y1=y1:=by simp[IntKind.wrap,IntKind.bits,IntKind.signed];omega
  have u2:IntKind.u16.wrap y2=y2:=by simp[IntKind.wrap,IntKind.bits,IntKind.signed];omega
  have u3:IntKind.u32.wrap y3=y3:=by simp[IntKind.wrap,IntKind.bits,IntKind.signed];omega
  obtain⟨w0,hw0⟩:∃ w0,w0=(w.alloc (.cells (tC X) 110)).alloc (.cells #[.int .i64 0,.int .u32 0,.int .u16 0,.int .u32 0] 167):=⟨_,rfl⟩
  have hd:MB X K w [(w.heap.size+1,#[.int .i64 0,.int .u32 0,.int .u16 0,.int .u32 0],167),(w.heap.size,tC X,110)] w0:=by
    have:=((MB.start d).push (tC X) 110).push #[.int .i64 0,.int .u32 0,.int .u16 0,.int .u32 0] 167
    rw[size_al] at this
    rw[hw0]
    exact this
  have c0:=hd.at w.heap.size (tC X) 110 0 (.tail _ (.head _)) rfl
  have c1:=hd.at w.heap.size (tC X) 110 1 (.tail _ (.head _)) rfl
  have c2:=hd.at w.heap.size (tC X) 110 2 (.tail _ (.head _)) rfl
  have r0:=hd.at (w.heap.size+1) #[.int .i64 0,.int .u32 0,.int .u16 0,.int .u32 0] 167 0 (.head _) rfl
  have r1:=hd.at (w.heap.size+1) #[.int .i64 0,.int .u32 0,.int .u16 0,.int .u32 0] 167 1 (.head _) rfl
  have r2:=hd.at (w.heap.size+1) #[.int .i64 0,.int .u32 0,.int .u16 0,.int .u32 0] 167 2 (.head _) rfl
  have r3:=hd.at (w.heap.size+1) #[.int .i64 0,.int .u32 0,.int .u16 0,.int .u32 0] 167 3 (.head _) rfl
  have f0:=hd.frz (b:=w.heap.size+1) (cs := #[.int .i64 0,.int .u32 0,.int .u16 0,.int .u32 0]) (t:=167) (.head _) 0
  have f1:=hd.frz (b:=w.heap.size+1) (cs := #[.int .i64 0,.int .u32 0,.int .u16 0,.int .u32 0]) (t:=167) (.head _) 1
  have f2:=hd.frz (b:=w.heap.size+1) (cs := #[.int .i64 0,.int .u32 0,.int .u16 0,.int .u32 0]) (t:=167) (.head _) 2
  have f3:=hd.frz (b:=w.heap.size+1) (cs := #[.int .i64 0,.int .u32 0,.int .u16 0,.int .u32 0]) (t:=167) (.head _) 3
  unfold tC at hw0
  clear d hx hg h1 h2 h3 e1 e2 e3
  try unfold tV at *
  unfold pV at *
  go_enter Tryz.func132,Tryz.ntmps132
  go_wp2_with fail
  rw[←hw0]
  clear hw0
  refine(HT.out _ hd.m).mono ?_
  rintro e w1 hq
  obtain rfl:=hq.1
  replace hd:=hd.step hq
  clear hq c0 c1 c2 r0 r1 r2 r3 f0 f1 f2 f3 HT
  have c0:=hd.at w.heap.size (tC X) 110 0 (.tail _ (.head _)) rfl
  have c1:=hd.at w.heap.size (tC X) 110 1 (.tail _ (.head _)) rfl
  have c2:=hd.at w.heap.size (tC X) 110 2 (.tail _ (.head _)) rfl
  have r0:=hd.at (w.heap.size+1) #[.int .i64 0,.int .u32 0,.int .u16 0,.int .u32 0] 167 0 (.head _) rfl
  have r1:=hd.at (w.heap.size+1) #[.int .i64 0,.int .u32 0,.int .u16 0,.int .u32 0] 167 1 (.head _) rfl
  have r2:=hd.at (w.heap.size+1) #[.int .i64 0,.int .u32 0,.int .u16 0,.int .u32 0] 167 2 (.head _) rfl
  have r3:=hd.at (w.heap.size+1) #[.int .i64 0,.int .u32 0,.int .u16 0,.int .u32 0] 167 3 (.head _) rfl
  have f0:=hd.frz (b:=w.heap.size+1) (cs := #[.int .i64 0,.int .u32 0,.int .u16 0,.int .u32 0]) (t:=167) (.head _) 0
  have f1:=hd.frz (b:=w.heap.size+1) (cs := #[.int .i64 0,.int .u32 0,.int .u16 0,.int .u32 0]) (t:=167) (.head _) 1
  have f2:=hd.frz (b:=w.heap.size+1) (cs := #[.int .i64 0,.int .u32 0,.int .u16 0,.int .u32 0]) (t:=167) (.head _) 2
  have f3:=hd.frz (b:=w.heap.size+1) (cs := #[.int .i64 0,.int .u32 0,.int .u16 0,.int .u32 0]) (t:=167) (.head _) 3
  go_wp2_with fail
  go_region_held3 (fun w'=>w'.cell? ⟨w.heap.size,0,none⟩=some (.pointer (some ⟨X.h.g,0,none⟩))∧w'.cell? ⟨w.heap.size,1,none⟩=some (.int .i64 240)∧w'.cell? ⟨w.heap.size,2,none⟩=some (.int .i64 224)) (first | with_reducible exact⟨c0,c1,c2⟩ | (refine⟨?_,?_,?_⟩<;>(repeat rw[World.cell?_setCell_other _ _ _ _ (ad_ne (by omega))])<;>(first | exact c0 | exact c1 | exact c2)) | go_keep) ((first | (go_at_call 165;refine(HL.out _ _ (by with_reducible rfl) (by first | exact hd.m | exact hd.m.drew)).mono ?_;rintro e w2 hq;obtain rfl:=hq.1;replace hd:=(by first | exact hd.step hq | exact hd.drew.step hq);clear hq c0 c1 c2 r0 r1 r2 r3 f0 f1 f2 f3;have c0:=hd.at w.heap.size (tC X) 110 0 (.tail _ (.head _)) rfl;have c1:=hd.at w.heap.size (tC X) 110 1 (.tail _ (.head _)) rfl;have c2:=hd.at w.heap.size (tC X) 110 2 (.tail _ (.head _)) rfl;have r0:=hd.at (w.heap.size+1) #[.int .i64 0,.int .u32 0,.int .u16 0,.int .u32 0] 167 0 (.head _) rfl;have r1:=hd.at (w.heap.size+1) #[.int .i64 0,.int .u32 0,.int .u16 0,.int .u32 0] 167 1 (.head _) rfl;have r2:=hd.at (w.heap.size+1) #[.int .i64 0,.int .u32 0,.int .u16 0,.int .u32 0] 167 2 (.head _) rfl;have r3:=hd.at (w.heap.size+1) #[.int .i64 0,.int .u32 0,.int .u16 0,.int .u32 0] 167 3 (.head _) rfl;have f0:=hd.frz (b:=w.heap.size+1) (cs := #[.int .i64 0,.int .u32 0,.int .u16 0,.int .u32 0]) (t:=167) (.head _) 0;have f1:=hd.frz (b:=w.heap.size+1) (cs := #[.int .i64 0,.int .u32 0,.int .u16 0,.int .u32 0]) (t:=167) (.head _) 1;have f2:=hd.frz (b:=w.heap.size+1) (cs := #[.int .i64 0,.int .u32 0,.int .u16 0,.int .u32 0]) (t:=167) (.head _) 2;have f3:=hd.frz (b:=w.heap.size+1) (cs := #[.int .i64 0,.int .u32 0,.int .u16 0,.int .u32 0]) (t:=167) (.head _) 3) | (go_at_call 165;refine(HM.out _ _ (by with_reducible rfl) (by first | exact hd.m | exact hd.m.drew)).mono ?_;rintro e w2 hq;obtain rfl:=hq.1;replace hd:=(by first | exact hd.step hq | exact hd.drew.step hq);clear hq c0 c1 c2 r0 r1 r2 r3 f0 f1 f2 f3;have c0:=hd.at w.heap.size (tC X) 110 0 (.tail _ (.head _)) rfl;have c1:=hd.at w.heap.size (tC X) 110 1 (.tail _ (.head _)) rfl;have c2:=hd.at w.heap.size (tC X) 110 2 (.tail _ (.head _)) rfl;have r0:=hd.at (w.heap.size+1) #[.int .i64 0,.int .u32 0,.int .u16 0,.int .u32 0] 167 0 (.head _) rfl;have r1:=hd.at (w.heap.size+1) #[.int .i64 0,.int .u32 0,.int .u16 0,.int .u32 0] 167 1 (.head _) rfl;have r2:=hd.at (w.heap.size+1) #[.int .i64 0,.int .u32 0,.int .u16 0,.int .u32 0] 167 2 (.head _) rfl;have r3:=hd.at (w.heap.size+1) #[.int .i64 0,.int .u32 0,.int .u16 0,.int .u32 0] 167 3 (.head _) rfl;have f0:=hd.frz (b:=w.heap.size+1) (cs := #[.int .i64 0,.int .u32 0,.int .u16 0,.int .u32 0]) (t:=167) (.head _) 0;have f1:=hd.frz (b:=w.heap.size+1) (cs := #[.int .i64 0,.int .u32 0,.int .u16 0,.int .u32 0]) (t:=167) (.head _) 1;have f2:=hd.frz (b:=w.heap.size+1) (cs := #[.int .i64 0,.int .u32 0,.int .u16 0,.int .u32 0]) (t:=167) (.head _) 2;have f3:=hd.frz (b:=w.heap.size+1) (cs := #[.int .i64 0,.int .u32 0,.int .u16 0,.int .u32 0]) (t:=167) (.head _) 3) | (go_at_call 165;refine(HN.out _ _ (by with_reducible rfl) (by first | exact hd.m | exact hd.m.drew)).mono ?_;rintro e w2 hq;obtain rfl:=hq.1;replace hd:=(by first | exact hd.step hq | exact hd.drew.step hq);clear hq c0 c1 c2 r0 r1 r2 r3 f0 f1 f2 f3;have c0:=hd.at w.heap.size (tC X) 110 0 (.tail _ (.head _)) rfl;have c1:=hd.at w.heap.size (tC X) 110 1 (.tail _ (.head _)) rfl;have c2:=hd.at w.heap.size (tC X) 110 2 (.tail _ (.head _)) rfl;have r0:=hd.at (w.heap.size+1) #[.int .i64 0,.int .u32 0,.int .u16 0,.int .u32 0] 167 0 (.head _) rfl;have r1:=hd.at (w.heap.size+1) #[.int .i64 0,.int .u32 0,.int .u16 0,.int .u32 0] 167 1 (.head _) rfl;have r2:=hd.at (w.heap.size+1) #[.int .i64 0,.int .u32 0,.int .u16 0,.int .u32 0] 167 2 (.head _) rfl;have r3:=hd.at (w.heap.size+1) #[.int .i64 0,.int .u32 0,.int .u16 0,.int .u32 0] 167 3 (.head _) rfl;have f0:=hd.frz (b:=w.heap.size+1) (cs := #[.int .i64 0,.int .u32 0,.int .u16 0,.int .u32 0]) (t:=167) (.head _) 0;have f1:=hd.frz (b:=w.heap.size+1) (cs := #[.int .i64 0,.int .u32 0,.int .u16 0,.int .u32 0]) (t:=167) (.head _) 1;have f2:=hd.frz (b:=w.heap.size+1) (cs := #[.int .i64 0,.int .u32 0,.int .u16 0,.int .u32 0]) (t:=167) (.head _) 2;have f3:=hd.frz (b:=w.heap.size+1) (cs := #[.int .i64 0,.int .u32 0,.int .u16 0,.int .u32 0]) (t:=167) (.head _) 3)))
  all_goals
    have HS:=Lib.hid (hd.set4 (ne1 (by omega)) (.int .i64 g) (.int .u32 y1) (.int .u16 y2) (.int .u32 y3))
    clear hd c0 c1 c2 r0 r1 r2 r3 f0 f1 f2 f3
    show Exit.then _ _ _ _ (S4 w2 (w.heap.size+1) (.int .i64 g) (.int .u32 y1) (.int .u16 y2) (.int .u32 y3))
    rename_i hH
    clear hH
    generalize S4 w2 (w.heap.size+1) (.int .i64 g) (.int .u32 y1) (.int .u16 y2) (.int .u32 y3)=W3 at HS ⊢
    have q0:=HS.out.at (w.heap.size+1) _ _ 0 (List.mem_cons_self ..) rfl
    have q1:=HS.out.at (w.heap.size+1) _ _ 1 (List.mem_cons_self ..) rfl
    have q2:=HS.out.at (w.heap.size+1) _ _ 2 (List.mem_cons_self ..) rfl
    have q3:=HS.out.at (w.heap.size+1) _ _ 3 (List.mem_cons_self ..) rfl
    go_wp2
    refine bodyPost_ret (v:=.agg #[.int .i64 g,.int .u32 y1,.int .u16 y2,.int .u32 y3]) (by simp[results,Tryz.results132,go_sem,q0,q1,q2,q3]) rfl (HS.out.done _)
theorem eqK_run (a b c d a' b' c' d':Int) (w:World):(Op.equalIn 10000 167 (.agg #[.int .i64 a,.int .u32 b,.int .u16 c,.int .u32 d]) (.agg #[.int .i64 a',.int .u32 b',.int .u16 c',.int .u32 d'])).run Tryz.prog w = .ok (decide (a=a'∧b=b'∧c=c'∧d=d')) w:=by
  rw[show (10000:Nat)=9999+1 from rfl,run_equalIn_struct w 9999 167 _ _ (by kernel_rfl) (by kernel_rfl)]
  go_simp
  by_cases h0:a=a'
  case neg=>simp[h0]
  subst h0
  by_cases h1:b=b'
  case neg=>simp[h1]
  subst h1
  by_cases h2:c=c'
  case neg=>simp[h2]
  subst h2
  by_cases h3:d=d'
  case neg=>simp[h3]
  subst h3
  simp
structure EG (X:Fx) (bT bK:Nat) (a b c d:Int) (W:World):Prop where
  t:W.heap[bT]? = some (.cells (tC X) 110 (0,0))
  k:W.heap[bK]? = some (.cells #[.int .i64 a,.int .u32 b,.int .u16 c,.int .u32 d] 167 (0,0))
theorem EG.keep {bT bK:Nat} {a b c d:Int} (n1:¬ blkM X.h bT) (n2:¬ blkM X.h bK) (h:EG X bT bK a b c d W) (hf:Fr W.heap.size (blkM X.h) W W'):EG X bT bK a b c d W' :=
  ⟨(hf.block bT (Array.getElem?_eq_some_iff.1 h.t).1 n1).trans h.t,(hf.block bK (Array.getElem?_eq_some_iff.1 h.k).1 n2).trans h.k⟩
structure EM (X:Fx) (K:Nat→Nat) (w:World) (Gd:World→Prop) (W:World):Prop where
  m:Ix X K W
  g:Gd W
  f:Fr w.heap.size (blkM X.h) w W
  k:∀ W W',Gd W→Fr W.heap.size (blkM X.h) W W'→Gd W'
theorem EM.step (d:EM X K w Gd W) (hr:IxR X K r W e W'):EM X K w Gd W':=⟨hr.2.1,d.k _ _ d.g hr.2.2,d.f.trans (hr.2.2.mono d.f.size (fun _ _ q=>q)),d.k⟩
theorem EM.drew (d:EM X K w Gd W):EM X K w Gd W.drew:=d.step (d.m.only (Below.refl _ _).drew (.bool true))
theorem EM.done (d:EM X K w Gd W) (r:Value):IxR X K r w (.returned r) W:=⟨rfl,d.m,d.f⟩
end
end Go.Proofs.YtmgeiaglandedaaGreatDoor.Ind

namespace Go.Proofs.YtmgeiaglandedaaGreatDoor.Ind
open Go.RowKit Num
open Pro
open Mem (Mm MemC MRet Hm rd blkM)
open Sla (Sl St Lv pl aT pV Lo)
open Arn (wrL is64)
set_option linter.unusedVariables false
set_option maxRecDepth 100000
section
variable {X:Fx} {l:List Int} {K K':Nat→Nat} {r r':Value} {w w1 w2 w' W W':World} {e e':Ending} {x:Nat} {fv:Value} {Gd:World→Prop} {F:Nat} {cp cs:Array Value} {P:Nat→Bool} {L:List (Nat×Array Value×TypeId)} {t:TypeId}
theorem str_eqB (s t:ByteArray):(s.toList == t.toList)=decide (s=t):=by
  rw[Bool.eq_iff_iff,beq_iff_eq,decide_eq_true_eq]
  constructor
  · intro h
    have h2:=congrArg List.toArray h
    cases s;cases t
    simp[ByteArray.toList_eq] at h2 ⊢
    exact h2
  · rintro rfl;rfl
theorem Ix.labBytes (d:Ix X K w) (hx:x∈X.E) (hn:(X.B x).node=true):∀ i,0≤(X.B x).lab.getD i 0∧(X.B x).lab.getD i 0<256:=by
  obtain⟨l,h1,h2⟩:=d
  have e:=(h1.bk x hx).lab.resolve_right (by rw[hn];decide)
  rw[←e]
  exact fun i=>Arn.part_bytes _ _ (Rin.st_bytes h1.st) i
theorem labelled_any (d:Ix X K w) (hx:x∈X.E) (hn:(X.B x).node=true) (s:ByteArray):Calls Tryz.prog 133 #[tV X.h,.int .i64 (x:Int),.string s] w (IxR X K (.bool (decide ((X.B x).lab=bs s))) w):=by
  have hd:=TB.made d
  have hfx:=d.facts hx
  obtain⟨h63,h16⟩:=(d.ok hx).lab
  have hby:=d.labBytes hx hn
  have HL:Hid (∀ W,Ix X K W→Calls Tryz.prog 165 #[pV X.h,.int .i64 (x:Int),.int .i64 3] W (IxR X K (.int .u64 ((X.B x).lab.length:Int)) W)):=fun W hW=>hW.fld hx (f:=3) (by simp)
  have HK:=Lib.hid (fun W (hW:Ix X K W)=>hW.liveRC hx (n:=16+(X.B x).lab.length) (by omega) h16)
  have HR:=Lib.hid (fun W (hW:Ix X K W)=>hW.label hx hn)
  have HSS:Hid (∀ W u,Row .u8 W u (X.B x).lab→(convert 51 9 u).run Tryz.prog W = .ok (.string (strOfNums (X.B x).lab)) W):=fun W u hr=>hr.string (P:=Tryz.prog) 51 9 5 Tryz.underlying51 Tryz.underlying5 Tryz.underlying9
  have ho:((strOfNums (X.B x).lab).toList == s.toList)=decide ((X.B x).lab=bs s):=by
    rw[str_eqB,Bool.eq_iff_iff,decide_eq_true_eq,decide_eq_true_eq]
    constructor
    · intro h;rw[←h,bs_strOfNums _ hby]
    · intro h;rw[h,strOfNums_bs]
  obtain⟨o,hoo⟩:∃ o,o=decide ((X.B x).lab=bs s):=⟨_,rfl⟩
  rw[←hoo] at ho ⊢
  obtain⟨n,en⟩:∃ n:Int,n=((X.B x).lab.length:Int):=⟨_,rfl⟩
  obtain⟨na,ena⟩:∃ n:Int,n=((16+(X.B x).lab.length:Nat):Int):=⟨_,rfl⟩
  obtain⟨xa,exa⟩:∃ n:Int,n=((x+16:Nat):Int):=⟨_,rfl⟩
  rw[←en] at HL HR
  rw[←ena] at HK
  rw[←exa] at HR
  have n0:0≤n:=by omega
  have n1:n≤63:=by omega
  have w1':IntKind.i64.wrap n=n:=Ind.wrap_id (by omega) (by omega)
  have w2':IntKind.i64.wrap (16+n)=na:=(Ind.wrap_id (by omega) (by omega)).trans (by omega)
  have w3':IntKind.i64.wrap ((x:Int)+16)=xa:=(Ind.wrap_id (by omega) (by omega)).trans (by omega)
  generalize (X.B x).lab=lb at *
  obtain⟨st,est⟩:∃ st,st=strOfNums lb:=⟨_,rfl⟩
  rw[←est] at HSS ho
  obtain⟨c0,c1,c2⟩:=hd.cells
  clear d hx hfx h16 hby hn hoo en ena exa est
  try unfold tV at *
  unfold pV at *
  go_enter Tryz.func133,Tryz.ntmps133
  go_wp2_with fail
  refine(HL.out _ hd.m).mono ?_
  rintro e w2 hq
  obtain rfl:=hq.1
  replace hd:=hd.step hq
  clear hq c0 c1 c2
  obtain⟨c0,c1,c2⟩:=hd.cells
  go_wp2_with fail
  refine(HK.out _ hd.m).mono ?_
  rintro e w2 hq
  obtain rfl:=hq.1
  replace hd:=hd.step hq
  clear hq c0 c1 c2
  obtain⟨c0,c1,c2⟩:=hd.cells
  go_wp2_with fail
  refine(HR.out _ hd.m).mono ?_
  rintro e w3 ⟨u,hq,hr⟩
  obtain rfl:=hq.1
  replace hd:=hd.step hq
  have hcv:=HSS.out w3 u hr.1
  clear hq hr c0 c1 c2 HSS HR HK HL
  obtain⟨c0,c1,c2⟩:=hd.cells
  have HE:=Lib.hid (hd.done (.bool o))
  clear hd
  go_wp2
  go_ret
  exact HE.out
def keyB (X:Fx) (a b c dd:Int) (x:Nat):Bool:=decide ((X.B x).tag=a∧((X.B x).name:Int)=b∧((X.B x).typ:Int)=c∧((X.B x).hash:Int)=dd)
theorem entry1_any {bT bK:Nat} {a b c dd:Int} (n1:¬ blkM X.h bT) (n2:¬ blkM X.h bK) (d:Ix X K w) (hx:x∈X.E) (g:EG X bT bK a b c dd w) :
    Calls Tryz.prog 145 #[.int .i64 (x:Int),.pointer (some ⟨bT,0,none⟩),.pointer (some ⟨bK,0,none⟩)] w (IxR X K (.bool (keyB X a b c dd x)) w):=by
  have hd:EM X K w (fun W=>EG X bT bK a b c dd W) w:=⟨d,g,Fr.refl _ _ _,fun W W' h hf=>h.keep n1 n2 hf⟩
  have HK:Hid (∀ kk:KM (fun V=>EM X K w (fun W=>EG X bT bK a b c dd W) V),Calls Tryz.prog 132 #[tV X.h,.int .i64 (x:Int)] kk.w fun e w'=>e = .returned (keyV (X.B x))∧EM X K w (fun W=>EG X bT bK a b c dd W) w'):=fun kk=>(key_any kk.ok.m hx).mono fun e w' q=>⟨q.1,kk.ok.step q⟩
  have kt0:∀ kk:KM (fun V=>EM X K w (fun W=>EG X bT bK a b c dd W) V),kk.w.cell? ⟨bT,0,none⟩=some (.pointer (some ⟨X.h.g,0,none⟩)):=fun kk=>(cell_block kk.ok.g.t 0).trans rfl
  have kt1:∀ kk:KM (fun V=>EM X K w (fun W=>EG X bT bK a b c dd W) V),kk.w.cell? ⟨bT,1,none⟩=some (.int .i64 240):=fun kk=>(cell_block kk.ok.g.t 1).trans rfl
  have kt2:∀ kk:KM (fun V=>EM X K w (fun W=>EG X bT bK a b c dd W) V),kk.w.cell? ⟨bT,2,none⟩=some (.int .i64 224):=fun kk=>(cell_block kk.ok.g.t 2).trans rfl
  have kk0:∀ kk:KM (fun V=>EM X K w (fun W=>EG X bT bK a b c dd W) V),kk.w.cell? ⟨bK,0,none⟩=some (.int .i64 a):=fun kk=>(cell_block kk.ok.g.k 0).trans rfl
  have kk1:∀ kk:KM (fun V=>EM X K w (fun W=>EG X bT bK a b c dd W) V),kk.w.cell? ⟨bK,1,none⟩=some (.int .u32 b):=fun kk=>(cell_block kk.ok.g.k 1).trans rfl
  have kk2:∀ kk:KM (fun V=>EM X K w (fun W=>EG X bT bK a b c dd W) V),kk.w.cell? ⟨bK,2,none⟩=some (.int .u16 c):=fun kk=>(cell_block kk.ok.g.k 2).trans rfl
  have kk3:∀ kk:KM (fun V=>EM X K w (fun W=>EG X bT bK a b c dd W) V),kk.w.cell? ⟨bK,3,none⟩=some (.int .u32 dd):=fun kk=>(cell_block kk.ok.g.k 3).trans rfl
  have heq:∀ W,(Op.equalIn 10000 167 (.agg #[.int .i64 (X.B x).tag,.int .u32 ((X.B x).name:Int),.int .u16 ((X.B x).typ:Int),.int .u32 ((X.B x).hash:Int)]) (.agg #[.int .i64 a,.int .u32 b,.int .u16 c,.int .u32 dd])).run Tryz.prog W = .ok (keyB X a b c dd x) W:=fun W=>eqK_run _ _ _ _ _ _ _ _ W
  unfold keyV at HK
  generalize keyB X a b c dd x=o at *
  generalize (X.B x).tag=y0 at *
  generalize ((X.B x).name:Int)=y1 at *
  generalize ((X.B x).typ:Int)=y2 at *
  generalize ((X.B x).hash:Int)=y3 at *
  clear d hx g n1 n2
  try unfold tV at *
  unfold pV at *
  go_enter Tryz.func145,Tryz.ntmps145
  go_wp2_with fail
  refine wp_region_km (Φ := fun V=>EM X K w (fun W=>EG X bT bK a b c dd W) V) (by kernel_rfl) (by kernel_rfl) (hd.drew) ?_
  intro hne
  repeat (first | (go_big_quiet_step ((go_at_call 132;exact Calls.km_of (HK.out _)))) | (quiet_step (first | rfl | (go_at_call 132;exact Calls.km_of (HK.out _)))))
  refine wpQuiet_nil ?_
  intro _ hw'
  obtain⟨kk,rfl⟩:=hw'
  have HE:=Lib.hid (kk.ok.done (.bool o))
  clear hd
  go_wp2
  go_ret
  exact HE.out
theorem isC_entry {bT bK:Nat} {a b c dd:Int} (n1:¬ blkM X.h bT) (n2:¬ blkM X.h bK):IsC X 145 #[.pointer (some ⟨bT,0,none⟩),.pointer (some ⟨bK,0,none⟩)] (keyB X a b c dd) (EG X bT bK a b c dd) :=
  ⟨enters_of Tryz.func145 (by kernel_rfl) rfl,fun W W' h hf=>h.keep n1 n2 hf,fun K W x hx hW h=>entry1_any n1 n2 hW hx h⟩
theorem node1_any {bT bK bS:Nat} {a b c dd:Int} {s:ByteArray} (ha:a=2) (n1:¬ blkM X.h bT) (n2:¬ blkM X.h bK) (n3:¬ blkM X.h bS) (d:Ix X K w) (hx:x∈X.E) (g:EG X bT bK a b c dd w∧w.heap[bS]? = some (.cells #[.string s] 9 (0,0))) :
    Calls Tryz.prog 131 #[.int .i64 (x:Int),.pointer (some ⟨bT,0,none⟩),.pointer (some ⟨bK,0,none⟩),.pointer (some ⟨bS,0,none⟩)] w (IxR X K (.bool (keyB X a b c dd x && decide ((X.B x).lab=bs s))) w):=by
  have hd:EM X K w (fun W=>EG X bT bK a b c dd W∧W.heap[bS]? = some (.cells #[.string s] 9 (0,0))) w:=⟨d,g,Fr.refl _ _ _,fun W W' h hf=>⟨h.1.keep n1 n2 hf,(hf.block bS (Array.getElem?_eq_some_iff.1 h.2).1 n3).trans h.2⟩⟩
  have HK:Hid (∀ kk:KM (fun V=>EM X K w (fun W=>EG X bT bK a b c dd W∧W.heap[bS]? = some (.cells #[.string s] 9 (0,0))) V),Calls Tryz.prog 132 #[tV X.h,.int .i64 (x:Int)] kk.w fun e w'=>e = .returned (keyV (X.B x))∧EM X K w (fun W=>EG X bT bK a b c dd W∧W.heap[bS]? = some (.cells #[.string s] 9 (0,0))) w'):=fun kk=>(key_any kk.ok.m hx).mono fun e w' q=>⟨q.1,kk.ok.step q⟩
  have kt0:∀ kk:KM (fun V=>EM X K w (fun W=>EG X bT bK a b c dd W∧W.heap[bS]? = some (.cells #[.string s] 9 (0,0))) V),kk.w.cell? ⟨bT,0,none⟩=some (.pointer (some ⟨X.h.g,0,none⟩)):=fun kk=>(cell_block kk.ok.g.1.t 0).trans rfl
  have kt1:∀ kk:KM (fun V=>EM X K w (fun W=>EG X bT bK a b c dd W∧W.heap[bS]? = some (.cells #[.string s] 9 (0,0))) V),kk.w.cell? ⟨bT,1,none⟩=some (.int .i64 240):=fun kk=>(cell_block kk.ok.g.1.t 1).trans rfl
  have kt2:∀ kk:KM (fun V=>EM X K w (fun W=>EG X bT bK a b c dd W∧W.heap[bS]? = some (.cells #[.string s] 9 (0,0))) V),kk.w.cell? ⟨bT,2,none⟩=some (.int .i64 224):=fun kk=>(cell_block kk.ok.g.1.t 2).trans rfl
  have kk0:∀ kk:KM (fun V=>EM X K w (fun W=>EG X bT bK a b c dd W∧W.heap[bS]? = some (.cells #[.string s] 9 (0,0))) V),kk.w.cell? ⟨bK,0,none⟩=some (.int .i64 a):=fun kk=>(cell_block kk.ok.g.1.k 0).trans rfl
  have kk1:∀ kk:KM (fun V=>EM X K w (fun W=>EG X bT bK a b c dd W∧W.heap[bS]? = some (.cells #[.string s] 9 (0,0))) V),kk.w.cell? ⟨bK,1,none⟩=some (.int .u32 b):=fun kk=>(cell_block kk.ok.g.1.k 1).trans rfl
  have kk2:∀ kk:KM (fun V=>EM X K w (fun W=>EG X bT bK a b c dd W∧W.heap[bS]? = some (.cells #[.string s] 9 (0,0))) V),kk.w.cell? ⟨bK,2,none⟩=some (.int .u16 c):=fun kk=>(cell_block kk.ok.g.1.k 2).trans rfl
  have kk3:∀ kk:KM (fun V=>EM X K w (fun W=>EG X bT bK a b c dd W∧W.heap[bS]? = some (.cells #[.string s] 9 (0,0))) V),kk.w.cell? ⟨bK,3,none⟩=some (.int .u32 dd):=fun kk=>(cell_block kk.ok.g.1.k 3).trans rfl
  have kS:∀ kk:KM (fun V=>EM X K w (fun W=>EG X bT bK a b c dd W∧W.heap[bS]? = some (.cells #[.string s] 9 (0,0))) V),kk.w.cell? ⟨bS,0,none⟩=some (.string s):=fun kk=>(cell_block kk.ok.g.2 0).trans rfl
  have heq:∀ W,(Op.equalIn 10000 167 (.agg #[.int .i64 (X.B x).tag,.int .u32 ((X.B x).name:Int),.int .u16 ((X.B x).typ:Int),.int .u32 ((X.B x).hash:Int)]) (.agg #[.int .i64 a,.int .u32 b,.int .u16 c,.int .u32 dd])).run Tryz.prog W = .ok (keyB X a b c dd x) W:=fun W=>eqK_run _ _ _ _ _ _ _ _ W
  unfold keyV at HK
  cases ho:keyB X a b c dd x with
  | false =>
    rw[ho] at heq
    rw[Bool.false_and]
    generalize (X.B x).tag=y0 at *
    generalize ((X.B x).name:Int)=y1 at *
    generalize ((X.B x).typ:Int)=y2 at *
    generalize ((X.B x).hash:Int)=y3 at *
    clear d hx g n1 n2 n3 ha ho
    try unfold tV at *
    unfold pV at *
    go_enter Tryz.func131,Tryz.ntmps131
    go_wp2_with fail
    refine wp_region_km (Φ := fun V=>EM X K w (fun W=>EG X bT bK a b c dd W∧W.heap[bS]? = some (.cells #[.string s] 9 (0,0))) V) (by kernel_rfl) (by kernel_rfl) (hd.drew) ?_
    intro hne
    repeat (first | (go_big_quiet_step ((go_at_call 132;exact Calls.km_of (HK.out _)))) | (quiet_step (first | rfl | (go_at_call 132;exact Calls.km_of (HK.out _)))))
    refine wpQuiet_nil ?_
    intro _ hw'
    obtain⟨kk,rfl⟩:=hw'
    have HE:=Lib.hid (kk.ok.done (.bool false))
    clear hd
    go_wp2
    go_ret
    exact HE.out
  | true =>
    have hno:(X.B x).node=true:=by
      unfold keyB at ho
      have h1:=(of_decide_eq_true ho).1
      cases hn:(X.B x).node with
      | true=>rfl
      | false =>
        unfold Bk.tag at h1
        rw[hn] at h1
        simp at h1
        omega
    have HB:Hid (∀ kk:KM (fun V=>EM X K w (fun W=>EG X bT bK a b c dd W∧W.heap[bS]? = some (.cells #[.string s] 9 (0,0))) V),Calls Tryz.prog 133 #[tV X.h,.int .i64 (x:Int),.string s] kk.w fun e w'=>e = .returned (.bool (decide ((X.B x).lab=bs s)))∧EM X K w (fun W=>EG X bT bK a b c dd W∧W.heap[bS]? = some (.cells #[.string s] 9 (0,0))) w'):=fun kk=>(labelled_any kk.ok.m hx hno s).mono fun e w' q=>⟨q.1,kk.ok.step q⟩
    rw[ho] at heq
    rw[Bool.true_and]
    generalize decide ((X.B x).lab=bs s)=o at *
    generalize (X.B x).tag=y0 at *
    generalize ((X.B x).name:Int)=y1 at *
    generalize ((X.B x).typ:Int)=y2 at *
    generalize ((X.B x).hash:Int)=y3 at *
    clear d hx g n1 n2 n3 ha ho hno
    try unfold tV at *
    unfold pV at *
    go_enter Tryz.func131,Tryz.ntmps131
    go_wp2_with fail
    refine wp_region_km (Φ := fun V=>EM X K w (fun W=>EG X bT bK a b c dd W∧W.heap[bS]? = some (.cells #[.string s] 9 (0,0))) V) (by kernel_rfl) (by kernel_rfl) (hd.drew) ?_
    intro hne
    repeat (first | (go_big_quiet_step ((first | (go_at_call 132;exact Calls.km_of (HK.out _)) | (go_at_call 133;exact Calls.km_of (HB.out _))))) | (quiet_step (first | rfl | (first | (go_at_call 132;exact Calls.km_of (HK.out _)) | (go_at_call 133;exact Calls.km_of (HB.out _))))))
    refine wpQuiet_nil ?_
    intro _ hw'
    obtain⟨kk,rfl⟩:=hw'
    have HE:=Lib.hid (kk.ok.done (.bool o))
    clear hd
    go_wp2
    go_ret
    exact HE.out
theorem isC_node {bT bK bS:Nat} {b c dd:Int} {s:ByteArray} (n1:¬ blkM X.h bT) (n2:¬ blkM X.h bK) (n3:¬ blkM X.h bS):IsC X 131 #[.pointer (some ⟨bT,0,none⟩),.pointer (some ⟨bK,0,none⟩),.pointer (some ⟨bS,0,none⟩)] (fun x=>keyB X 2 b c dd x && decide ((X.B x).lab=bs s)) (fun W=>EG X bT bK 2 b c dd W∧W.heap[bS]? = some (.cells #[.string s] 9 (0,0))) :=
  ⟨enters_of Tryz.func131 (by kernel_rfl) rfl,fun W W' h hf=>⟨h.1.keep n1 n2 hf,(hf.block bS (Array.getElem?_eq_some_iff.1 h.2).1 n3).trans h.2⟩,fun K W x hx hW h=>node1_any rfl n1 n2 n3 hW hx h⟩
end
end Go.Proofs.YtmgeiaglandedaaGreatDoor.Ind

namespace Go.Proofs.YtmgeiaglandedaaGreatDoor.Ind
open Go.RowKit Num
open Pro
open Mem (Mm MemC MRet Hm rd blkM)
open Sla (Sl St Lv pl aT pV Lo)
open Arn (wrL is64)
set_option linter.unusedVariables false
set_option maxRecDepth 100000
section
variable {X:Fx} {l:List Int} {K K':Nat→Nat} {r r':Value} {w w1 w2 w' W W':World} {e e':Ending} {x:Nat} {fv:Value} {Gd:World→Prop} {F:Nat} {cp cs:Array Value} {P:Nat→Bool} {L:List (Nat×Array Value×TypeId)} {t:TypeId}
set_option maxHeartbeats 2000000 in
theorem Entry_any (d:Ix X K w) (nm ty:Int) (hs:Nat) (hh:hs<4294967296):Calls Tryz.prog 64 #[pV X.h,.int .u32 nm,.int .u16 ty,.int .u32 (hs:Int)] w (IxR X K (.tuple #[.int .i64 ((bkP K (slF 224 (hmX X) K (hs % 224) (keyB X 1 nm ty (hs:Int)))).1:Int),.bool (bkP K (slF 224 (hmX X) K (hs % 224) (keyB X 1 nm ty (hs:Int)))).2]) w):=by
  have HT:=Lib.hid (fun W (hW:Ix X K W)=>slots_any hW)
  have HO:=Lib.hid (fun W (hW:Ix X K W)=>home_any hW hh)
  have HB:=Lib.hid (fun W bT bK (n1:¬ blkM X.h bT) (n2:¬ blkM X.h bK) (hW:Ix X K W) (g:EG X bT bK 1 nm ty (hs:Int) W)=>block_any (isC_entry n1 n2) hW g (a:=hs % 224) (Nat.mod_lt _ (by omega)))
  generalize (bkP K (slF 224 (hmX X) K (hs % 224) (keyB X 1 nm ty (hs:Int))))=R at HB ⊢
  generalize hs % 224=o at HO HB
  generalize (hs:Int)=y at HO HB ⊢
  have hd:=MB.start d
  clear d hh
  try unfold sV tV at *
  unfold pV at *
  go_enter Tryz.func64,Tryz.ntmps64
  go_wp2_with fail
  refine(HT.out _ hd.m).mono ?_
  rintro e w1 hq
  obtain rfl:=hq.1
  replace hd:=(hd.step hq).push (tC X) 110
  clear hq HT
  replace hd:=hd.push #[.int .i64 1,.int .u32 nm,.int .u16 ty,.int .u32 y] 167
  rw[size_al] at hd
  have hn1:=(hd.bx _ (.tail _ (.head _))).2.1
  have hn2:=(hd.bx _ (.head _)).2.1
  have HB1:=Lib.hid (fun W=>HB.out W (w1.heap.size) (w1.heap.size+1) hn1 hn2)
  clear HB hn1 hn2
  obtain⟨c0,c1,c2⟩:=hd.tcells (.tail _ (.head _))
  go_wp2_with fail
  go_region_held3 (fun w'=>w'.cell? ⟨w1.heap.size,0,none⟩=some (.pointer (some ⟨X.h.g,0,none⟩))∧w'.cell? ⟨w1.heap.size,1,none⟩=some (.int .i64 240)∧w'.cell? ⟨w1.heap.size,2,none⟩=some (.int .i64 224)) (first | exact⟨c0,c1,c2⟩ | go_keep) ((first | (go_at_call 134;refine(HO.out _ (by first | exact hd.m | exact hd.m.drew)).mono ?_;rintro e w2 hq;obtain rfl:=hq.1;replace hd:=(by first | exact hd.step hq | exact hd.drew.step hq);clear hq c0 c1 c2;obtain⟨c0,c1,c2⟩:=hd.tcells (.tail _ (.head _))) | (go_at_call 135;refine(HB1.out _ (by first | exact hd.m | exact hd.m.drew) (by first | exact⟨(hd.bx _ (.tail _ (.head _))).1,(hd.bx _ (.head _)).1⟩ | exact⟨(hd.drew.bx _ (.tail _ (.head _))).1,(hd.drew.bx _ (.head _)).1⟩)).mono ?_;rintro e w2 hq;obtain rfl:=hq.1;replace hd:=(by first | exact hd.step hq | exact hd.drew.step hq);clear hq c0 c1 c2;obtain⟨c0,c1,c2⟩:=hd.tcells (.tail _ (.head _)))))
  all_goals
    have HE:=Lib.hid (hd.done (.tuple #[.int .i64 (R.1:Int),.bool R.2]))
    clear hd
    go_wp2
    go_ret2
    exact HE.out
set_option maxHeartbeats 2000000 in
theorem Node_any (d:Ix X K w) (nm:Int) (s:ByteArray) (hs:Nat) (hh:hs<4294967296):Calls Tryz.prog 57 #[pV X.h,.int .u32 nm,.string s,.int .u32 (hs:Int)] w (IxR X K (.tuple #[.int .i64 ((bkP K (slF 224 (hmX X) K (hs % 224) (fun x=>keyB X 2 nm 0 (hs:Int) x && decide ((X.B x).lab=bs s)))).1:Int),.bool (bkP K (slF 224 (hmX X) K (hs % 224) (fun x=>keyB X 2 nm 0 (hs:Int) x && decide ((X.B x).lab=bs s)))).2]) w):=by
  have HT:=Lib.hid (fun W (hW:Ix X K W)=>slots_any hW)
  have HO:=Lib.hid (fun W (hW:Ix X K W)=>home_any hW hh)
  have HB:=Lib.hid (fun W bT bK bS (n1:¬ blkM X.h bT) (n2:¬ blkM X.h bK) (n3:¬ blkM X.h bS) (hW:Ix X K W) (g:EG X bT bK 2 nm 0 (hs:Int) W∧W.heap[bS]? = some (.cells #[.string s] 9 (0,0)))=>block_any (isC_node n1 n2 n3) hW g (a:=hs % 224) (Nat.mod_lt _ (by omega)))
  generalize (bkP K (slF 224 (hmX X) K (hs % 224) (fun x=>keyB X 2 nm 0 (hs:Int) x && decide ((X.B x).lab=bs s))))=R at HB ⊢
  generalize hs % 224=o at HO HB
  generalize (hs:Int)=y at HO HB ⊢
  have hd:=(MB.start d).push #[.string s] 9
  clear d hh
  try unfold sV tV at *
  unfold pV at *
  go_enter Tryz.func57,Tryz.ntmps57
  go_wp2_with fail
  refine(HT.out _ hd.m).mono ?_
  rintro e w1 hq
  obtain rfl:=hq.1
  replace hd:=(hd.step hq).push (tC X) 110
  clear hq HT
  replace hd:=hd.push #[.int .i64 2,.int .u32 nm,.int .u16 0,.int .u32 y] 167
  rw[size_al] at hd
  have hn1:=(hd.bx _ (.tail _ (.head _))).2.1
  have hn2:=(hd.bx _ (.head _)).2.1
  have hn3:=(hd.bx _ (.tail _ (.tail _ (.head _)))).2.1
  have HB1:=Lib.hid (fun W=>HB.out W (w1.heap.size) (w1.heap.size+1) w.heap.size hn1 hn2 hn3)
  clear HB hn1 hn2 hn3
  obtain⟨c0,c1,c2⟩:=hd.tcells (.tail _ (.head _))
  go_wp2_with fail
  go_region_held3 (fun w'=>w'.cell? ⟨w1.heap.size,0,none⟩=some (.pointer (some ⟨X.h.g,0,none⟩))∧w'.cell? ⟨w1.heap.size,1,none⟩=some (.int .i64 240)∧w'.cell? ⟨w1.heap.size,2,none⟩=some (.int .i64 224)) (first | exact⟨c0,c1,c2⟩ | go_keep) ((first | (go_at_call 134;refine(HO.out _ (by first | exact hd.m | exact hd.m.drew)).mono ?_;rintro e w2 hq;obtain rfl:=hq.1;replace hd:=(by first | exact hd.step hq | exact hd.drew.step hq);clear hq c0 c1 c2;obtain⟨c0,c1,c2⟩:=hd.tcells (.tail _ (.head _))) | (go_at_call 135;refine(HB1.out _ (by first | exact hd.m | exact hd.m.drew) (by first | exact⟨⟨(hd.bx _ (.tail _ (.head _))).1,(hd.bx _ (.head _)).1⟩,(hd.bx _ (.tail _ (.tail _ (.head _)))).1⟩ | exact⟨⟨(hd.drew.bx _ (.tail _ (.head _))).1,(hd.drew.bx _ (.head _)).1⟩,(hd.drew.bx _ (.tail _ (.tail _ (.head _)))).1⟩)).mono ?_;rintro e w2 hq;obtain rfl:=hq.1;replace hd:=(by first | exact hd.step hq | exact hd.drew.step hq);clear hq c0 c1 c2;obtain⟨c0,c1,c2⟩:=hd.tcells (.tail _ (.head _)))))
  all_goals
    have HE:=Lib.hid (hd.done (.tuple #[.int .i64 (R.1:Int),.bool R.2]))
    clear hd
    go_wp2
    go_ret2
    exact HE.out
theorem up_zero (i:Nat):up (fun _=>0) i 0=fun _=>0:=by
  funext q
  unfold up
  split<;>rfl
theorem Begin_any (d:Ix X (fun _=>0) w):Calls Tryz.prog 43 #[pV X.h] w (IxR X (fun _=>0) (.int .i64 0) w):=by
  have HT:=Lib.hid (fun W (hW:Ix X (fun _=>0) W)=>slots_any hW)
  have HM:=Lib.hid (fun W (hW:Ix X (fun _=>0) W)=>tmade_any hW)
  have HS:Hid (∀ (i:Nat) W,i<224→Ix X (fun _=>0) W→Calls Tryz.prog 85 #[tV X.h,.int .i64 (i:Int),.int .i64 0] W (IxR X (fun _=>0) (.tuple #[]) W)):=fun i W hi hW=>by
    have:=set_any hW hi (v:=0) (.inl rfl)
    rw[up_zero] at this
    exact this
  have hd:=MB.start d
  clear d
  generalize (fun _:Nat=>(0:Nat))=K at *
  try unfold sV tV at *
  unfold pV at *
  go_enter Tryz.func43,Tryz.ntmps43
  go_wp2_with fail
  refine(HT.out _ hd.m).mono ?_
  rintro e w1 hq
  obtain rfl:=hq.1
  replace hd:=(hd.step hq).push (tC X) 110
  clear hq HT
  obtain⟨c0,c1,c2⟩:=hd.tcells (.head _)
  go_wp2_with fail
  refine(HM.out _ hd.m).mono ?_
  rintro e w2 hq
  obtain rfl:=hq.1
  replace hd:=hd.step hq
  clear hq
  clear c0 c1 c2
  obtain⟨c0,c1,c2⟩:=hd.tcells (.head _)
  have HD:=Lib.hid hd
  clear hd
  go_wp2
  clear c0 c1 c2
  go_loopw [12] (fun i wr=>∃ k:Nat,k≤224∧i = .int .i64 k∧Hid (MB X K w [(w1.heap.size,tC X,110)] wr)) (fun i _=>224-(intOf i).toNat)
  case atStart=>exact⟨0,by omega,rfl,HD.out⟩
  case round =>
    clear HD
    obtain⟨k,hk,rfl,HR⟩:=hrel
    have hd:=HR.out
    clear HR
    obtain⟨c0,c1,c2⟩:=hd.tcells (.head _)
    by_cases hlt:k<224
    · have hlt1:(k:Int)<224:=by omega
      have HS1:=Lib.hid (fun W hW=>HS.out k W hlt hW)
      go_wp2_with fail
      refine(HS1.out _ hd.m).mono ?_
      rintro e w4 hq
      obtain rfl:=hq.1
      have HR2:=Lib.hid (hd.step hq)
      clear hq hd c0 c1 c2 HS1
      go_wp2
      go_roundw
      case rel=>exact⟨k+1,by omega,by go_num,HR2.out⟩
      case measure=>simp[intOf];omega
    · obtain rfl:k=224:=by omega
      have HE:=Lib.hid (hd.done (.int .i64 0))
      clear hd
      go_wp2
      go_ret
      exact HE.out
def lonX (X:Fx) (K:Nat→Nat):Nat→Nat
  | 0=>0
  | j+1=>if K j=0 then lonX X K j else max (lonX X K j) (off 224 (hmX X (K j)) j)
theorem Longest_any (d:Ix X K w):Calls Tryz.prog 65 #[pV X.h] w (IxR X K (.int .i64 (lonX X K 224:Int)) w):=by
  have HT:=Lib.hid (fun W (hW:Ix X K W)=>slots_any hW)
  have HM:=Lib.hid (fun(i:Nat) W (hi:i<224) (hW:Ix X K W)=>empty_any hW hi)
  have HF:=Lib.hid (fun(i:Nat) W (hi:i<224) (hk:K i≠0) (hW:Ix X K W)=>far_any hW hi hk)
  have HL:Hid (∀ j,lonX X K (j+1)=if K j=0 then lonX X K j else max (lonX X K j) (off 224 (hmX X (K j)) j)):=fun j=>rfl
  have hd:=MB.start d
  clear d
  try unfold sV tV at *
  unfold pV at *
  go_enter Tryz.func65,Tryz.ntmps65
  go_wp2_with fail
  refine(HT.out _ hd.m).mono ?_
  rintro e w1 hq
  obtain rfl:=hq.1
  replace hd:=(hd.step hq).push (tC X) 110
  clear hq HT
  obtain⟨c0,c1,c2⟩:=hd.tcells (.head _)
  have HD:=Lib.hid hd
  clear hd
  go_wp2
  clear c0 c1 c2
  go_loopw [4,10] (fun m i wr=>∃ k:Nat,k≤224∧i = .int .i64 k∧m = .int .i64 (lonX X K k:Int)∧Hid (MB X K w [(w1.heap.size,tC X,110)] wr)) (fun _ i _=>224-(intOf i).toNat)
  case atStart=>exact⟨0,by omega,rfl,rfl,HD.out⟩
  case round =>
    clear HD
    obtain⟨k,hk,rfl,rfl,HR⟩:=hrel
    have hd:=HR.out
    clear HR
    obtain⟨c0,c1,c2⟩:=hd.tcells (.head _)
    by_cases hlt:k<224
    · have hlt1:(k:Int)<224:=by omega
      have HM1:=Lib.hid (fun W hW=>HM.out k W hlt hW)
      have HLk:=Lib.hid (HL.out k)
      by_cases hz:K k=0
      · rw[show decide (K k=0)=true by simpa using hz] at HM1
        have HLn:Hid (lonX X K (k+1)=lonX X K k):=HLk.out.trans (if_pos hz)
        clear hz HLk
        generalize lonX X K k=lk at HLn ⊢
        go_wp2_with fail
        refine(HM1.out _ hd.m).mono ?_
        rintro e w4 hq
        obtain rfl:=hq.1
        have HR2:=Lib.hid (hd.step hq)
        clear hq hd c0 c1 c2 HM1
        go_wp2
        go_roundw
        case rel=>exact⟨k+1,by omega,by go_num,by rw[HLn.out],HR2.out⟩
        case measure=>simp[intOf];omega
      · rw[show decide (K k=0)=false by simpa using hz] at HM1
        have HF1:=Lib.hid (fun W hW=>HF.out k W hlt hz hW)
        have HLn:Hid (lonX X K (k+1)=max (lonX X K k) (off 224 (hmX X (K k)) k)):=HLk.out.trans (if_neg hz)
        clear hz HLk
        generalize lonX X K k=lk at HLn ⊢
        generalize off 224 (hmX X (K k)) k=fk at HLn HF1
        obtain⟨mx,hmx⟩:∃ mx:Int,mx=max (lk:Int) (fk:Int):=⟨_,rfl⟩
        have HMx:Hid (((max lk fk:Nat):Int)=mx):=by
          unfold Hid
          rw[hmx]
          omega
        go_wp2_with fail
        refine(HM1.out _ hd.m).mono ?_
        rintro e w4 hq
        obtain rfl:=hq.1
        replace hd:=hd.step hq
        clear hq c0 c1 c2 HM1
        obtain⟨c0,c1,c2⟩:=hd.tcells (.head _)
        go_wp2_with fail
        refine(HF1.out _ hd.m).mono ?_
        rintro e w4 hq
        obtain rfl:=hq.1
        have HR2:=Lib.hid (hd.step hq)
        clear hq hd c0 c1 c2 HF1
        go_wp2
        all_goals
          go_roundw
          case rel=>exact⟨k+1,by omega,by go_num,by rw[HLn.out,HMx.out,hmx];first | rfl | (congr 1;omega),HR2.out⟩
          case measure=>simp[intOf];omega
    · obtain rfl:k=224:=by omega
      have HE:=Lib.hid (hd.done (.int .i64 (lonX X K 224:Int)))
      clear hd
      go_wp2
      go_ret
      exact HE.out
end
end Go.Proofs.YtmgeiaglandedaaGreatDoor.Ind

namespace Go.Proofs.YtmgeiaglandedaaGreatDoor.Ind
open Go.RowKit Num
open Pro
open Mem (Mm MemC MRet Hm rd blkM)
open Sla (Sl St Lv pl aT pV Lo Tk Tkn Gvn Kp tkF gvF Ts mem_lt bl_in zero_v X0)
open Cls (szC blC pdC)
open Arn (wrL is64)
open Rin (st_self st_len st_bytes lv_at)
set_option linter.unusedVariables false
set_option maxRecDepth 100000
abbrev fx (h:Hm) (T:List Sl) (E:List Nat) (B:Nat→Bk) (lb:List Int):Fx:=⟨h,T,E,B,lb⟩
def upB (B:Nat→Bk) (a:Nat) (b:Bk) (y:Nat):Bk:=if y=a then b else B y
theorem upB_at (B:Nat→Bk) (a:Nat) (b:Bk):upB B a b a=b:=if_pos rfl
theorem upB_ne (B:Nat→Bk) {a y:Nat} (b:Bk) (h:y≠a):upB B a b y=B y:=if_neg h
def hmB (B:Nat→Bk) (x:Nat):Nat:=hom (B x)
structure Wi (w0:World) (h:Hm) (n:Nat) (T:List Sl) (E:List Nat) (B:Nat→Bk) (lb:List Int) (K:Nat→Nat) (W:World):Prop where
  ix:Ix (fx h T E B lb) K W
  ok:Ok 224 (hmB B) K
  b:Below w0.heap.size w0 W
  kk:∀ k,blkM h k→w0.heap.size≤k
  lo:Lo h n
  nn:n≤W.heap.size
  n0:w0.heap.size≤n
  z:h.z=false
section
variable {h:Hm} {l0 l l' lb lb':List Int} {T T':List Sl} {w0 w w' W W':World} {n a x y:Nat} {E:List Nat} {B:Nat→Bk} {K K':Nat→Nat} {b:Bk} {e:Ending} {r:Value}
theorem Wi.below (d:Wi w0 h n T E B lb K W) (hb:Below W.heap.size W W'):Wi w0 h n T E B lb K W' :=
  ⟨d.ix.below hb,d.ok,d.b.trans (hb.mono d.b.size),d.kk,d.lo,Nat.le_trans d.nn hb.size,d.n0,d.z⟩
theorem Wi.drew (d:Wi w0 h n T E B lb K W):Wi w0 h n T E B lb K W.drew:=d.below (Below.refl _ _).drew
theorem Wi.low (d:Wi w0 h n T E B lb K W) (hb:Below n W W'):Wi w0 h n T E B lb K W' :=
  ⟨d.ix.low hb d.lo,d.ok,d.b.trans (hb.mono d.n0),d.kk,d.lo,Nat.le_trans d.nn hb.size,d.n0,d.z⟩
theorem Wi.fr {lb':List Int} {E':List Nat} {B':Nat→Bk} (d:Wi w0 h n T E B lb K W) (hs:Ix (fx h T' E' B' lb') K' W') (ho:Ok 224 (hmB B') K') (hf:Fr W.heap.size (blkM h) W W'):Wi w0 h n T' E' B' lb' K' W' :=
  ⟨hs,ho,d.b.trans (hf.toBelow d.b.size (fun k hk q=>by have:=d.kk k q;omega)),d.kk,d.lo,Nat.le_trans d.nn hf.size,d.n0,d.z⟩
theorem Wi.step (d:Wi w0 h n T E B lb K W) (hr:IxR (fx h T E B lb) K' r W e W') (ho:Ok 224 (hmB B) K'):Wi w0 h n T E B lb K' W':=d.fr hr.2.1 ho hr.2.2
theorem Wi.same (d:Wi w0 h n T E B lb K W) (hr:IxR (fx h T E B lb) K r W e W'):Wi w0 h n T E B lb K W':=d.step hr d.ok
theorem Wi.lt (d:Wi w0 h n T E B lb K W):∀ k,blkM h k→k<W.heap.size:=d.ix.lt
theorem Wi.tk (d:Wi w0 h n T E B lb K W):Tk 7 T:=by
  obtain⟨l,h1,h2⟩:=d.ix
  exact h1.st.tk
theorem Wi.facts (d:Wi w0 h n T E B lb K W) (hx:x∈E):128≤x∧x % 16=0∧x+32≤100000:=d.ix.facts hx
theorem st_slots (d:St h 7 224 l0 l T W) {t:Nat} (h1:240≤t) (h2:t<1136):l.getD t 0=l0.getD t 0:=by
  obtain⟨H,L,⟨C,q1,q2,h3,h4,h5⟩,d2⟩:=d
  exact h5.low t (by rw[q1,q2,base7];omega) (by rw[q1];omega)
theorem kp_at {S N:Nat} (hk:Kp S N T T' l l') {x c:Nat} (hx:LvC S N T x c) (hs:∀ j k,j<S→k∈(T.getD j Sl.zero).v→x=pl (aT S N j) (T.getD j Sl.zero).c k→k∈(T'.getD j Sl.zero).v∧(T'.getD j Sl.zero).c=(T.getD j Sl.zero).c):∀ t,x≤t→t<x+szC (c:Int)→l'.getD t 0=l.getD t 0:=by
  obtain⟨j,k,hj,hk',rfl,rfl⟩:=hx
  intro t h1 h2
  obtain⟨g1,g2⟩:=hs j k hj hk' rfl
  have hin:=bl_in (mem_lt hk').1
  have:=hk j k hj hk' g1 g2 (t-pl (aT S N j) (T.getD j Sl.zero).c k) (by omega)
  rw[show pl (aT S N j) (T.getD j Sl.zero).c k+(t-pl (aT S N j) (T.getD j Sl.zero).c k)=t by omega] at this
  exact this
theorem tkn_at {S N:Nat} {c:Int} {j k:Nat} (t:Tkn S N T T' c j k):∀ j' k',j'<S→k'∈(T.getD j' Sl.zero).v→k'∈(T'.getD j' Sl.zero).v∧(T'.getD j' Sl.zero).c=(T.getD j' Sl.zero).c:=by
  intro j' k' hj' hk'
  by_cases hjj:j'=j
  · subst hjj
    refine⟨(t.mem k').2 (.inr hk'),?_⟩
    rcases t.old with q | q
    · have:=t.cls;omega
    · rw[zero_v q] at hk';cases hk'
  · rw[t.oth j' hjj]
    exact⟨hk',rfl⟩
theorem sls_same {l l':List Int} (h:Sls l K) (hl:l'.length=l.length) (hs:∀ t,240≤t→t<1136→l'.getD t 0=l.getD t 0):Sls l' K:=fun i hi=>by
  rw[←h i hi]
  exact Sla.rd_agree hl (fun t q1 q2=>hs t (by omega) (by omega))
theorem tkn_lvc {S N:Nat} {c:Int} {j k:Nat} (t:Tkn S N T T' c j k) {x d:Nat} (hx:LvC S N T x d):LvC S N T' x d:=by
  obtain⟨j',k',h1,h2,h3,h4⟩:=hx
  obtain⟨g1,g2⟩:=tkn_at t j' k' h1 h2
  exact⟨j',k',h1,g1,by rw[g2];exact h3,g2.trans h4⟩
theorem Wi.takeC (d:Wi w0 h n T E B lb K W) (c:Nat):Calls Tryz.prog 50 #[pV h,.int .i64 (c:Int)] W fun e W' =>
    (∃ x er,er≠0∧(tkF 7 224 T (c:Int)).1.2=er∧e = .returned (.tuple #[.int .i64 x,.int .i64 er])∧(∃ lb',Wi w0 h n T E B lb' K W')∧Fr W.heap.size (blkM h) W W') ∨
    (∃ a:Nat,(tkF 7 224 T (c:Int)).1=((a:Int),0)∧e = .returned (.tuple #[.int .i64 (a:Int),.int .i64 0])∧a ∉ E∧(∃ lb',LvC 7 224 (tkF 7 224 T (c:Int)).2 a c∧Wi w0 h n (tkF 7 224 T (c:Int)).2 E B lb' K W'∧∀ i,i<szC (c:Int)→lb'.getD (a+i) 0=0)∧Fr W.heap.size (blkM h) W W'):=by
  obtain⟨l,h1,h2⟩:=id d.ix
  refine(h1.st.take (c:Int)).mono ?_
  rintro e W' ⟨l',he,hs,hf,hk,hz⟩
  have hlen:l'.length=l.length:=(st_len hs).1.trans (st_len h1.st).1.symm
  have hsl:=sls_same h1.sl hlen (fun t q1 q2=>st_slots hs q1 q2)
  rcases Sla.tk_spec (N:=224) d.tk (c:Int) with⟨q1,q2⟩ | ⟨q1,j,k,q2,q3⟩
  · rw[q2] at hs hk
    refine .inl ⟨_,_,q1,rfl,he,⟨l',d.fr ⟨l',⟨st_self hs,h1.lv,fun x hx=>(h1.bk x hx).same hlen (kp_at hk (h1.lv x hx) (fun j k _ hk' _=>⟨hk',rfl⟩)),hsl,h1.kin⟩,Nc.refl _⟩ d.ok hf⟩,hf⟩
  · have hlv:=fun x hx=>tkn_lvc q3 (h1.lv x hx)
    have hnew:LvC 7 224 (tkF 7 224 T (c:Int)).2 (pl (aT 7 224 j) (c:Int) k) c:=by
      have e:=q3.cls
      refine⟨j,k,q3.hj,(q3.mem k).2 (.inl rfl),by rw[e],by omega⟩
    have hz2:=hz q1
    rw[q2,Int.toNat_natCast] at hz2
    refine .inr ⟨_,?_,?_,fun q=>q3.fresh (h1.lv _ q).lv,⟨l',hnew,d.fr ⟨l',⟨st_self hs,hlv,fun x hx=>(h1.bk x hx).same hlen (kp_at hk (h1.lv x hx) (fun j' k' hj' hk' _=>tkn_at q3 j' k' hj' hk')),hsl,h1.kin⟩,Nc.refl _⟩ d.ok hf,hz2⟩,hf⟩
    · rw[←q2,←q1]
    · rw[he,q1,q2]
theorem Wi.take (d:Wi w0 h n T E B lb K W):Calls Tryz.prog 50 #[pV h,.int .i64 1] W fun e W' =>
    (∃ x er,er≠0∧(tkF 7 224 T 1).1.2=er∧e = .returned (.tuple #[.int .i64 x,.int .i64 er])∧(∃ lb',Wi w0 h n T E B lb' K W')∧Fr W.heap.size (blkM h) W W') ∨
    (∃ a:Nat,(tkF 7 224 T 1).1=((a:Int),0)∧e = .returned (.tuple #[.int .i64 (a:Int),.int .i64 0])∧a ∉ E∧(∃ lb',LvC 7 224 (tkF 7 224 T 1).2 a 1∧Wi w0 h n (tkF 7 224 T 1).2 E B lb' K W')∧Fr W.heap.size (blkM h) W W'):=by
  refine(d.takeC 1).mono ?_
  rintro e W' (q | ⟨a,h1,h2,h3,⟨lb',h4,h5,-⟩,h6⟩)
  · exact .inl q
  · exact .inr ⟨a,h1,h2,h3,⟨lb',h4,h5⟩,h6⟩
theorem lv_high (hx:Lv 7 224 T x):1136≤x:=by
  obtain⟨j,k,hj,hk,e⟩:=hx
  have:=base7
  unfold pl aT at e
  omega
theorem Wi.put (d:Wi w0 h n T E B lb K W) (ha:a ∉ E) (hlv:LvC 7 224 T a b.cls) (hb:b.Ok) :
    Calls Tryz.prog 86 #[pV h,.int .i64 (a:Int),b.blk.agg] W fun e W'=>e = .returned (.int .i64 0)∧(∃ lb',(lb'.drop a).take (Hea.encL b.blk).length=Hea.encL b.blk∧Wi w0 h n T E B lb' K W')∧Fr W.heap.size (blkM h) W W':=by
  obtain⟨l,h1,h2⟩:=id d.ix
  have hlen:=st_len h1.st
  have hat:=lv_at h1.st hlv.lv
  have hhi:=lv_high hlv.lv
  have he:=enc_len hb
  have hz:=hb.szd
  unfold Bk.sz at hz
  have he2:(Hea.encL b.blk).length≤32:=by rw[he];split<;>omega
  have hget:=fun t=>Mem.wr_get l (Hea.encL b.blk) a t (by omega)
  have hl':(wrL l a (Hea.encL b.blk)).length=l.length:=Arn.wrL_length _ _ _ (by omega)
  refine(st_putBk h1.st hlv.lv hb).mono ?_
  rintro e W' ⟨rfl,hs,hf⟩
  refine⟨rfl,⟨_,Mem.wr_part l (Hea.encL b.blk) a (by omega),d.fr ⟨_,⟨hs,h1.lv,fun x hx=>(h1.bk x hx).same hl' (fun t q1 q2=>?_),sls_same h1.sl hl' (fun t q1 q2=>?_),h1.kin⟩,Nc.refl _⟩ d.ok hf⟩,hf⟩
  · have:x+szC ((B x).cls:Int)≤a∨a+szC (b.cls:Int)≤x:=(h1.lv x hx).apart hlv (by rintro rfl;exact ha hx)
    have q3:t<x+szC ((B x).cls:Int):=q2
    rw[hget,if_neg (by omega)]
  · rw[hget,if_neg (by omega)]
theorem ok_upB (O:Ok 224 (hmB B) K) (hk:∀ i,i<224→K i≠0→K i≠a) (b:Bk):Ok 224 (hmB (upB B a b)) K :=
  ok_congr O (fun _ _=>rfl) (fun i hi h=>by unfold hmB;rw[upB_ne _ _ (hk i hi h)])
theorem Wi.adopt (d:Wi w0 h n T E B lb K W) (ha:a ∉ E) (hlv:LvC 7 224 T a b.cls) (hb:b.Ok) (hn:b.node=false) (hp:(lb.drop a).take (Hea.encL b.blk).length=Hea.encL b.blk):Wi w0 h n T (a::E) (upB B a b) lb K W:=by
  obtain⟨l,h1,h2⟩:=id d.ix
  have hhi:=lv_high hlv.lv
  have he2:(Hea.encL b.blk).length≤32:=by rw[enc_len hb];split<;>omega
  have hne:∀ x∈E,x≠a:=by rintro x hx rfl;exact ha hx
  refine⟨⟨l,⟨h1.st,fun x hx=>?_,fun x hx=>?_,h1.sl,fun i hi hk=>List.mem_cons_of_mem _ (h1.kin i hi hk)⟩,h2⟩,ok_upB d.ok (fun i hi hk=>hne _ (h1.kin i hi hk)) b,d.b,d.kk,d.lo,d.nn,d.n0,d.z⟩
  · rcases List.mem_cons.1 hx with rfl | hx
    · show LvC 7 224 T x (upB B x b x).cls
      rw[upB_at]
      exact hlv
    · show LvC 7 224 T x (upB B a b x).cls
      rw[upB_ne _ _ (hne x hx)]
      exact h1.lv x hx
  · rcases List.mem_cons.1 hx with rfl | hx
    · show BAt l x (upB B x b x)
      rw[upB_at]
      refine⟨hb,?_,.inr hn⟩
      rw[part_agree h2.len (fun t q1 q2=>h2.out t (by omega))]
      exact hp
    · show BAt l x (upB B a b x)
      rw[upB_ne _ _ (hne x hx)]
      exact h1.bk x hx
theorem Wi.label (d:Wi w0 h n T E B lb K W) (ha:a ∉ E) (hlv:LvC 7 224 T a b.cls) (hb:b.Ok) (hn:b.node=true) (hp:(lb.drop a).take (Hea.encL b.blk).length=Hea.encL b.blk) {u:Value} (hu:Row .u8 W u b.lab) (hub:∀ k,u.ownBlock=some k→¬ blkM h k) :
    Calls Tryz.prog 87 #[pV h,.int .i64 ((a+16:Nat):Int),u,.int .i64 5] W fun e W'=>e = .returned (.bool true)∧(∃ lb',Wi w0 h n T (a::E) (upB B a b) lb' K W')∧Fr W.heap.size (blkM h) W W':=by
  obtain⟨l,h1,h2⟩:=id d.ix
  have hlen:=st_len h1.st
  have hat:=lvc_at h1.st hlv
  have hhi:=lv_high hlv.lv
  have he:=enc_len hb
  rw[hn,if_pos rfl] at he
  have h16:=hb.lab.2
  unfold Bk.sz at h16
  have hget:=fun t=>Mem.wr_get l b.lab (a+16) t (by omega)
  have hl':(wrL l (a+16) b.lab).length=l.length:=Arn.wrL_length _ _ _ (by omega)
  have hne:∀ x∈E,x≠a:=by rintro x hx rfl;exact ha hx
  refine(st_writeAt h1.st hlv (o:=16) (by omega) hu hub).mono ?_
  rintro e W' ⟨rfl,hs,hf⟩
  refine⟨rfl,⟨_,d.fr ⟨_,⟨hs,fun x hx=>?_,fun x hx=>?_,sls_same h1.sl hl' (fun t q1 q2=>by rw[hget,if_neg (by omega)]),fun i hi hk=>List.mem_cons_of_mem _ (h1.kin i hi hk)⟩,Nc.refl _⟩ (ok_upB d.ok (fun i hi hk=>hne _ (h1.kin i hi hk)) b) hf⟩,hf⟩
  · rcases List.mem_cons.1 hx with rfl | hx
    · show LvC 7 224 T x (upB B x b x).cls
      rw[upB_at]
      exact hlv
    · show LvC 7 224 T x (upB B a b x).cls
      rw[upB_ne _ _ (hne x hx)]
      exact h1.lv x hx
  · rcases List.mem_cons.1 hx with rfl | hx
    · show BAt _ x (upB B x b x)
      rw[upB_at]
      refine⟨hb,?_,.inl (Mem.wr_part l b.lab (x+16) (by omega))⟩
      rw[part_agree hl' (fun t q1 q2=>by rw[hget,if_neg (by omega)]),part_agree h2.len (fun t q1 q2=>h2.out t (by omega))]
      exact hp
    · show BAt _ x (upB B a b x)
      rw[upB_ne _ _ (hne x hx)]
      refine(h1.bk x hx).same hl' (fun t q1 q2=>?_)
      have:x+szC ((B x).cls:Int)≤a∨a+szC (b.cls:Int)≤x:=(h1.lv x hx).apart hlv (hne x hx)
      have q3:t<x+szC ((B x).cls:Int):=q2
      rw[hget,if_neg (by omega)]
end
end Go.Proofs.YtmgeiaglandedaaGreatDoor.Ind
