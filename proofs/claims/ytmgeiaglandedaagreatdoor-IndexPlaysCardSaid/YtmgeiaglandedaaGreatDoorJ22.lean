/- The index within a statement: new blocks, new memories. Contracts of the index: Insert, Delete, Move, walked. Contracts of the index: Move, walked. The index within a statement: a new memory; the page's example. The index within a statement: acts, as they come in; those with room. The index within a statement: few acts; the page's example. The index within a statement: the page's example. The index within a statement: the page's example, walked. The walk of IndexBack. The index within a statement: rows of blocks; what IndexFinds keeps. -/
import Derived.Test.YtmgeiaglandedaaGreatDoorJ21
import Derived.Deep.RegionHeld3
import Derived.BigQuiet
import Derived.Laws.EntriesVeiled
import Derived.Test.YtmgeiaglandedaaGreatDoorJ0
import Derived.Test.YtmgeiaglandedaaGreatDoorJ19
import Derived.Maps.AppendAt
import Derived.Laws.StructEq
namespace Go.Proofs.YtmgeiaglandedaaGreatDoor.Ind
open Go.RowKit Num
open Pro
open Mem (Mm MemC MRet Hm rd blkM)
open Lis (Cf LM LR Tb)
open Sla (Sl St Lv pl aT pV Lo Tk Tkn Gvn Kp tkF gvF Ts mem_lt bl_in zero_v X0 SM)
open Arn (wrL is64)
open Rin (st_self st_len st_bytes lv_at)
set_option linter.unusedVariables false
set_option maxRecDepth 100000
structure Rb where
  pos:Int
  node:Bool
  name:Nat
  typ:Nat
  lab:ByteArray
  hash:Nat
def Rb.zero:Rb:=⟨0,false,0,0,ByteArray.empty,0⟩
def Rb.agg (b:Rb):Value:=.agg #[.int .i64 b.pos,.bool b.node,.int .u32 (b.name:Int),.int .u16 (b.typ:Int),.string b.lab,.int .u32 (b.hash:Int)]
def Rb.bk (b:Rb):Bk:=⟨b.node,b.name,b.typ,bs b.lab,b.hash,1,0,false,0,0,0,0⟩
structure Rb.Ty (b:Rb):Prop where
  pos:is64 b.pos
  name:b.name<4294967296
  typ:b.typ<65536
  hash:b.hash<4294967296
  lab:b.lab.size≤9223372036854775807
def Rb.few (b:Rb):Prop:=(b.node=true→1≤b.lab.size∧b.lab.size≤16∧b.typ=0)∧(b.node=false→b.lab=ByteArray.empty)
theorem Rb.Ty.ok {b:Rb} (h:b.Ty) (f:b.few):b.bk.Ok:=by
  have hl:b.lab.size≤16:=by
    cases hn:b.node with
    | true=>exact(f.1 hn).2.1
    | false=>rw[f.2 hn];decide
  have hs:(b.bk).sz=32:=show Cls.szC ((1:Nat):Int)=32 by decide
  refine⟨h.name,h.typ,h.hash,⟨?_,?_⟩,⟨Nat.le_refl _,by show 1≤9;omega⟩,by show 0<_;omega,⟨by show 0<_;omega,by show 0<_;omega⟩,by show 0<_;omega,by show 0≤_;omega,fun hn=>⟨(f.1 hn).2.2,?_⟩,fun hn=>?_⟩
  · show (bs b.lab).length≤63
    rw[bs_length]
    omega
  · rw[hs]
    show 16+(bs b.lab).length≤32
    rw[bs_length]
    omega
  · show 1≤(bs b.lab).length
    rw[bs_length]
    exact(f.1 hn).1
  · show bs b.lab = []
    rw[f.2 hn]
    rfl
theorem bytes_row2 {P:Program} (w:World) (src dst e:TypeId) (s:ByteArray) (hs:P.underlying src=some .string) (hd:P.underlying dst=some (.slice e)) (he:P.underlying e=some (.int .u8)) (hn:s.size≤9223372036854775807) :
    ∃ v W,(convert src dst (.string s)).run P w = .ok v W∧Below w.heap.size w W∧W.heap.size=w.heap.size+1∧Row .u8 W v (bs s)∧∀ k,v.ownBlock=some k→w.heap.size≤k:=by
  refine⟨_,_,Lib.run_convert_string_bytes w src dst e s hs hd he,?_,Lib.bytesWorld_size w e s,?_,fun k hk=>?_⟩
  · exact⟨by simp[Lib.bytesWorld,World.freeze,World.alloc,World.drew,-World.alloc_eq,-World.drew_eq],by simp[Lib.bytesWorld,World.freeze,World.alloc,World.drew,-World.alloc_eq,-World.drew_eq],by simp[Lib.bytesWorld,World.freeze,World.alloc,World.drew,-World.alloc_eq,-World.drew_eq],by rw[Lib.bytesWorld_size];omega,fun k hk=>Lib.bytesWorld_at_old w e s k hk⟩
  · refine⟨_,_,by rw[bs_length],by rw[bs_length];exact grownCap_ge _ _ _ _,?_,fun i hi=>?_,fun _=>⟨w.heap.size,0,rfl,by rw[Lib.bytesWorld_size];omega,fun i hi=>?_⟩⟩
    · have:=grownCap_le_maxLen w s.size 0 e (maxLen_of hn)
      unfold maxLen at this
      omega
    · have:=bs_bd s i
      exact WalkArith.wf_u8 (by omega)
    · rw[bs_length] at hi
      rw[Nat.zero_add,Lib.bytesWorld_cell w e s i hi,bs_getD s i hi,List.getD,data_get s i hi]
      rfl
  · simp[Value.ownBlock] at hk
    omega
section
variable {h:Hm} {l0 l l' lb lb':List Int} {T T':List Sl} {w0 w w' W W':World} {n a x y:Nat} {E:List Nat} {B:Nat→Bk} {K K':Nat→Nat} {e:Ending} {r:Value}
structure BL (h:Hm) (w:World) (L:List (Nat×Array Value×TypeId)) (W:World):Prop where
  bx:∀ p∈L,W.heap[p.1]? = some (.cells p.2.1 p.2.2 (0,0))∧w.heap.size≤p.1
  lt:∀ k,blkM h k→k<w.heap.size
  f:Fr w.heap.size (blkM h) w W
theorem BL.start (lt:∀ k,blkM h k→k<w.heap.size):BL h w [] w:=⟨fun p hp=>(by cases hp),lt,Fr.refl _ _ _⟩
theorem BL.push {L:List (Nat×Array Value×TypeId)} (d:BL h w L W) (cs:Array Value) (t:TypeId):BL h w ((W.heap.size,cs,t)::L) (W.alloc (.cells cs t)):=by
  refine⟨fun p hp=>?_,d.lt,d.f.trans ((Fr.of_below (below_made _ _)).mono d.f.size (fun _ _ q=>q))⟩
  rcases List.mem_cons.1 hp with rfl | hp
  · exact⟨heap_alloc_new _ _,d.f.size⟩
  · obtain⟨h1,h2⟩:=d.bx p hp
    exact⟨(heap_alloc_old _ _ (Array.getElem?_eq_some_iff.1 h1).1).trans h1,h2⟩
theorem BL.fr {L:List (Nat×Array Value×TypeId)} (d:BL h w L W) (hf:Fr W.heap.size (blkM h) W W'):BL h w L W' :=
  ⟨fun p hp=>by
    obtain⟨h1,h2⟩:=d.bx p hp
    exact⟨(hf.block _ (Array.getElem?_eq_some_iff.1 h1).1 (fun q=>by have:=d.lt _ q;omega)).trans h1,h2⟩,d.lt,d.f.trans (hf.mono d.f.size (fun _ _ q=>q))⟩
theorem BL.below {L:List (Nat×Array Value×TypeId)} (d:BL h w L W) (hb:Below W.heap.size W W'):BL h w L W':=d.fr (Fr.of_below hb)
theorem BL.cell {L:List (Nat×Array Value×TypeId)} {b:Nat} {cs:Array Value} {t:TypeId} (d:BL h w L W) (hp:(b,cs,t)∈L) (i:Nat):W.cell? ⟨b,i,none⟩=cs[i]?:=cell_block (d.bx _ hp).1 i
theorem BL.frz {L:List (Nat×Array Value×TypeId)} {b:Nat} {cs:Array Value} {t:TypeId} (d:BL h w L W) (hp:(b,cs,t)∈L) (i:Nat):W.frozen? ⟨b,i,none⟩=false:=Hea.frozen_block (d.bx _ hp).1 i
theorem BL.perm {L L':List (Nat×Array Value×TypeId)} (d:BL h w L W) (hp:∀ p∈L',p∈L):BL h w L' W:=⟨fun p q=>d.bx p (hp p q),d.lt,d.f⟩
theorem BL.put {L:List (Nat×Array Value×TypeId)} {b:Nat} {cs:Array Value} {t:TypeId} (d:BL h w ((b,cs,t)::L) W) (hn:∀ p∈L,p.1≠b) (i:Nat) (v:Value):BL h w ((b,cs.setIfInBounds i v,t)::L) (W.setCell ⟨b,i,none⟩ v):=by
  obtain⟨h1,h3⟩:=d.bx (b,cs,t) (.head _)
  refine⟨fun p hp=>?_,d.lt,d.f.setCell (p:=⟨b,i,none⟩) (.inl h3) v⟩
  rcases List.mem_cons.1 hp with rfl | hp
  · exact⟨Arn.heap_setCell_own h1 v,h3⟩
  · obtain⟨g1,g3⟩:=d.bx p (List.mem_cons_of_mem _ hp)
    exact⟨(Below.heap_setCell _ _ _ _ (fun q=>hn p hp q)).trans g1,g3⟩
theorem BL.set6 {L:List (Nat×Array Value×TypeId)} {b:Nat} {t:TypeId} {a0 a1 a2 a3 a4 a5:Value} (d:BL h w ((b,#[a0,a1,a2,a3,a4,a5],t)::L) W) (hn:∀ p∈L,p.1≠b) (v0 v1 v2 v3 v4 v5:Value):BL h w ((b,#[v0,v1,v2,v3,v4,v5],t)::L) (S6 W b v0 v1 v2 v3 v4 v5):=by
  have:=(((((d.put hn 0 v0).put hn 1 v1).put hn 2 v2).put hn 3 v3).put hn 4 v4).put hn 5 v5
  simpa[S3,S4,S5,S6] using this
theorem Wi.s6 {b:Nat} (d:Wi w0 h n T E B lb K W) (hb:n≤b) (v0 v1 v2 v3 v4 v5:Value):Wi w0 h n T E B lb K (S6 W b v0 v1 v2 v3 v4 v5) :=
  d.low (((((((Below.refl _ _).setCell (p:=⟨b,0,none⟩) hb v0).setCell (p:=⟨b,1,none⟩) hb v1).setCell (p:=⟨b,2,none⟩) hb v2).setCell (p:=⟨b,3,none⟩) hb v3).setCell (p:=⟨b,4,none⟩) hb v4).setCell (p:=⟨b,5,none⟩) hb v5)
def NewB (w0:World) (h:Hm) (n:Nat) (T:List Sl) (E:List Nat) (B:Nat→Bk) (K:Nat→Nat) (b:Rb) (w:World) (e:Ending) (W:World):Prop :=
  ∃ a:Nat,e = .returned ({ b with pos:=(a:Int) } : Rb).agg∧Fr w.heap.size (blkM h) w W∧((a=0∧(tkF 7 224 T 1).1.2≠0∧∃ lb,Wi w0 h n T E B lb K W)∨(a≠0∧a ∉ E∧(tkF 7 224 T 1).1=((a:Int),0)∧∃ lb,Wi w0 h n (tkF 7 224 T 1).2 (a::E) (upB B a b.bk) lb K W))
set_option maxHeartbeats 4000000 in
theorem block_entry (d:Wi w0 h n T E B lb K w) (b:Rb) (hb:b.Ty) (hf:b.few) (hn:b.node=false) :
    Calls Tryz.prog 38 #[pV h,b.agg] w (NewB w0 h n T E B K b w):=by
  have HT:=Lib.hid (fun W (hW:Wi w0 h n T E B lb K W)=>hW.take)
  obtain⟨q,hq⟩:∃ q,q=tkF 7 224 T 1:=⟨_,rfl⟩
  rw[←hq] at HT
  have hok:=hb.ok hf
  have hsz:=hb.lab
  have e1:b.bk.blk.agg = .agg #[.int .i64 1,.int .i64 1,.bool false,.int .i64 0,.int .u32 (b.name:Int),.int .u32 0,.int .u32 0,.int .u32 0,.int .u64 0,.int .u16 (b.typ:Int),.int .i64 0,.int .u32 (b.hash:Int)]:=by
    unfold Bk.blk Rb.bk
    simp only[hn]
    rfl
  have HP:=Lib.hid (fun(a:Nat) T lb W (hW:Wi w0 h n T E B lb K W) (ha:a ∉ E) (hlv:LvC 7 224 T a 1)=>hW.put ha hlv hok)
  rw[e1] at HP
  have HAd:=Lib.hid (fun(a:Nat) T lb W (hW:Wi w0 h n T E B lb K W) (ha:a ∉ E) (hlv:LvC 7 224 T a 1) (hp:(lb.drop a).take (Hea.encL b.bk.blk).length=Hea.encL b.bk.blk)=>hW.adopt ha hlv hok hn hp)
  have hnn:=d.nn
  obtain⟨W0,hW0⟩:∃ W0,W0=((w.alloc (.cells #[.int .i64 0,.bool false,.int .u32 (b.name:Int),.int .u16 (b.typ:Int),.string b.lab,.int .u32 (b.hash:Int)] 62)).alloc (.cells #[.int .i64 0,.bool false,.int .u32 0,.int .u16 0,.string { data := #[] },.int .u32 0] 62)).alloc (.cells #[.int .i64 1,.int .i64 1,.bool false,.int .i64 0,.int .u32 (b.name:Int),.int .u32 0,.int .u32 0,.int .u32 0,.int .u64 0,.int .u16 (b.typ:Int),.int .i64 0,.int .u32 (b.hash:Int)] 85):=⟨_,rfl⟩
  have hL:BL h w [(w.heap.size+1+1,#[.int .i64 1,.int .i64 1,.bool false,.int .i64 0,.int .u32 (b.name:Int),.int .u32 0,.int .u32 0,.int .u32 0,.int .u64 0,.int .u16 (b.typ:Int),.int .i64 0,.int .u32 (b.hash:Int)],85),(w.heap.size+1,#[.int .i64 0,.bool false,.int .u32 0,.int .u16 0,.string { data := #[] },.int .u32 0],62),(w.heap.size,#[.int .i64 0,.bool false,.int .u32 (b.name:Int),.int .u16 (b.typ:Int),.string b.lab,.int .u32 (b.hash:Int)],62)] W0:=by
    have:=(((BL.start d.lt).push #[.int .i64 0,.bool false,.int .u32 (b.name:Int),.int .u16 (b.typ:Int),.string b.lab,.int .u32 (b.hash:Int)] 62).push #[.int .i64 0,.bool false,.int .u32 0,.int .u16 0,.string { data := #[] },.int .u32 0] 62).push #[.int .i64 1,.int .i64 1,.bool false,.int .i64 0,.int .u32 (b.name:Int),.int .u32 0,.int .u32 0,.int .u32 0,.int .u64 0,.int .u16 (b.typ:Int),.int .i64 0,.int .u32 (b.hash:Int)] 85
    rw[size_al,size_al] at this
    rw[hW0]
    exact this
  have hd:Wi w0 h n T E B lb K W0:=by
    rw[hW0]
    refine d.below (((below_made _ _).trans ((below_made _ _).mono ?_)).trans ((below_made _ _).mono ?_))
    · rw[size_al];omega
    · rw[size_al,size_al];omega
  have HE:Hid (∀ (a:Nat) T' lb' E' B' W,BL h w [(w.heap.size,#[.int .i64 (a:Int),.bool false,.int .u32 (b.name:Int),.int .u16 (b.typ:Int),.string b.lab,.int .u32 (b.hash:Int)],62)] W→Wi w0 h n T' E' B' lb' K W→((a=0∧q.1.2≠0∧T'=T∧E'=E∧B'=B)∨(a≠0∧a ∉ E∧q.1=((a:Int),0)∧T'=q.2∧E'=a::E∧B'=upB B a b.bk))→NewB w0 h n T E B K b w (.returned (.agg #[.int .i64 (a:Int),.bool false,.int .u32 (b.name:Int),.int .u16 (b.typ:Int),.string b.lab,.int .u32 (b.hash:Int)])) W):=fun a T' lb' E' B' W hL hW hc=>by
    refine⟨a,?_,hL.f,?_⟩
    · unfold Rb.agg
      simp only[hn]
    · rw[←hq]
      rcases hc with⟨g1,g3,rfl,rfl,rfl⟩ | ⟨g1,g2,g3,rfl,rfl,rfl⟩
      · exact .inl ⟨g1,g3,lb',hW⟩
      · exact .inr ⟨g1,g2,g3,lb',hW⟩
  have h128:∀ (a:Nat) T lb W,Wi w0 h n T E B lb K W→LvC 7 224 T a 1→1136≤a∧a+32≤100000:=fun a T lb W hW hlv=>by
    obtain⟨l,h1,-⟩:=hW.ix
    have:=lv_at h1.st hlv.lv
    have:=lv_high hlv.lv
    omega
  have H128:=Lib.hid h128
  have hsz1:(b.lab.size:Int)≤9223372036854775807:=by omega
  unfold Rb.agg
  rw[hn]
  clear d hok e1 hb hf hn h128 hq
  unfold pV at *
  go_enter Tryz.func38,Tryz.ntmps38
  go_wp2_with fail
  rw[←hW0]
  clear hW0
  refine(HT.out _ hd).mono ?_
  rintro e w1 (⟨x,er,hne,hqe,rfl,⟨lb',hd1⟩,hf1⟩ | ⟨a,hqa,rfl,haE,⟨lb',hlv,hd1⟩,hf1⟩)
  · replace hL:=hL.fr hf1
    have HQ:Hid (q.1.2≠0):=by unfold Hid;rw[hqe];exact hne
    have hne1:(er == 0)=false:=by simpa using hne
    have hne2:(er != 0)=true:=by rw[bne,hne1];rfl
    have k0:=(hL.cell (b:=w.heap.size) (cs := #[.int .i64 0,.bool false,.int .u32 (b.name:Int),.int .u16 (b.typ:Int),.string b.lab,.int .u32 (b.hash:Int)]) (t:=62) (.tail _ (.tail _ (.head _))) 0).trans rfl
    have k1:=(hL.cell (b:=w.heap.size) (cs := #[.int .i64 0,.bool false,.int .u32 (b.name:Int),.int .u16 (b.typ:Int),.string b.lab,.int .u32 (b.hash:Int)]) (t:=62) (.tail _ (.tail _ (.head _))) 1).trans rfl
    have k2:=(hL.cell (b:=w.heap.size) (cs := #[.int .i64 0,.bool false,.int .u32 (b.name:Int),.int .u16 (b.typ:Int),.string b.lab,.int .u32 (b.hash:Int)]) (t:=62) (.tail _ (.tail _ (.head _))) 2).trans rfl
    have k3:=(hL.cell (b:=w.heap.size) (cs := #[.int .i64 0,.bool false,.int .u32 (b.name:Int),.int .u16 (b.typ:Int),.string b.lab,.int .u32 (b.hash:Int)]) (t:=62) (.tail _ (.tail _ (.head _))) 3).trans rfl
    have k4:=(hL.cell (b:=w.heap.size) (cs := #[.int .i64 0,.bool false,.int .u32 (b.name:Int),.int .u16 (b.typ:Int),.string b.lab,.int .u32 (b.hash:Int)]) (t:=62) (.tail _ (.tail _ (.head _))) 4).trans rfl
    have k5:=(hL.cell (b:=w.heap.size) (cs := #[.int .i64 0,.bool false,.int .u32 (b.name:Int),.int .u16 (b.typ:Int),.string b.lab,.int .u32 (b.hash:Int)]) (t:=62) (.tail _ (.tail _ (.head _))) 5).trans rfl
    have kf:=hL.frz (b:=w.heap.size) (cs := #[.int .i64 0,.bool false,.int .u32 (b.name:Int),.int .u16 (b.typ:Int),.string b.lab,.int .u32 (b.hash:Int)]) (t:=62) (.tail _ (.tail _ (.head _))) 0
    have r0:=(hL.cell (b:=w.heap.size+1) (cs := #[.int .i64 0,.bool false,.int .u32 0,.int .u16 0,.string { data := #[] },.int .u32 0]) (t:=62) (.tail _ (.head _)) 0).trans rfl
    have r1:=(hL.cell (b:=w.heap.size+1) (cs := #[.int .i64 0,.bool false,.int .u32 0,.int .u16 0,.string { data := #[] },.int .u32 0]) (t:=62) (.tail _ (.head _)) 1).trans rfl
    have r2:=(hL.cell (b:=w.heap.size+1) (cs := #[.int .i64 0,.bool false,.int .u32 0,.int .u16 0,.string { data := #[] },.int .u32 0]) (t:=62) (.tail _ (.head _)) 2).trans rfl
    have r3:=(hL.cell (b:=w.heap.size+1) (cs := #[.int .i64 0,.bool false,.int .u32 0,.int .u16 0,.string { data := #[] },.int .u32 0]) (t:=62) (.tail _ (.head _)) 3).trans rfl
    have r4:=(hL.cell (b:=w.heap.size+1) (cs := #[.int .i64 0,.bool false,.int .u32 0,.int .u16 0,.string { data := #[] },.int .u32 0]) (t:=62) (.tail _ (.head _)) 4).trans rfl
    have r5:=(hL.cell (b:=w.heap.size+1) (cs := #[.int .i64 0,.bool false,.int .u32 0,.int .u16 0,.string { data := #[] },.int .u32 0]) (t:=62) (.tail _ (.head _)) 5).trans rfl
    have f0:=hL.frz (b:=w.heap.size+1) (cs := #[.int .i64 0,.bool false,.int .u32 0,.int .u16 0,.string { data := #[] },.int .u32 0]) (t:=62) (.tail _ (.head _)) 0
    have f1:=hL.frz (b:=w.heap.size+1) (cs := #[.int .i64 0,.bool false,.int .u32 0,.int .u16 0,.string { data := #[] },.int .u32 0]) (t:=62) (.tail _ (.head _)) 1
    have f2:=hL.frz (b:=w.heap.size+1) (cs := #[.int .i64 0,.bool false,.int .u32 0,.int .u16 0,.string { data := #[] },.int .u32 0]) (t:=62) (.tail _ (.head _)) 2
    have f3:=hL.frz (b:=w.heap.size+1) (cs := #[.int .i64 0,.bool false,.int .u32 0,.int .u16 0,.string { data := #[] },.int .u32 0]) (t:=62) (.tail _ (.head _)) 3
    have f4:=hL.frz (b:=w.heap.size+1) (cs := #[.int .i64 0,.bool false,.int .u32 0,.int .u16 0,.string { data := #[] },.int .u32 0]) (t:=62) (.tail _ (.head _)) 4
    have f5:=hL.frz (b:=w.heap.size+1) (cs := #[.int .i64 0,.bool false,.int .u32 0,.int .u16 0,.string { data := #[] },.int .u32 0]) (t:=62) (.tail _ (.head _)) 5
    have HS:=Lib.hid ((hL.perm (L' := [(w.heap.size+1,#[.int .i64 0,.bool false,.int .u32 0,.int .u16 0,.string { data := #[] },.int .u32 0],62),(w.heap.size,#[.int .i64 0,.bool false,.int .u32 (b.name:Int),.int .u16 (b.typ:Int),.string b.lab,.int .u32 (b.hash:Int)],62)]) (fun p hp=>.tail _ hp)).set6 (ne1 (by omega)) (.int .i64 0) (.bool false) (.int .u32 (b.name:Int)) (.int .u16 (b.typ:Int)) (.string b.lab) (.int .u32 (b.hash:Int)))
    have HW:=Lib.hid (hd1.s6 (b:=w.heap.size+1) (by omega) (.int .i64 0) (.bool false) (.int .u32 (b.name:Int)) (.int .u16 (b.typ:Int)) (.string b.lab) (.int .u32 (b.hash:Int)))
    clear hf1 hL hd hd1 HT HP HAd hne hne1 H128 hqe
    go_wp2
    show bodyPost _ _ _ _ _ (S6 w1 (w.heap.size+1) (.int .i64 0) (.bool false) (.int .u32 (b.name:Int)) (.int .u16 (b.typ:Int)) (.string b.lab) (.int .u32 (b.hash:Int)))
    generalize S6 w1 (w.heap.size+1) (.int .i64 0) (.bool false) (.int .u32 (b.name:Int)) (.int .u16 (b.typ:Int)) (.string b.lab) (.int .u32 (b.hash:Int))=W9 at HS HW ⊢
    have q0:=(HS.out.cell (List.mem_cons_self ..) 0).trans rfl
    have q1:=(HS.out.cell (List.mem_cons_self ..) 1).trans rfl
    have q2:=(HS.out.cell (List.mem_cons_self ..) 2).trans rfl
    have q3:=(HS.out.cell (List.mem_cons_self ..) 3).trans rfl
    have q4:=(HS.out.cell (List.mem_cons_self ..) 4).trans rfl
    have q5:=(HS.out.cell (List.mem_cons_self ..) 5).trans rfl
    refine bodyPost_ret (v:=.agg #[.int .i64 0,.bool false,.int .u32 (b.name:Int),.int .u16 (b.typ:Int),.string b.lab,.int .u32 (b.hash:Int)]) (by simp[results,Tryz.results38,go_sem,q0,q1,q2,q3,q4,q5]) rfl (HE.out 0 _ _ _ _ _ (HS.out.perm (fun p hp=>.tail _ hp)) HW.out (.inl ⟨rfl,HQ.out,rfl,rfl,rfl⟩))
  · replace hL:=hL.fr hf1
    have HQ:=Lib.hid hqa
    have h12:=H128.out a q.2 lb' w1 hd1 hlv
    have HP1:=Lib.hid (HP.out a q.2 lb' w1 hd1 haE hlv)
    clear hqa
    have ha0:(0:Int)≤(a:Int):=by omega
    have k0:=(hL.cell (b:=w.heap.size) (cs := #[.int .i64 0,.bool false,.int .u32 (b.name:Int),.int .u16 (b.typ:Int),.string b.lab,.int .u32 (b.hash:Int)]) (t:=62) (.tail _ (.tail _ (.head _))) 0).trans rfl
    have k1:=(hL.cell (b:=w.heap.size) (cs := #[.int .i64 0,.bool false,.int .u32 (b.name:Int),.int .u16 (b.typ:Int),.string b.lab,.int .u32 (b.hash:Int)]) (t:=62) (.tail _ (.tail _ (.head _))) 1).trans rfl
    have k2:=(hL.cell (b:=w.heap.size) (cs := #[.int .i64 0,.bool false,.int .u32 (b.name:Int),.int .u16 (b.typ:Int),.string b.lab,.int .u32 (b.hash:Int)]) (t:=62) (.tail _ (.tail _ (.head _))) 2).trans rfl
    have k3:=(hL.cell (b:=w.heap.size) (cs := #[.int .i64 0,.bool false,.int .u32 (b.name:Int),.int .u16 (b.typ:Int),.string b.lab,.int .u32 (b.hash:Int)]) (t:=62) (.tail _ (.tail _ (.head _))) 3).trans rfl
    have k4:=(hL.cell (b:=w.heap.size) (cs := #[.int .i64 0,.bool false,.int .u32 (b.name:Int),.int .u16 (b.typ:Int),.string b.lab,.int .u32 (b.hash:Int)]) (t:=62) (.tail _ (.tail _ (.head _))) 4).trans rfl
    have k5:=(hL.cell (b:=w.heap.size) (cs := #[.int .i64 0,.bool false,.int .u32 (b.name:Int),.int .u16 (b.typ:Int),.string b.lab,.int .u32 (b.hash:Int)]) (t:=62) (.tail _ (.tail _ (.head _))) 5).trans rfl
    have kf:=hL.frz (b:=w.heap.size) (cs := #[.int .i64 0,.bool false,.int .u32 (b.name:Int),.int .u16 (b.typ:Int),.string b.lab,.int .u32 (b.hash:Int)]) (t:=62) (.tail _ (.tail _ (.head _))) 0
    have r0:=(hL.cell (b:=w.heap.size+1) (cs := #[.int .i64 0,.bool false,.int .u32 0,.int .u16 0,.string { data := #[] },.int .u32 0]) (t:=62) (.tail _ (.head _)) 0).trans rfl
    have r1:=(hL.cell (b:=w.heap.size+1) (cs := #[.int .i64 0,.bool false,.int .u32 0,.int .u16 0,.string { data := #[] },.int .u32 0]) (t:=62) (.tail _ (.head _)) 1).trans rfl
    have r2:=(hL.cell (b:=w.heap.size+1) (cs := #[.int .i64 0,.bool false,.int .u32 0,.int .u16 0,.string { data := #[] },.int .u32 0]) (t:=62) (.tail _ (.head _)) 2).trans rfl
    have r3:=(hL.cell (b:=w.heap.size+1) (cs := #[.int .i64 0,.bool false,.int .u32 0,.int .u16 0,.string { data := #[] },.int .u32 0]) (t:=62) (.tail _ (.head _)) 3).trans rfl
    have r4:=(hL.cell (b:=w.heap.size+1) (cs := #[.int .i64 0,.bool false,.int .u32 0,.int .u16 0,.string { data := #[] },.int .u32 0]) (t:=62) (.tail _ (.head _)) 4).trans rfl
    have r5:=(hL.cell (b:=w.heap.size+1) (cs := #[.int .i64 0,.bool false,.int .u32 0,.int .u16 0,.string { data := #[] },.int .u32 0]) (t:=62) (.tail _ (.head _)) 5).trans rfl
    have f0:=hL.frz (b:=w.heap.size+1) (cs := #[.int .i64 0,.bool false,.int .u32 0,.int .u16 0,.string { data := #[] },.int .u32 0]) (t:=62) (.tail _ (.head _)) 0
    have f1:=hL.frz (b:=w.heap.size+1) (cs := #[.int .i64 0,.bool false,.int .u32 0,.int .u16 0,.string { data := #[] },.int .u32 0]) (t:=62) (.tail _ (.head _)) 1
    have f2:=hL.frz (b:=w.heap.size+1) (cs := #[.int .i64 0,.bool false,.int .u32 0,.int .u16 0,.string { data := #[] },.int .u32 0]) (t:=62) (.tail _ (.head _)) 2
    have f3:=hL.frz (b:=w.heap.size+1) (cs := #[.int .i64 0,.bool false,.int .u32 0,.int .u16 0,.string { data := #[] },.int .u32 0]) (t:=62) (.tail _ (.head _)) 3
    have f4:=hL.frz (b:=w.heap.size+1) (cs := #[.int .i64 0,.bool false,.int .u32 0,.int .u16 0,.string { data := #[] },.int .u32 0]) (t:=62) (.tail _ (.head _)) 4
    have f5:=hL.frz (b:=w.heap.size+1) (cs := #[.int .i64 0,.bool false,.int .u32 0,.int .u16 0,.string { data := #[] },.int .u32 0]) (t:=62) (.tail _ (.head _)) 5
    have m0:=(hL.cell (b:=w.heap.size+1+1) (cs := #[.int .i64 1,.int .i64 1,.bool false,.int .i64 0,.int .u32 (b.name:Int),.int .u32 0,.int .u32 0,.int .u32 0,.int .u64 0,.int .u16 (b.typ:Int),.int .i64 0,.int .u32 (b.hash:Int)]) (t:=85) (.head _) 0).trans rfl
    have m1:=(hL.cell (b:=w.heap.size+1+1) (cs := #[.int .i64 1,.int .i64 1,.bool false,.int .i64 0,.int .u32 (b.name:Int),.int .u32 0,.int .u32 0,.int .u32 0,.int .u64 0,.int .u16 (b.typ:Int),.int .i64 0,.int .u32 (b.hash:Int)]) (t:=85) (.head _) 1).trans rfl
    have m2:=(hL.cell (b:=w.heap.size+1+1) (cs := #[.int .i64 1,.int .i64 1,.bool false,.int .i64 0,.int .u32 (b.name:Int),.int .u32 0,.int .u32 0,.int .u32 0,.int .u64 0,.int .u16 (b.typ:Int),.int .i64 0,.int .u32 (b.hash:Int)]) (t:=85) (.head _) 2).trans rfl
    have m3:=(hL.cell (b:=w.heap.size+1+1) (cs := #[.int .i64 1,.int .i64 1,.bool false,.int .i64 0,.int .u32 (b.name:Int),.int .u32 0,.int .u32 0,.int .u32 0,.int .u64 0,.int .u16 (b.typ:Int),.int .i64 0,.int .u32 (b.hash:Int)]) (t:=85) (.head _) 3).trans rfl
    have m4:=(hL.cell (b:=w.heap.size+1+1) (cs := #[.int .i64 1,.int .i64 1,.bool false,.int .i64 0,.int .u32 (b.name:Int),.int .u32 0,.int .u32 0,.int .u32 0,.int .u64 0,.int .u16 (b.typ:Int),.int .i64 0,.int .u32 (b.hash:Int)]) (t:=85) (.head _) 4).trans rfl
    have m5:=(hL.cell (b:=w.heap.size+1+1) (cs := #[.int .i64 1,.int .i64 1,.bool false,.int .i64 0,.int .u32 (b.name:Int),.int .u32 0,.int .u32 0,.int .u32 0,.int .u64 0,.int .u16 (b.typ:Int),.int .i64 0,.int .u32 (b.hash:Int)]) (t:=85) (.head _) 5).trans rfl
    have m6:=(hL.cell (b:=w.heap.size+1+1) (cs := #[.int .i64 1,.int .i64 1,.bool false,.int .i64 0,.int .u32 (b.name:Int),.int .u32 0,.int .u32 0,.int .u32 0,.int .u64 0,.int .u16 (b.typ:Int),.int .i64 0,.int .u32 (b.hash:Int)]) (t:=85) (.head _) 6).trans rfl
    have m7:=(hL.cell (b:=w.heap.size+1+1) (cs := #[.int .i64 1,.int .i64 1,.bool false,.int .i64 0,.int .u32 (b.name:Int),.int .u32 0,.int .u32 0,.int .u32 0,.int .u64 0,.int .u16 (b.typ:Int),.int .i64 0,.int .u32 (b.hash:Int)]) (t:=85) (.head _) 7).trans rfl
    have m8:=(hL.cell (b:=w.heap.size+1+1) (cs := #[.int .i64 1,.int .i64 1,.bool false,.int .i64 0,.int .u32 (b.name:Int),.int .u32 0,.int .u32 0,.int .u32 0,.int .u64 0,.int .u16 (b.typ:Int),.int .i64 0,.int .u32 (b.hash:Int)]) (t:=85) (.head _) 8).trans rfl
    have m9:=(hL.cell (b:=w.heap.size+1+1) (cs := #[.int .i64 1,.int .i64 1,.bool false,.int .i64 0,.int .u32 (b.name:Int),.int .u32 0,.int .u32 0,.int .u32 0,.int .u64 0,.int .u16 (b.typ:Int),.int .i64 0,.int .u32 (b.hash:Int)]) (t:=85) (.head _) 9).trans rfl
    have m10:=(hL.cell (b:=w.heap.size+1+1) (cs := #[.int .i64 1,.int .i64 1,.bool false,.int .i64 0,.int .u32 (b.name:Int),.int .u32 0,.int .u32 0,.int .u32 0,.int .u64 0,.int .u16 (b.typ:Int),.int .i64 0,.int .u32 (b.hash:Int)]) (t:=85) (.head _) 10).trans rfl
    have m11:=(hL.cell (b:=w.heap.size+1+1) (cs := #[.int .i64 1,.int .i64 1,.bool false,.int .i64 0,.int .u32 (b.name:Int),.int .u32 0,.int .u32 0,.int .u32 0,.int .u64 0,.int .u16 (b.typ:Int),.int .i64 0,.int .u32 (b.hash:Int)]) (t:=85) (.head _) 11).trans rfl
    clear hf1 hd hd1 HT HP
    go_wp2_with fail
    refine HP1.out.mono ?_
    rintro e w2 ⟨rfl,⟨lb2,hp2,hd2⟩,hf2⟩
    replace hL:=hL.fr hf2
    clear k0 k1 k2 k3 k4 k5 kf r0 r1 r2 r3 r4 r5 f0 f1 f2 f3 f4 f5 m0 m1 m2 m3 m4 m5 m6 m7 m8 m9 m10 m11 hf2 HP1
    have hd3:=HAd.out a q.2 lb2 w2 hd2 haE hlv hp2
    clear hd2 hp2 HAd hlv
    replace hL:=(hL.perm (L' := [(w.heap.size,#[.int .i64 0,.bool false,.int .u32 (b.name:Int),.int .u16 (b.typ:Int),.string b.lab,.int .u32 (b.hash:Int)],62),(w.heap.size+1,#[.int .i64 0,.bool false,.int .u32 0,.int .u16 0,.string { data := #[] },.int .u32 0],62)]) (fun p hp=>by
      rcases List.mem_cons.1 hp with rfl | hp
      · exact .tail _ (.tail _ (.head _))
      · rcases List.mem_cons.1 hp with rfl | hp
        · exact .tail _ (.head _)
        · cases hp))
    have k0:=(hL.cell (b:=w.heap.size) (cs := #[.int .i64 0,.bool false,.int .u32 (b.name:Int),.int .u16 (b.typ:Int),.string b.lab,.int .u32 (b.hash:Int)]) (t:=62) (.head _) 0).trans rfl
    have k1:=(hL.cell (b:=w.heap.size) (cs := #[.int .i64 0,.bool false,.int .u32 (b.name:Int),.int .u16 (b.typ:Int),.string b.lab,.int .u32 (b.hash:Int)]) (t:=62) (.head _) 1).trans rfl
    have k2:=(hL.cell (b:=w.heap.size) (cs := #[.int .i64 0,.bool false,.int .u32 (b.name:Int),.int .u16 (b.typ:Int),.string b.lab,.int .u32 (b.hash:Int)]) (t:=62) (.head _) 2).trans rfl
    have k3:=(hL.cell (b:=w.heap.size) (cs := #[.int .i64 0,.bool false,.int .u32 (b.name:Int),.int .u16 (b.typ:Int),.string b.lab,.int .u32 (b.hash:Int)]) (t:=62) (.head _) 3).trans rfl
    have k4:=(hL.cell (b:=w.heap.size) (cs := #[.int .i64 0,.bool false,.int .u32 (b.name:Int),.int .u16 (b.typ:Int),.string b.lab,.int .u32 (b.hash:Int)]) (t:=62) (.head _) 4).trans rfl
    have k5:=(hL.cell (b:=w.heap.size) (cs := #[.int .i64 0,.bool false,.int .u32 (b.name:Int),.int .u16 (b.typ:Int),.string b.lab,.int .u32 (b.hash:Int)]) (t:=62) (.head _) 5).trans rfl
    have kf:=hL.frz (b:=w.heap.size) (cs := #[.int .i64 0,.bool false,.int .u32 (b.name:Int),.int .u16 (b.typ:Int),.string b.lab,.int .u32 (b.hash:Int)]) (t:=62) (.head _) 0
    have hL2:=hL.put (ne1 (by omega)) 0 (.int .i64 (a:Int))
    have hd4:=hd3.low ((Below.refl _ _).setCell (p:=⟨w.heap.size,0,none⟩) hnn (.int .i64 (a:Int)))
    replace hL2:BL h w [(w.heap.size,#[.int .i64 (a:Int),.bool false,.int .u32 (b.name:Int),.int .u16 (b.typ:Int),.string b.lab,.int .u32 (b.hash:Int)],62),(w.heap.size+1,#[.int .i64 0,.bool false,.int .u32 0,.int .u16 0,.string { data := #[] },.int .u32 0],62)] (w2.setCell ⟨w.heap.size,0,none⟩ (.int .i64 (a:Int))):=hL2
    have j0:=(hL2.cell (b:=w.heap.size) (cs := #[.int .i64 (a:Int),.bool false,.int .u32 (b.name:Int),.int .u16 (b.typ:Int),.string b.lab,.int .u32 (b.hash:Int)]) (t:=62) (.head _) 0).trans rfl
    have j1:=(hL2.cell (b:=w.heap.size) (cs := #[.int .i64 (a:Int),.bool false,.int .u32 (b.name:Int),.int .u16 (b.typ:Int),.string b.lab,.int .u32 (b.hash:Int)]) (t:=62) (.head _) 1).trans rfl
    have j2:=(hL2.cell (b:=w.heap.size) (cs := #[.int .i64 (a:Int),.bool false,.int .u32 (b.name:Int),.int .u16 (b.typ:Int),.string b.lab,.int .u32 (b.hash:Int)]) (t:=62) (.head _) 2).trans rfl
    have j3:=(hL2.cell (b:=w.heap.size) (cs := #[.int .i64 (a:Int),.bool false,.int .u32 (b.name:Int),.int .u16 (b.typ:Int),.string b.lab,.int .u32 (b.hash:Int)]) (t:=62) (.head _) 3).trans rfl
    have j4:=(hL2.cell (b:=w.heap.size) (cs := #[.int .i64 (a:Int),.bool false,.int .u32 (b.name:Int),.int .u16 (b.typ:Int),.string b.lab,.int .u32 (b.hash:Int)]) (t:=62) (.head _) 4).trans rfl
    have j5:=(hL2.cell (b:=w.heap.size) (cs := #[.int .i64 (a:Int),.bool false,.int .u32 (b.name:Int),.int .u16 (b.typ:Int),.string b.lab,.int .u32 (b.hash:Int)]) (t:=62) (.head _) 5).trans rfl
    have r0:=(hL2.cell (b:=w.heap.size+1) (cs := #[.int .i64 0,.bool false,.int .u32 0,.int .u16 0,.string { data := #[] },.int .u32 0]) (t:=62) (.tail _ (.head _)) 0).trans rfl
    have r1:=(hL2.cell (b:=w.heap.size+1) (cs := #[.int .i64 0,.bool false,.int .u32 0,.int .u16 0,.string { data := #[] },.int .u32 0]) (t:=62) (.tail _ (.head _)) 1).trans rfl
    have r2:=(hL2.cell (b:=w.heap.size+1) (cs := #[.int .i64 0,.bool false,.int .u32 0,.int .u16 0,.string { data := #[] },.int .u32 0]) (t:=62) (.tail _ (.head _)) 2).trans rfl
    have r3:=(hL2.cell (b:=w.heap.size+1) (cs := #[.int .i64 0,.bool false,.int .u32 0,.int .u16 0,.string { data := #[] },.int .u32 0]) (t:=62) (.tail _ (.head _)) 3).trans rfl
    have r4:=(hL2.cell (b:=w.heap.size+1) (cs := #[.int .i64 0,.bool false,.int .u32 0,.int .u16 0,.string { data := #[] },.int .u32 0]) (t:=62) (.tail _ (.head _)) 4).trans rfl
    have r5:=(hL2.cell (b:=w.heap.size+1) (cs := #[.int .i64 0,.bool false,.int .u32 0,.int .u16 0,.string { data := #[] },.int .u32 0]) (t:=62) (.tail _ (.head _)) 5).trans rfl
    have f0:=hL2.frz (b:=w.heap.size+1) (cs := #[.int .i64 0,.bool false,.int .u32 0,.int .u16 0,.string { data := #[] },.int .u32 0]) (t:=62) (.tail _ (.head _)) 0
    have f1:=hL2.frz (b:=w.heap.size+1) (cs := #[.int .i64 0,.bool false,.int .u32 0,.int .u16 0,.string { data := #[] },.int .u32 0]) (t:=62) (.tail _ (.head _)) 1
    have f2:=hL2.frz (b:=w.heap.size+1) (cs := #[.int .i64 0,.bool false,.int .u32 0,.int .u16 0,.string { data := #[] },.int .u32 0]) (t:=62) (.tail _ (.head _)) 2
    have f3:=hL2.frz (b:=w.heap.size+1) (cs := #[.int .i64 0,.bool false,.int .u32 0,.int .u16 0,.string { data := #[] },.int .u32 0]) (t:=62) (.tail _ (.head _)) 3
    have f4:=hL2.frz (b:=w.heap.size+1) (cs := #[.int .i64 0,.bool false,.int .u32 0,.int .u16 0,.string { data := #[] },.int .u32 0]) (t:=62) (.tail _ (.head _)) 4
    have f5:=hL2.frz (b:=w.heap.size+1) (cs := #[.int .i64 0,.bool false,.int .u32 0,.int .u16 0,.string { data := #[] },.int .u32 0]) (t:=62) (.tail _ (.head _)) 5
    have HS:=Lib.hid ((hL2.perm (L' := [(w.heap.size+1,#[.int .i64 0,.bool false,.int .u32 0,.int .u16 0,.string { data := #[] },.int .u32 0],62),(w.heap.size,#[.int .i64 (a:Int),.bool false,.int .u32 (b.name:Int),.int .u16 (b.typ:Int),.string b.lab,.int .u32 (b.hash:Int)],62)]) (fun p hp=>by
      rcases List.mem_cons.1 hp with rfl | hp
      · exact .tail _ (.head _)
      · rcases List.mem_cons.1 hp with rfl | hp
        · exact .head _
        · cases hp)).set6 (ne1 (by omega)) (.int .i64 (a:Int)) (.bool false) (.int .u32 (b.name:Int)) (.int .u16 (b.typ:Int)) (.string b.lab) (.int .u32 (b.hash:Int)))
    have HW:=Lib.hid (hd4.s6 (b:=w.heap.size+1) (by omega) (.int .i64 (a:Int)) (.bool false) (.int .u32 (b.name:Int)) (.int .u16 (b.typ:Int)) (.string b.lab) (.int .u32 (b.hash:Int)))
    have HA:=Lib.hid haE
    have HA0:Hid (a≠0):=by unfold Hid;omega
    clear hL hL2 hd3 hd4 H128 haE h12
    go_wp2
    show bodyPost _ _ _ _ _ (S6 (w2.setCell ⟨w.heap.size,0,none⟩ (.int .i64 (a:Int))) (w.heap.size+1) (.int .i64 (a:Int)) (.bool false) (.int .u32 (b.name:Int)) (.int .u16 (b.typ:Int)) (.string b.lab) (.int .u32 (b.hash:Int)))
    generalize S6 (w2.setCell ⟨w.heap.size,0,none⟩ (.int .i64 (a:Int))) (w.heap.size+1) (.int .i64 (a:Int)) (.bool false) (.int .u32 (b.name:Int)) (.int .u16 (b.typ:Int)) (.string b.lab) (.int .u32 (b.hash:Int))=W9 at HS HW ⊢
    have q0:=(HS.out.cell (List.mem_cons_self ..) 0).trans rfl
    have q1:=(HS.out.cell (List.mem_cons_self ..) 1).trans rfl
    have q2:=(HS.out.cell (List.mem_cons_self ..) 2).trans rfl
    have q3:=(HS.out.cell (List.mem_cons_self ..) 3).trans rfl
    have q4:=(HS.out.cell (List.mem_cons_self ..) 4).trans rfl
    have q5:=(HS.out.cell (List.mem_cons_self ..) 5).trans rfl
    refine bodyPost_ret (v:=.agg #[.int .i64 (a:Int),.bool false,.int .u32 (b.name:Int),.int .u16 (b.typ:Int),.string b.lab,.int .u32 (b.hash:Int)]) (by simp[results,Tryz.results38,go_sem,q0,q1,q2,q3,q4,q5]) rfl (HE.out a _ _ _ _ _ (HS.out.perm (fun p hp=>.tail _ hp)) HW.out (.inr ⟨HA0.out,HA.out,HQ.out,rfl,rfl,rfl⟩))
set_option maxHeartbeats 4000000 in
theorem block_node (d:Wi w0 h n T E B lb K w) (b:Rb) (hb:b.Ty) (hf:b.few) (hn:b.node=true) :
    Calls Tryz.prog 38 #[pV h,b.agg] w (NewB w0 h n T E B K b w):=by
  have HT:=Lib.hid (fun W (hW:Wi w0 h n T E B lb K W)=>hW.take)
  obtain⟨q,hq⟩:∃ q,q=tkF 7 224 T 1:=⟨_,rfl⟩
  rw[←hq] at HT
  have hok:=hb.ok hf
  have hsz:=hb.lab
  have e1:b.bk.blk.agg = .agg #[.int .i64 2,.int .i64 1,.bool false,.int .i64 (b.lab.size:Int),.int .u32 (b.name:Int),.int .u32 0,.int .u32 0,.int .u32 0,.int .u64 0,.int .u16 0,.int .i64 0,.int .u32 (b.hash:Int)]:=by
    unfold Bk.blk Rb.bk
    simp only[hn]
    rw[bs_length]
    rfl
  have HP:=Lib.hid (fun(a:Nat) T lb W (hW:Wi w0 h n T E B lb K W) (ha:a ∉ E) (hlv:LvC 7 224 T a 1)=>hW.put ha hlv hok)
  rw[e1] at HP
  have HAd:=Lib.hid (fun(a:Nat) T lb W (hW:Wi w0 h n T E B lb K W) (ha:a ∉ E) (hlv:LvC 7 224 T a 1) (hp:(lb.drop a).take (Hea.encL b.bk.blk).length=Hea.encL b.bk.blk)=>fun u (hu:Row .u8 W u (bs b.lab)) (hub:∀ k,u.ownBlock=some k→¬ blkM h k)=>hW.label ha hlv hok hn hp hu hub)
  have hnn:=d.nn
  obtain⟨W0,hW0⟩:∃ W0,W0=((w.alloc (.cells #[.int .i64 0,.bool true,.int .u32 (b.name:Int),.int .u16 (b.typ:Int),.string b.lab,.int .u32 (b.hash:Int)] 62)).alloc (.cells #[.int .i64 0,.bool false,.int .u32 0,.int .u16 0,.string { data := #[] },.int .u32 0] 62)).alloc (.cells #[.int .i64 2,.int .i64 1,.bool false,.int .i64 (b.lab.size:Int),.int .u32 (b.name:Int),.int .u32 0,.int .u32 0,.int .u32 0,.int .u64 0,.int .u16 0,.int .i64 0,.int .u32 (b.hash:Int)] 85):=⟨_,rfl⟩
  have hL:BL h w [(w.heap.size+1+1,#[.int .i64 2,.int .i64 1,.bool false,.int .i64 (b.lab.size:Int),.int .u32 (b.name:Int),.int .u32 0,.int .u32 0,.int .u32 0,.int .u64 0,.int .u16 0,.int .i64 0,.int .u32 (b.hash:Int)],85),(w.heap.size+1,#[.int .i64 0,.bool false,.int .u32 0,.int .u16 0,.string { data := #[] },.int .u32 0],62),(w.heap.size,#[.int .i64 0,.bool true,.int .u32 (b.name:Int),.int .u16 (b.typ:Int),.string b.lab,.int .u32 (b.hash:Int)],62)] W0:=by
    have:=(((BL.start d.lt).push #[.int .i64 0,.bool true,.int .u32 (b.name:Int),.int .u16 (b.typ:Int),.string b.lab,.int .u32 (b.hash:Int)] 62).push #[.int .i64 0,.bool false,.int .u32 0,.int .u16 0,.string { data := #[] },.int .u32 0] 62).push #[.int .i64 2,.int .i64 1,.bool false,.int .i64 (b.lab.size:Int),.int .u32 (b.name:Int),.int .u32 0,.int .u32 0,.int .u32 0,.int .u64 0,.int .u16 0,.int .i64 0,.int .u32 (b.hash:Int)] 85
    rw[size_al,size_al] at this
    rw[hW0]
    exact this
  have hd:Wi w0 h n T E B lb K W0:=by
    rw[hW0]
    refine d.below (((below_made _ _).trans ((below_made _ _).mono ?_)).trans ((below_made _ _).mono ?_))
    · rw[size_al];omega
    · rw[size_al,size_al];omega
  have HE:Hid (∀ (a:Nat) T' lb' E' B' W,BL h w [(w.heap.size,#[.int .i64 (a:Int),.bool true,.int .u32 (b.name:Int),.int .u16 (b.typ:Int),.string b.lab,.int .u32 (b.hash:Int)],62)] W→Wi w0 h n T' E' B' lb' K W→((a=0∧q.1.2≠0∧T'=T∧E'=E∧B'=B)∨(a≠0∧a ∉ E∧q.1=((a:Int),0)∧T'=q.2∧E'=a::E∧B'=upB B a b.bk))→NewB w0 h n T E B K b w (.returned (.agg #[.int .i64 (a:Int),.bool true,.int .u32 (b.name:Int),.int .u16 (b.typ:Int),.string b.lab,.int .u32 (b.hash:Int)])) W):=fun a T' lb' E' B' W hL hW hc=>by
    refine⟨a,?_,hL.f,?_⟩
    · unfold Rb.agg
      simp only[hn]
    · rw[←hq]
      rcases hc with⟨g1,g3,rfl,rfl,rfl⟩ | ⟨g1,g2,g3,rfl,rfl,rfl⟩
      · exact .inl ⟨g1,g3,lb',hW⟩
      · exact .inr ⟨g1,g2,g3,lb',hW⟩
  have h128:∀ (a:Nat) T lb W,Wi w0 h n T E B lb K W→LvC 7 224 T a 1→1136≤a∧a+32≤100000:=fun a T lb W hW hlv=>by
    obtain⟨l,h1,-⟩:=hW.ix
    have:=lv_at h1.st hlv.lv
    have:=lv_high hlv.lv
    omega
  have H128:=Lib.hid h128
  have hsz1:(b.lab.size:Int)≤9223372036854775807:=by omega
  unfold Rb.agg
  rw[hn]
  clear d hok e1 hb hf hn h128 hq
  unfold pV at *
  go_enter Tryz.func38,Tryz.ntmps38
  go_wp2_with fail
  rw[←hW0]
  clear hW0
  refine(HT.out _ hd).mono ?_
  rintro e w1 (⟨x,er,hne,hqe,rfl,⟨lb',hd1⟩,hf1⟩ | ⟨a,hqa,rfl,haE,⟨lb',hlv,hd1⟩,hf1⟩)
  · replace hL:=hL.fr hf1
    have HQ:Hid (q.1.2≠0):=by unfold Hid;rw[hqe];exact hne
    have hne1:(er == 0)=false:=by simpa using hne
    have hne2:(er != 0)=true:=by rw[bne,hne1];rfl
    have k0:=(hL.cell (b:=w.heap.size) (cs := #[.int .i64 0,.bool true,.int .u32 (b.name:Int),.int .u16 (b.typ:Int),.string b.lab,.int .u32 (b.hash:Int)]) (t:=62) (.tail _ (.tail _ (.head _))) 0).trans rfl
    have k1:=(hL.cell (b:=w.heap.size) (cs := #[.int .i64 0,.bool true,.int .u32 (b.name:Int),.int .u16 (b.typ:Int),.string b.lab,.int .u32 (b.hash:Int)]) (t:=62) (.tail _ (.tail _ (.head _))) 1).trans rfl
    have k2:=(hL.cell (b:=w.heap.size) (cs := #[.int .i64 0,.bool true,.int .u32 (b.name:Int),.int .u16 (b.typ:Int),.string b.lab,.int .u32 (b.hash:Int)]) (t:=62) (.tail _ (.tail _ (.head _))) 2).trans rfl
    have k3:=(hL.cell (b:=w.heap.size) (cs := #[.int .i64 0,.bool true,.int .u32 (b.name:Int),.int .u16 (b.typ:Int),.string b.lab,.int .u32 (b.hash:Int)]) (t:=62) (.tail _ (.tail _ (.head _))) 3).trans rfl
    have k4:=(hL.cell (b:=w.heap.size) (cs := #[.int .i64 0,.bool true,.int .u32 (b.name:Int),.int .u16 (b.typ:Int),.string b.lab,.int .u32 (b.hash:Int)]) (t:=62) (.tail _ (.tail _ (.head _))) 4).trans rfl
    have k5:=(hL.cell (b:=w.heap.size) (cs := #[.int .i64 0,.bool true,.int .u32 (b.name:Int),.int .u16 (b.typ:Int),.string b.lab,.int .u32 (b.hash:Int)]) (t:=62) (.tail _ (.tail _ (.head _))) 5).trans rfl
    have kf:=hL.frz (b:=w.heap.size) (cs := #[.int .i64 0,.bool true,.int .u32 (b.name:Int),.int .u16 (b.typ:Int),.string b.lab,.int .u32 (b.hash:Int)]) (t:=62) (.tail _ (.tail _ (.head _))) 0
    have r0:=(hL.cell (b:=w.heap.size+1) (cs := #[.int .i64 0,.bool false,.int .u32 0,.int .u16 0,.string { data := #[] },.int .u32 0]) (t:=62) (.tail _ (.head _)) 0).trans rfl
    have r1:=(hL.cell (b:=w.heap.size+1) (cs := #[.int .i64 0,.bool false,.int .u32 0,.int .u16 0,.string { data := #[] },.int .u32 0]) (t:=62) (.tail _ (.head _)) 1).trans rfl
    have r2:=(hL.cell (b:=w.heap.size+1) (cs := #[.int .i64 0,.bool false,.int .u32 0,.int .u16 0,.string { data := #[] },.int .u32 0]) (t:=62) (.tail _ (.head _)) 2).trans rfl
    have r3:=(hL.cell (b:=w.heap.size+1) (cs := #[.int .i64 0,.bool false,.int .u32 0,.int .u16 0,.string { data := #[] },.int .u32 0]) (t:=62) (.tail _ (.head _)) 3).trans rfl
    have r4:=(hL.cell (b:=w.heap.size+1) (cs := #[.int .i64 0,.bool false,.int .u32 0,.int .u16 0,.string { data := #[] },.int .u32 0]) (t:=62) (.tail _ (.head _)) 4).trans rfl
    have r5:=(hL.cell (b:=w.heap.size+1) (cs := #[.int .i64 0,.bool false,.int .u32 0,.int .u16 0,.string { data := #[] },.int .u32 0]) (t:=62) (.tail _ (.head _)) 5).trans rfl
    have f0:=hL.frz (b:=w.heap.size+1) (cs := #[.int .i64 0,.bool false,.int .u32 0,.int .u16 0,.string { data := #[] },.int .u32 0]) (t:=62) (.tail _ (.head _)) 0
    have f1:=hL.frz (b:=w.heap.size+1) (cs := #[.int .i64 0,.bool false,.int .u32 0,.int .u16 0,.string { data := #[] },.int .u32 0]) (t:=62) (.tail _ (.head _)) 1
    have f2:=hL.frz (b:=w.heap.size+1) (cs := #[.int .i64 0,.bool false,.int .u32 0,.int .u16 0,.string { data := #[] },.int .u32 0]) (t:=62) (.tail _ (.head _)) 2
    have f3:=hL.frz (b:=w.heap.size+1) (cs := #[.int .i64 0,.bool false,.int .u32 0,.int .u16 0,.string { data := #[] },.int .u32 0]) (t:=62) (.tail _ (.head _)) 3
    have f4:=hL.frz (b:=w.heap.size+1) (cs := #[.int .i64 0,.bool false,.int .u32 0,.int .u16 0,.string { data := #[] },.int .u32 0]) (t:=62) (.tail _ (.head _)) 4
    have f5:=hL.frz (b:=w.heap.size+1) (cs := #[.int .i64 0,.bool false,.int .u32 0,.int .u16 0,.string { data := #[] },.int .u32 0]) (t:=62) (.tail _ (.head _)) 5
    have HS:=Lib.hid ((hL.perm (L' := [(w.heap.size+1,#[.int .i64 0,.bool false,.int .u32 0,.int .u16 0,.string { data := #[] },.int .u32 0],62),(w.heap.size,#[.int .i64 0,.bool true,.int .u32 (b.name:Int),.int .u16 (b.typ:Int),.string b.lab,.int .u32 (b.hash:Int)],62)]) (fun p hp=>.tail _ hp)).set6 (ne1 (by omega)) (.int .i64 0) (.bool true) (.int .u32 (b.name:Int)) (.int .u16 (b.typ:Int)) (.string b.lab) (.int .u32 (b.hash:Int)))
    have HW:=Lib.hid (hd1.s6 (b:=w.heap.size+1) (by omega) (.int .i64 0) (.bool true) (.int .u32 (b.name:Int)) (.int .u16 (b.typ:Int)) (.string b.lab) (.int .u32 (b.hash:Int)))
    clear hf1 hL hd hd1 HT HP HAd hne hne1 H128 hqe
    go_wp2
    show bodyPost _ _ _ _ _ (S6 w1 (w.heap.size+1) (.int .i64 0) (.bool true) (.int .u32 (b.name:Int)) (.int .u16 (b.typ:Int)) (.string b.lab) (.int .u32 (b.hash:Int)))
    generalize S6 w1 (w.heap.size+1) (.int .i64 0) (.bool true) (.int .u32 (b.name:Int)) (.int .u16 (b.typ:Int)) (.string b.lab) (.int .u32 (b.hash:Int))=W9 at HS HW ⊢
    have q0:=(HS.out.cell (List.mem_cons_self ..) 0).trans rfl
    have q1:=(HS.out.cell (List.mem_cons_self ..) 1).trans rfl
    have q2:=(HS.out.cell (List.mem_cons_self ..) 2).trans rfl
    have q3:=(HS.out.cell (List.mem_cons_self ..) 3).trans rfl
    have q4:=(HS.out.cell (List.mem_cons_self ..) 4).trans rfl
    have q5:=(HS.out.cell (List.mem_cons_self ..) 5).trans rfl
    refine bodyPost_ret (v:=.agg #[.int .i64 0,.bool true,.int .u32 (b.name:Int),.int .u16 (b.typ:Int),.string b.lab,.int .u32 (b.hash:Int)]) (by simp[results,Tryz.results38,go_sem,q0,q1,q2,q3,q4,q5]) rfl (HE.out 0 _ _ _ _ _ (HS.out.perm (fun p hp=>.tail _ hp)) HW.out (.inl ⟨rfl,HQ.out,rfl,rfl,rfl⟩))
  · replace hL:=hL.fr hf1
    have HQ:=Lib.hid hqa
    have h12:=H128.out a q.2 lb' w1 hd1 hlv
    have HP1:=Lib.hid (HP.out a q.2 lb' w1 hd1 haE hlv)
    clear hqa
    have ha0:(0:Int)≤(a:Int):=by omega
    have k0:=(hL.cell (b:=w.heap.size) (cs := #[.int .i64 0,.bool true,.int .u32 (b.name:Int),.int .u16 (b.typ:Int),.string b.lab,.int .u32 (b.hash:Int)]) (t:=62) (.tail _ (.tail _ (.head _))) 0).trans rfl
    have k1:=(hL.cell (b:=w.heap.size) (cs := #[.int .i64 0,.bool true,.int .u32 (b.name:Int),.int .u16 (b.typ:Int),.string b.lab,.int .u32 (b.hash:Int)]) (t:=62) (.tail _ (.tail _ (.head _))) 1).trans rfl
    have k2:=(hL.cell (b:=w.heap.size) (cs := #[.int .i64 0,.bool true,.int .u32 (b.name:Int),.int .u16 (b.typ:Int),.string b.lab,.int .u32 (b.hash:Int)]) (t:=62) (.tail _ (.tail _ (.head _))) 2).trans rfl
    have k3:=(hL.cell (b:=w.heap.size) (cs := #[.int .i64 0,.bool true,.int .u32 (b.name:Int),.int .u16 (b.typ:Int),.string b.lab,.int .u32 (b.hash:Int)]) (t:=62) (.tail _ (.tail _ (.head _))) 3).trans rfl
    have k4:=(hL.cell (b:=w.heap.size) (cs := #[.int .i64 0,.bool true,.int .u32 (b.name:Int),.int .u16 (b.typ:Int),.string b.lab,.int .u32 (b.hash:Int)]) (t:=62) (.tail _ (.tail _ (.head _))) 4).trans rfl
    have k5:=(hL.cell (b:=w.heap.size) (cs := #[.int .i64 0,.bool true,.int .u32 (b.name:Int),.int .u16 (b.typ:Int),.string b.lab,.int .u32 (b.hash:Int)]) (t:=62) (.tail _ (.tail _ (.head _))) 5).trans rfl
    have kf:=hL.frz (b:=w.heap.size) (cs := #[.int .i64 0,.bool true,.int .u32 (b.name:Int),.int .u16 (b.typ:Int),.string b.lab,.int .u32 (b.hash:Int)]) (t:=62) (.tail _ (.tail _ (.head _))) 0
    have r0:=(hL.cell (b:=w.heap.size+1) (cs := #[.int .i64 0,.bool false,.int .u32 0,.int .u16 0,.string { data := #[] },.int .u32 0]) (t:=62) (.tail _ (.head _)) 0).trans rfl
    have r1:=(hL.cell (b:=w.heap.size+1) (cs := #[.int .i64 0,.bool false,.int .u32 0,.int .u16 0,.string { data := #[] },.int .u32 0]) (t:=62) (.tail _ (.head _)) 1).trans rfl
    have r2:=(hL.cell (b:=w.heap.size+1) (cs := #[.int .i64 0,.bool false,.int .u32 0,.int .u16 0,.string { data := #[] },.int .u32 0]) (t:=62) (.tail _ (.head _)) 2).trans rfl
    have r3:=(hL.cell (b:=w.heap.size+1) (cs := #[.int .i64 0,.bool false,.int .u32 0,.int .u16 0,.string { data := #[] },.int .u32 0]) (t:=62) (.tail _ (.head _)) 3).trans rfl
    have r4:=(hL.cell (b:=w.heap.size+1) (cs := #[.int .i64 0,.bool false,.int .u32 0,.int .u16 0,.string { data := #[] },.int .u32 0]) (t:=62) (.tail _ (.head _)) 4).trans rfl
    have r5:=(hL.cell (b:=w.heap.size+1) (cs := #[.int .i64 0,.bool false,.int .u32 0,.int .u16 0,.string { data := #[] },.int .u32 0]) (t:=62) (.tail _ (.head _)) 5).trans rfl
    have f0:=hL.frz (b:=w.heap.size+1) (cs := #[.int .i64 0,.bool false,.int .u32 0,.int .u16 0,.string { data := #[] },.int .u32 0]) (t:=62) (.tail _ (.head _)) 0
    have f1:=hL.frz (b:=w.heap.size+1) (cs := #[.int .i64 0,.bool false,.int .u32 0,.int .u16 0,.string { data := #[] },.int .u32 0]) (t:=62) (.tail _ (.head _)) 1
    have f2:=hL.frz (b:=w.heap.size+1) (cs := #[.int .i64 0,.bool false,.int .u32 0,.int .u16 0,.string { data := #[] },.int .u32 0]) (t:=62) (.tail _ (.head _)) 2
    have f3:=hL.frz (b:=w.heap.size+1) (cs := #[.int .i64 0,.bool false,.int .u32 0,.int .u16 0,.string { data := #[] },.int .u32 0]) (t:=62) (.tail _ (.head _)) 3
    have f4:=hL.frz (b:=w.heap.size+1) (cs := #[.int .i64 0,.bool false,.int .u32 0,.int .u16 0,.string { data := #[] },.int .u32 0]) (t:=62) (.tail _ (.head _)) 4
    have f5:=hL.frz (b:=w.heap.size+1) (cs := #[.int .i64 0,.bool false,.int .u32 0,.int .u16 0,.string { data := #[] },.int .u32 0]) (t:=62) (.tail _ (.head _)) 5
    have m0:=(hL.cell (b:=w.heap.size+1+1) (cs := #[.int .i64 2,.int .i64 1,.bool false,.int .i64 (b.lab.size:Int),.int .u32 (b.name:Int),.int .u32 0,.int .u32 0,.int .u32 0,.int .u64 0,.int .u16 0,.int .i64 0,.int .u32 (b.hash:Int)]) (t:=85) (.head _) 0).trans rfl
    have m1:=(hL.cell (b:=w.heap.size+1+1) (cs := #[.int .i64 2,.int .i64 1,.bool false,.int .i64 (b.lab.size:Int),.int .u32 (b.name:Int),.int .u32 0,.int .u32 0,.int .u32 0,.int .u64 0,.int .u16 0,.int .i64 0,.int .u32 (b.hash:Int)]) (t:=85) (.head _) 1).trans rfl
    have m2:=(hL.cell (b:=w.heap.size+1+1) (cs := #[.int .i64 2,.int .i64 1,.bool false,.int .i64 (b.lab.size:Int),.int .u32 (b.name:Int),.int .u32 0,.int .u32 0,.int .u32 0,.int .u64 0,.int .u16 0,.int .i64 0,.int .u32 (b.hash:Int)]) (t:=85) (.head _) 2).trans rfl
    have m3:=(hL.cell (b:=w.heap.size+1+1) (cs := #[.int .i64 2,.int .i64 1,.bool false,.int .i64 (b.lab.size:Int),.int .u32 (b.name:Int),.int .u32 0,.int .u32 0,.int .u32 0,.int .u64 0,.int .u16 0,.int .i64 0,.int .u32 (b.hash:Int)]) (t:=85) (.head _) 3).trans rfl
    have m4:=(hL.cell (b:=w.heap.size+1+1) (cs := #[.int .i64 2,.int .i64 1,.bool false,.int .i64 (b.lab.size:Int),.int .u32 (b.name:Int),.int .u32 0,.int .u32 0,.int .u32 0,.int .u64 0,.int .u16 0,.int .i64 0,.int .u32 (b.hash:Int)]) (t:=85) (.head _) 4).trans rfl
    have m5:=(hL.cell (b:=w.heap.size+1+1) (cs := #[.int .i64 2,.int .i64 1,.bool false,.int .i64 (b.lab.size:Int),.int .u32 (b.name:Int),.int .u32 0,.int .u32 0,.int .u32 0,.int .u64 0,.int .u16 0,.int .i64 0,.int .u32 (b.hash:Int)]) (t:=85) (.head _) 5).trans rfl
    have m6:=(hL.cell (b:=w.heap.size+1+1) (cs := #[.int .i64 2,.int .i64 1,.bool false,.int .i64 (b.lab.size:Int),.int .u32 (b.name:Int),.int .u32 0,.int .u32 0,.int .u32 0,.int .u64 0,.int .u16 0,.int .i64 0,.int .u32 (b.hash:Int)]) (t:=85) (.head _) 6).trans rfl
    have m7:=(hL.cell (b:=w.heap.size+1+1) (cs := #[.int .i64 2,.int .i64 1,.bool false,.int .i64 (b.lab.size:Int),.int .u32 (b.name:Int),.int .u32 0,.int .u32 0,.int .u32 0,.int .u64 0,.int .u16 0,.int .i64 0,.int .u32 (b.hash:Int)]) (t:=85) (.head _) 7).trans rfl
    have m8:=(hL.cell (b:=w.heap.size+1+1) (cs := #[.int .i64 2,.int .i64 1,.bool false,.int .i64 (b.lab.size:Int),.int .u32 (b.name:Int),.int .u32 0,.int .u32 0,.int .u32 0,.int .u64 0,.int .u16 0,.int .i64 0,.int .u32 (b.hash:Int)]) (t:=85) (.head _) 8).trans rfl
    have m9:=(hL.cell (b:=w.heap.size+1+1) (cs := #[.int .i64 2,.int .i64 1,.bool false,.int .i64 (b.lab.size:Int),.int .u32 (b.name:Int),.int .u32 0,.int .u32 0,.int .u32 0,.int .u64 0,.int .u16 0,.int .i64 0,.int .u32 (b.hash:Int)]) (t:=85) (.head _) 9).trans rfl
    have m10:=(hL.cell (b:=w.heap.size+1+1) (cs := #[.int .i64 2,.int .i64 1,.bool false,.int .i64 (b.lab.size:Int),.int .u32 (b.name:Int),.int .u32 0,.int .u32 0,.int .u32 0,.int .u64 0,.int .u16 0,.int .i64 0,.int .u32 (b.hash:Int)]) (t:=85) (.head _) 10).trans rfl
    have m11:=(hL.cell (b:=w.heap.size+1+1) (cs := #[.int .i64 2,.int .i64 1,.bool false,.int .i64 (b.lab.size:Int),.int .u32 (b.name:Int),.int .u32 0,.int .u32 0,.int .u32 0,.int .u64 0,.int .u16 0,.int .i64 0,.int .u32 (b.hash:Int)]) (t:=85) (.head _) 11).trans rfl
    clear hf1 hd hd1 HT HP
    go_wp2_with fail
    refine HP1.out.mono ?_
    rintro e w2 ⟨rfl,⟨lb2,hp2,hd2⟩,hf2⟩
    replace hL:=hL.fr hf2
    clear k0 k1 k2 k3 k4 k5 kf r0 r1 r2 r3 r4 r5 f0 f1 f2 f3 f4 f5 m0 m1 m2 m3 m4 m5 m6 m7 m8 m9 m10 m11 hf2 HP1
    have HAd2:=Lib.hid (fun W hW=>HAd.out a q.2 lb2 W hW haE hlv hp2)
    have hx16:IntKind.i64.wrap ((a:Int)+16)=((a+16:Nat):Int):=(Ind.wrap_id (by omega) (by omega)).trans (by omega)
    obtain⟨xa,hxa⟩:∃ xa:Int,xa=((a+16:Nat):Int):=⟨_,rfl⟩
    rw[←hxa] at hx16 HAd2
    obtain⟨u,w3,hcv,hb3,hs3,hr3,ho3⟩:=bytes_row2 (P:=Tryz.prog) w2 9 51 5 b.lab (by kernel_rfl) (by kernel_rfl) (by kernel_rfl) hsz
    have hd2':=hd2.below (hb3.mono (Nat.le_refl _))
    have HAd3:=Lib.hid (HAd2.out w3 hd2' u hr3 (fun k q z=>by have:=ho3 k q;have:=hL.lt k z;have:=hL.f.size;omega))
    have k0:=(hL.cell (b:=w.heap.size) (cs := #[.int .i64 0,.bool true,.int .u32 (b.name:Int),.int .u16 (b.typ:Int),.string b.lab,.int .u32 (b.hash:Int)]) (t:=62) (.tail _ (.tail _ (.head _))) 0).trans rfl
    have k1:=(hL.cell (b:=w.heap.size) (cs := #[.int .i64 0,.bool true,.int .u32 (b.name:Int),.int .u16 (b.typ:Int),.string b.lab,.int .u32 (b.hash:Int)]) (t:=62) (.tail _ (.tail _ (.head _))) 1).trans rfl
    have k2:=(hL.cell (b:=w.heap.size) (cs := #[.int .i64 0,.bool true,.int .u32 (b.name:Int),.int .u16 (b.typ:Int),.string b.lab,.int .u32 (b.hash:Int)]) (t:=62) (.tail _ (.tail _ (.head _))) 2).trans rfl
    have k3:=(hL.cell (b:=w.heap.size) (cs := #[.int .i64 0,.bool true,.int .u32 (b.name:Int),.int .u16 (b.typ:Int),.string b.lab,.int .u32 (b.hash:Int)]) (t:=62) (.tail _ (.tail _ (.head _))) 3).trans rfl
    have k4:=(hL.cell (b:=w.heap.size) (cs := #[.int .i64 0,.bool true,.int .u32 (b.name:Int),.int .u16 (b.typ:Int),.string b.lab,.int .u32 (b.hash:Int)]) (t:=62) (.tail _ (.tail _ (.head _))) 4).trans rfl
    have k5:=(hL.cell (b:=w.heap.size) (cs := #[.int .i64 0,.bool true,.int .u32 (b.name:Int),.int .u16 (b.typ:Int),.string b.lab,.int .u32 (b.hash:Int)]) (t:=62) (.tail _ (.tail _ (.head _))) 5).trans rfl
    have kf:=hL.frz (b:=w.heap.size) (cs := #[.int .i64 0,.bool true,.int .u32 (b.name:Int),.int .u16 (b.typ:Int),.string b.lab,.int .u32 (b.hash:Int)]) (t:=62) (.tail _ (.tail _ (.head _))) 0
    have r0:=(hL.cell (b:=w.heap.size+1) (cs := #[.int .i64 0,.bool false,.int .u32 0,.int .u16 0,.string { data := #[] },.int .u32 0]) (t:=62) (.tail _ (.head _)) 0).trans rfl
    have r1:=(hL.cell (b:=w.heap.size+1) (cs := #[.int .i64 0,.bool false,.int .u32 0,.int .u16 0,.string { data := #[] },.int .u32 0]) (t:=62) (.tail _ (.head _)) 1).trans rfl
    have r2:=(hL.cell (b:=w.heap.size+1) (cs := #[.int .i64 0,.bool false,.int .u32 0,.int .u16 0,.string { data := #[] },.int .u32 0]) (t:=62) (.tail _ (.head _)) 2).trans rfl
    have r3:=(hL.cell (b:=w.heap.size+1) (cs := #[.int .i64 0,.bool false,.int .u32 0,.int .u16 0,.string { data := #[] },.int .u32 0]) (t:=62) (.tail _ (.head _)) 3).trans rfl
    have r4:=(hL.cell (b:=w.heap.size+1) (cs := #[.int .i64 0,.bool false,.int .u32 0,.int .u16 0,.string { data := #[] },.int .u32 0]) (t:=62) (.tail _ (.head _)) 4).trans rfl
    have r5:=(hL.cell (b:=w.heap.size+1) (cs := #[.int .i64 0,.bool false,.int .u32 0,.int .u16 0,.string { data := #[] },.int .u32 0]) (t:=62) (.tail _ (.head _)) 5).trans rfl
    have f0:=hL.frz (b:=w.heap.size+1) (cs := #[.int .i64 0,.bool false,.int .u32 0,.int .u16 0,.string { data := #[] },.int .u32 0]) (t:=62) (.tail _ (.head _)) 0
    have f1:=hL.frz (b:=w.heap.size+1) (cs := #[.int .i64 0,.bool false,.int .u32 0,.int .u16 0,.string { data := #[] },.int .u32 0]) (t:=62) (.tail _ (.head _)) 1
    have f2:=hL.frz (b:=w.heap.size+1) (cs := #[.int .i64 0,.bool false,.int .u32 0,.int .u16 0,.string { data := #[] },.int .u32 0]) (t:=62) (.tail _ (.head _)) 2
    have f3:=hL.frz (b:=w.heap.size+1) (cs := #[.int .i64 0,.bool false,.int .u32 0,.int .u16 0,.string { data := #[] },.int .u32 0]) (t:=62) (.tail _ (.head _)) 3
    have f4:=hL.frz (b:=w.heap.size+1) (cs := #[.int .i64 0,.bool false,.int .u32 0,.int .u16 0,.string { data := #[] },.int .u32 0]) (t:=62) (.tail _ (.head _)) 4
    have f5:=hL.frz (b:=w.heap.size+1) (cs := #[.int .i64 0,.bool false,.int .u32 0,.int .u16 0,.string { data := #[] },.int .u32 0]) (t:=62) (.tail _ (.head _)) 5
    replace hL:=hL.below (hb3.mono (Nat.le_refl _))
    clear hd2 hd2' HAd2 HAd hb3 hr3 ho3 hxa hp2 hlv
    go_wp2_with fail
    refine HAd3.out.mono ?_
    rintro e w4 ⟨rfl,⟨lb4,hd3⟩,hf4⟩
    replace hL:=hL.fr hf4
    clear k0 k1 k2 k3 k4 k5 kf r0 r1 r2 r3 r4 r5 f0 f1 f2 f3 f4 f5 HAd3 hf4 hcv hs3
    replace hL:=(hL.perm (L' := [(w.heap.size,#[.int .i64 0,.bool true,.int .u32 (b.name:Int),.int .u16 (b.typ:Int),.string b.lab,.int .u32 (b.hash:Int)],62),(w.heap.size+1,#[.int .i64 0,.bool false,.int .u32 0,.int .u16 0,.string { data := #[] },.int .u32 0],62)]) (fun p hp=>by
      rcases List.mem_cons.1 hp with rfl | hp
      · exact .tail _ (.tail _ (.head _))
      · rcases List.mem_cons.1 hp with rfl | hp
        · exact .tail _ (.head _)
        · cases hp))
    have k0:=(hL.cell (b:=w.heap.size) (cs := #[.int .i64 0,.bool true,.int .u32 (b.name:Int),.int .u16 (b.typ:Int),.string b.lab,.int .u32 (b.hash:Int)]) (t:=62) (.head _) 0).trans rfl
    have k1:=(hL.cell (b:=w.heap.size) (cs := #[.int .i64 0,.bool true,.int .u32 (b.name:Int),.int .u16 (b.typ:Int),.string b.lab,.int .u32 (b.hash:Int)]) (t:=62) (.head _) 1).trans rfl
    have k2:=(hL.cell (b:=w.heap.size) (cs := #[.int .i64 0,.bool true,.int .u32 (b.name:Int),.int .u16 (b.typ:Int),.string b.lab,.int .u32 (b.hash:Int)]) (t:=62) (.head _) 2).trans rfl
    have k3:=(hL.cell (b:=w.heap.size) (cs := #[.int .i64 0,.bool true,.int .u32 (b.name:Int),.int .u16 (b.typ:Int),.string b.lab,.int .u32 (b.hash:Int)]) (t:=62) (.head _) 3).trans rfl
    have k4:=(hL.cell (b:=w.heap.size) (cs := #[.int .i64 0,.bool true,.int .u32 (b.name:Int),.int .u16 (b.typ:Int),.string b.lab,.int .u32 (b.hash:Int)]) (t:=62) (.head _) 4).trans rfl
    have k5:=(hL.cell (b:=w.heap.size) (cs := #[.int .i64 0,.bool true,.int .u32 (b.name:Int),.int .u16 (b.typ:Int),.string b.lab,.int .u32 (b.hash:Int)]) (t:=62) (.head _) 5).trans rfl
    have kf:=hL.frz (b:=w.heap.size) (cs := #[.int .i64 0,.bool true,.int .u32 (b.name:Int),.int .u16 (b.typ:Int),.string b.lab,.int .u32 (b.hash:Int)]) (t:=62) (.head _) 0
    have hL2:=hL.put (ne1 (by omega)) 0 (.int .i64 (a:Int))
    have hd4:=hd3.low ((Below.refl _ _).setCell (p:=⟨w.heap.size,0,none⟩) hnn (.int .i64 (a:Int)))
    replace hL2:BL h w [(w.heap.size,#[.int .i64 (a:Int),.bool true,.int .u32 (b.name:Int),.int .u16 (b.typ:Int),.string b.lab,.int .u32 (b.hash:Int)],62),(w.heap.size+1,#[.int .i64 0,.bool false,.int .u32 0,.int .u16 0,.string { data := #[] },.int .u32 0],62)] (w4.setCell ⟨w.heap.size,0,none⟩ (.int .i64 (a:Int))):=hL2
    have j0:=(hL2.cell (b:=w.heap.size) (cs := #[.int .i64 (a:Int),.bool true,.int .u32 (b.name:Int),.int .u16 (b.typ:Int),.string b.lab,.int .u32 (b.hash:Int)]) (t:=62) (.head _) 0).trans rfl
    have j1:=(hL2.cell (b:=w.heap.size) (cs := #[.int .i64 (a:Int),.bool true,.int .u32 (b.name:Int),.int .u16 (b.typ:Int),.string b.lab,.int .u32 (b.hash:Int)]) (t:=62) (.head _) 1).trans rfl
    have j2:=(hL2.cell (b:=w.heap.size) (cs := #[.int .i64 (a:Int),.bool true,.int .u32 (b.name:Int),.int .u16 (b.typ:Int),.string b.lab,.int .u32 (b.hash:Int)]) (t:=62) (.head _) 2).trans rfl
    have j3:=(hL2.cell (b:=w.heap.size) (cs := #[.int .i64 (a:Int),.bool true,.int .u32 (b.name:Int),.int .u16 (b.typ:Int),.string b.lab,.int .u32 (b.hash:Int)]) (t:=62) (.head _) 3).trans rfl
    have j4:=(hL2.cell (b:=w.heap.size) (cs := #[.int .i64 (a:Int),.bool true,.int .u32 (b.name:Int),.int .u16 (b.typ:Int),.string b.lab,.int .u32 (b.hash:Int)]) (t:=62) (.head _) 4).trans rfl
    have j5:=(hL2.cell (b:=w.heap.size) (cs := #[.int .i64 (a:Int),.bool true,.int .u32 (b.name:Int),.int .u16 (b.typ:Int),.string b.lab,.int .u32 (b.hash:Int)]) (t:=62) (.head _) 5).trans rfl
    have r0:=(hL2.cell (b:=w.heap.size+1) (cs := #[.int .i64 0,.bool false,.int .u32 0,.int .u16 0,.string { data := #[] },.int .u32 0]) (t:=62) (.tail _ (.head _)) 0).trans rfl
    have r1:=(hL2.cell (b:=w.heap.size+1) (cs := #[.int .i64 0,.bool false,.int .u32 0,.int .u16 0,.string { data := #[] },.int .u32 0]) (t:=62) (.tail _ (.head _)) 1).trans rfl
    have r2:=(hL2.cell (b:=w.heap.size+1) (cs := #[.int .i64 0,.bool false,.int .u32 0,.int .u16 0,.string { data := #[] },.int .u32 0]) (t:=62) (.tail _ (.head _)) 2).trans rfl
    have r3:=(hL2.cell (b:=w.heap.size+1) (cs := #[.int .i64 0,.bool false,.int .u32 0,.int .u16 0,.string { data := #[] },.int .u32 0]) (t:=62) (.tail _ (.head _)) 3).trans rfl
    have r4:=(hL2.cell (b:=w.heap.size+1) (cs := #[.int .i64 0,.bool false,.int .u32 0,.int .u16 0,.string { data := #[] },.int .u32 0]) (t:=62) (.tail _ (.head _)) 4).trans rfl
    have r5:=(hL2.cell (b:=w.heap.size+1) (cs := #[.int .i64 0,.bool false,.int .u32 0,.int .u16 0,.string { data := #[] },.int .u32 0]) (t:=62) (.tail _ (.head _)) 5).trans rfl
    have f0:=hL2.frz (b:=w.heap.size+1) (cs := #[.int .i64 0,.bool false,.int .u32 0,.int .u16 0,.string { data := #[] },.int .u32 0]) (t:=62) (.tail _ (.head _)) 0
    have f1:=hL2.frz (b:=w.heap.size+1) (cs := #[.int .i64 0,.bool false,.int .u32 0,.int .u16 0,.string { data := #[] },.int .u32 0]) (t:=62) (.tail _ (.head _)) 1
    have f2:=hL2.frz (b:=w.heap.size+1) (cs := #[.int .i64 0,.bool false,.int .u32 0,.int .u16 0,.string { data := #[] },.int .u32 0]) (t:=62) (.tail _ (.head _)) 2
    have f3:=hL2.frz (b:=w.heap.size+1) (cs := #[.int .i64 0,.bool false,.int .u32 0,.int .u16 0,.string { data := #[] },.int .u32 0]) (t:=62) (.tail _ (.head _)) 3
    have f4:=hL2.frz (b:=w.heap.size+1) (cs := #[.int .i64 0,.bool false,.int .u32 0,.int .u16 0,.string { data := #[] },.int .u32 0]) (t:=62) (.tail _ (.head _)) 4
    have f5:=hL2.frz (b:=w.heap.size+1) (cs := #[.int .i64 0,.bool false,.int .u32 0,.int .u16 0,.string { data := #[] },.int .u32 0]) (t:=62) (.tail _ (.head _)) 5
    have HS:=Lib.hid ((hL2.perm (L' := [(w.heap.size+1,#[.int .i64 0,.bool false,.int .u32 0,.int .u16 0,.string { data := #[] },.int .u32 0],62),(w.heap.size,#[.int .i64 (a:Int),.bool true,.int .u32 (b.name:Int),.int .u16 (b.typ:Int),.string b.lab,.int .u32 (b.hash:Int)],62)]) (fun p hp=>by
      rcases List.mem_cons.1 hp with rfl | hp
      · exact .tail _ (.head _)
      · rcases List.mem_cons.1 hp with rfl | hp
        · exact .head _
        · cases hp)).set6 (ne1 (by omega)) (.int .i64 (a:Int)) (.bool true) (.int .u32 (b.name:Int)) (.int .u16 (b.typ:Int)) (.string b.lab) (.int .u32 (b.hash:Int)))
    have HW:=Lib.hid (hd4.s6 (b:=w.heap.size+1) (by omega) (.int .i64 (a:Int)) (.bool true) (.int .u32 (b.name:Int)) (.int .u16 (b.typ:Int)) (.string b.lab) (.int .u32 (b.hash:Int)))
    have HA:=Lib.hid haE
    have HA0:Hid (a≠0):=by unfold Hid;omega
    clear hL hL2 hd3 hd4 H128 haE h12
    go_wp2
    show bodyPost _ _ _ _ _ (S6 (w4.setCell ⟨w.heap.size,0,none⟩ (.int .i64 (a:Int))) (w.heap.size+1) (.int .i64 (a:Int)) (.bool true) (.int .u32 (b.name:Int)) (.int .u16 (b.typ:Int)) (.string b.lab) (.int .u32 (b.hash:Int)))
    generalize S6 (w4.setCell ⟨w.heap.size,0,none⟩ (.int .i64 (a:Int))) (w.heap.size+1) (.int .i64 (a:Int)) (.bool true) (.int .u32 (b.name:Int)) (.int .u16 (b.typ:Int)) (.string b.lab) (.int .u32 (b.hash:Int))=W9 at HS HW ⊢
    have q0:=(HS.out.cell (List.mem_cons_self ..) 0).trans rfl
    have q1:=(HS.out.cell (List.mem_cons_self ..) 1).trans rfl
    have q2:=(HS.out.cell (List.mem_cons_self ..) 2).trans rfl
    have q3:=(HS.out.cell (List.mem_cons_self ..) 3).trans rfl
    have q4:=(HS.out.cell (List.mem_cons_self ..) 4).trans rfl
    have q5:=(HS.out.cell (List.mem_cons_self ..) 5).trans rfl
    refine bodyPost_ret (v:=.agg #[.int .i64 (a:Int),.bool true,.int .u32 (b.name:Int),.int .u16 (b.typ:Int),.string b.lab,.int .u32 (b.hash:Int)]) (by simp[results,Tryz.results38,go_sem,q0,q1,q2,q3,q4,q5]) rfl (HE.out a _ _ _ _ _ (HS.out.perm (fun p hp=>.tail _ hp)) HW.out (.inr ⟨HA0.out,HA.out,HQ.out,rfl,rfl,rfl⟩))
end
end Go.Proofs.YtmgeiaglandedaaGreatDoor.Ind

namespace Go.Proofs.YtmgeiaglandedaaGreatDoor.Ind
open Go.RowKit Num
open Pro
open Mem (Mm MemC MRet Hm rd blkM)
open Sla (Sl St Lv pl aT pV Lo)
open Arn (wrL is64)
set_option linter.unusedVariables false
set_option maxRecDepth 100000
section
variable {X:Fx} {l:List Int} {K K':Nat→Nat} {r r':Value} {w w1 w2 w' W W':World} {e e':Ending} {b x a:Nat} {fv:Value} {Gd:World→Prop} {F:Nat} {cp cs:Array Value} {P:Nat→Bool} {L:List (Nat×Array Value×TypeId)} {t:TypeId}
theorem Insert_in (O:Ok 224 (hmX X) K) (d:Ix X K w) (hx:x∈X.E) {i:Nat} (hi:i<224) (hk:K i=x) :
    Calls Tryz.prog 31 #[pV X.h,.int .i64 (x:Int)] w (IxR X K (.int .i64 8) w):=by
  have HT:=Lib.hid (fun W (hW:Ix X K W)=>slots_any hW)
  have HCk:=Lib.hid (fun W (hW:Ix X K W)=>check_any hW hx)
  have hh:=(d.ok hx).hash
  have HB:=Lib.hid (fun W (hW:Ix X K W)=>forBlock_any (x:Int) (X.B x).hash hh (fun W hW=>hash_any hW hx) hW)
  have ho:(X.B x).hash % 224<224:=Nat.mod_lt _ (by omega)
  have hx0:x≠0:=by have:=d.facts hx;omega
  have HSk:=Lib.hid (fun W bA (hbA:¬ blkM X.h bA) (hW:Ix X K W) (hb:W.heap[bA]? = some (.cells #[.int .i64 (x:Int)] 3 (0,0)))=>seekHolds hbA hW hb ho)
  rw[sfR_at O ho hi hx0 hk] at HSk
  simp only at HSk
  generalize (X.B x).hash % 224=o at *
  have hd:=MB.start d
  clear d hx hh ho hx0 hk O
  try unfold sV tV at *
  unfold pV at *
  go_enter Tryz.func31,Tryz.ntmps31
  go_wp2_with fail
  refine(HT.out _ hd.m).mono ?_
  rintro e w1 hq
  obtain rfl:=hq.1
  replace hd:=(hd.step hq).push (tC X) 110
  clear hq HT
  obtain⟨c0,c1,c2⟩:=hd.tcells (.head _)
  go_wp2_with fail
  refine(HCk.out _ hd.m).mono ?_
  rintro e w2 hq
  obtain rfl:=hq.1
  replace hd:=hd.step hq
  clear hq
  clear HCk
  clear c0 c1 c2
  obtain⟨c0,c1,c2⟩:=hd.tcells (.head _)
  go_wp2_with fail
  refine(HB.out _ hd.m).mono ?_
  rintro e w3 ⟨rfl,hm3,hf3,hb3,hn3⟩
  have hsz:=hd.f.size
  replace hd:=((hd.step (⟨rfl,hm3,hf3⟩:IxR X K (.bool true) w2 (.returned (.bool true)) w3)).add hb3 hn3 (by omega)).push (sC X o (w2.heap.size+1)) 115
  clear hm3 hf3 hb3 hsz HB c0 c1 c2
  have HN3:=Lib.hid hn3
  clear hn3
  obtain⟨c0,c1,c2⟩:=hd.tcells (.tail _ (.tail _ (.head _)))
  obtain⟨s0,s1,s2,s3,s4⟩:=hd.scells (.head _)
  go_wp2_with fail
  refine(HSk.out _ (w2.heap.size+1) HN3.out hd.m (hd.bx (w2.heap.size+1,#[.int .i64 (x:Int)],3) (.tail _ (.head _))).1).mono ?_
  rintro e w4 hq
  obtain rfl:=hq.1
  replace hd:=hd.step hq
  clear hq HSk
  clear c0 c1 c2 s0 s1 s2 s3 s4
  obtain⟨c0,c1,c2⟩:=hd.tcells (.tail _ (.tail _ (.head _)))
  obtain⟨s0,s1,s2,s3,s4⟩:=hd.scells (.head _)
  have HE:=Lib.hid (hd.done (.int .i64 8))
  clear hd
  go_wp2
  go_ret
  exact HE.out
theorem Insert_full (d:Ix X K w) (hx:x∈X.E) (hn:∀ i,i<224→K i≠x) (hf:∀ i,i<224→K i≠0) :
    Calls Tryz.prog 31 #[pV X.h,.int .i64 (x:Int)] w (IxR X K (.int .i64 5) w):=by
  have HT:=Lib.hid (fun W (hW:Ix X K W)=>slots_any hW)
  have HCk:=Lib.hid (fun W (hW:Ix X K W)=>check_any hW hx)
  have hh:=(d.ok hx).hash
  have HB:=Lib.hid (fun W (hW:Ix X K W)=>forBlock_any (x:Int) (X.B x).hash hh (fun W hW=>hash_any hW hx) hW)
  have ho:(X.B x).hash % 224<224:=Nat.mod_lt _ (by omega)
  have HSk:=Lib.hid (fun W bA (hbA:¬ blkM X.h bA) (hW:Ix X K W) (hb:W.heap[bA]? = some (.cells #[.int .i64 (x:Int)] 3 (0,0)))=>seekHolds hbA hW hb ho)
  rw[sfR_none ho (fun i hi=>by have:=hn i hi;omega)] at HSk
  have HSe:=Lib.hid (fun W (hW:Ix X K W)=>seekEmpty hW ho)
  rw[sfR_no ho (fun i hi=>by simpa using hf i hi)] at HSe
  simp only at HSk HSe
  rw[show ((0:Nat):Int)=0 from rfl] at HSk HSe
  generalize (X.B x).hash % 224=o at *
  have hd:=MB.start d
  clear d hx hh ho hn hf
  try unfold sV tV at *
  unfold pV at *
  go_enter Tryz.func31,Tryz.ntmps31
  go_wp2_with fail
  refine(HT.out _ hd.m).mono ?_
  rintro e w1 hq
  obtain rfl:=hq.1
  replace hd:=(hd.step hq).push (tC X) 110
  clear hq HT
  obtain⟨c0,c1,c2⟩:=hd.tcells (.head _)
  go_wp2_with fail
  refine(HCk.out _ hd.m).mono ?_
  rintro e w2 hq
  obtain rfl:=hq.1
  replace hd:=hd.step hq
  clear hq
  clear HCk
  clear c0 c1 c2
  obtain⟨c0,c1,c2⟩:=hd.tcells (.head _)
  go_wp2_with fail
  refine(HB.out _ hd.m).mono ?_
  rintro e w3 ⟨rfl,hm3,hf3,hb3,hn3⟩
  have hsz:=hd.f.size
  replace hd:=((hd.step (⟨rfl,hm3,hf3⟩:IxR X K (.bool true) w2 (.returned (.bool true)) w3)).add hb3 hn3 (by omega)).push (sC X o (w2.heap.size+1)) 115
  clear hm3 hf3 hb3 hsz HB c0 c1 c2
  have HN3:=Lib.hid hn3
  clear hn3
  obtain⟨c0,c1,c2⟩:=hd.tcells (.tail _ (.tail _ (.head _)))
  obtain⟨s0,s1,s2,s3,s4⟩:=hd.scells (.head _)
  go_wp2_with fail
  refine(HSk.out _ (w2.heap.size+1) HN3.out hd.m (hd.bx (w2.heap.size+1,#[.int .i64 (x:Int)],3) (.tail _ (.head _))).1).mono ?_
  rintro e w4 hq
  obtain rfl:=hq.1
  replace hd:=hd.step hq
  clear hq HSk
  clear c0 c1 c2 s0 s1 s2 s3 s4
  obtain⟨c0,c1,c2⟩:=hd.tcells (.tail _ (.tail _ (.head _)))
  obtain⟨s0,s1,s2,s3,s4⟩:=hd.scells (.head _)
  go_wp2_with fail
  refine(HSe.out _ hd.m).mono ?_
  rintro e w4 hq
  obtain rfl:=hq.1
  replace hd:=hd.step hq
  clear hq
  have HE:=Lib.hid (hd.done (.int .i64 5))
  clear hd
  go_wp2
  go_ret
  exact HE.out
theorem Insert_ok (d:Ix X K w) (hx:x∈X.E) (hn:∀ i,i<224→K i≠x) {z:Nat} (hz:z<224) (hkz:K z=0) :
    Calls Tryz.prog 31 #[pV X.h,.int .i64 (x:Int)] w (IxR X (insF 224 (hmX X) K x) (.int .i64 0) w):=by
  have HT:=Lib.hid (fun W (hW:Ix X K W)=>slots_any hW)
  have HCk:=Lib.hid (fun W (hW:Ix X K W)=>check_any hW hx)
  have hh:=(d.ok hx).hash
  have HB:=Lib.hid (fun W (hW:Ix X K W)=>forBlock_any (x:Int) (X.B x).hash hh (fun W hW=>hash_any hW hx) hW)
  have ho:(X.B x).hash % 224<224:=Nat.mod_lt _ (by omega)
  have HSk:=Lib.hid (fun W bA (hbA:¬ blkM X.h bA) (hW:Ix X K W) (hb:W.heap[bA]? = some (.cells #[.int .i64 (x:Int)] 3 (0,0)))=>seekHolds hbA hW hb ho)
  rw[sfR_none ho (fun i hi=>by have:=hn i hi;omega)] at HSk
  obtain⟨e1,-,-⟩:=sfR_yes (T:=fun i=>decide (K i=0)) ho hz (by simpa using hkz)
  obtain⟨g1,g2,g3⟩:=sfR_yes (T:=opb 224 (hmX X) K ((X.B x).hash % 224)) ho hz (by unfold opb;simp[hkz])
  have HSe:=Lib.hid (fun W (hW:Ix X K W)=>seekEmpty hW ho)
  rw[e1] at HSe
  have HSo:=Lib.hid (fun W (fv:Value) (hW:Ix X K W)=>seekOpen fv hW ho)
  rw[g1,g2] at HSo
  have hp:ps 224 ((X.B x).hash % 224) (opn 224 (hmX X) K ((X.B x).hash % 224))<224:=ps_lt ho (Nat.le_of_lt g3)
  have hm:emp 224 K (ps 224 ((X.B x).hash % 224) (opn 224 (hmX X) K ((X.B x).hash % 224)))<224:=emp_lt hp hz hkz
  have HP:=Lib.hid (fun W (hW:Ix X K W)=>push_any hW hp hm hx (fun j hj=>by
    have:=sk_no (P:=fun s=>decide (K (ps 224 (ps 224 ((X.B x).hash % 224) (opn 224 (hmX X) K ((X.B x).hash % 224))) s)=0)) (n:=224) hj
    simpa using this) (by
    have:=sk_yes (P:=fun s=>decide (K (ps 224 (ps 224 ((X.B x).hash % 224) (opn 224 (hmX X) K ((X.B x).hash % 224))) s)=0)) (n:=224) hm
    exact of_decide_eq_true this))
  change Hid (∀ W,Ix X K W→Calls Tryz.prog 77 #[tV X.h,.int .i64 (ps 224 ((X.B x).hash % 224) (opn 224 (hmX X) K ((X.B x).hash % 224)):Int),.int .i64 (x:Int)] W (IxR X (insF 224 (hmX X) K x) (.tuple #[]) W)) at HP
  change Hid (∀ W (fv:Value),Ix X K W→Calls Tryz.prog 69 #[tV X.h,.int .i64 (((X.B x).hash % 224:Nat):Int),.func (.func 76) #[sV X.h ((X.B x).hash % 224) fv] #[]] W (IxR X K (.tuple #[.int .i64 (ps 224 ((X.B x).hash % 224) (opn 224 (hmX X) K ((X.B x).hash % 224)):Int),.bool true]) W)) at HSo
  generalize insF 224 (hmX X) K x=K9 at HP ⊢
  generalize ((sfR (fun i=>decide (K i=0)) ((X.B x).hash % 224)).1:Int)=q at HSe
  simp only at HSk
  rw[show ((0:Nat):Int)=0 from rfl] at HSk
  generalize (ps 224 ((X.B x).hash % 224) (opn 224 (hmX X) K ((X.B x).hash % 224)):Int)=p at HP HSo
  generalize (X.B x).hash % 224=o at *
  have hd:=MB.start d
  clear d hx hh ho hn hz hkz e1 g1 g2 g3 hp hm
  try unfold sV tV at *
  unfold pV at *
  go_enter Tryz.func31,Tryz.ntmps31
  go_wp2_with fail
  refine(HT.out _ hd.m).mono ?_
  rintro e w1 hq
  obtain rfl:=hq.1
  replace hd:=(hd.step hq).push (tC X) 110
  clear hq HT
  obtain⟨c0,c1,c2⟩:=hd.tcells (.head _)
  go_wp2_with fail
  refine(HCk.out _ hd.m).mono ?_
  rintro e w2 hq
  obtain rfl:=hq.1
  replace hd:=hd.step hq
  clear hq
  clear HCk
  clear c0 c1 c2
  obtain⟨c0,c1,c2⟩:=hd.tcells (.head _)
  go_wp2_with fail
  refine(HB.out _ hd.m).mono ?_
  rintro e w3 ⟨rfl,hm3,hf3,hb3,hn3⟩
  have hsz:=hd.f.size
  replace hd:=((hd.step (⟨rfl,hm3,hf3⟩:IxR X K (.bool true) w2 (.returned (.bool true)) w3)).add hb3 hn3 (by omega)).push (sC X o (w2.heap.size+1)) 115
  clear hm3 hf3 hb3 hsz HB c0 c1 c2
  have HN3:=Lib.hid hn3
  clear hn3
  obtain⟨c0,c1,c2⟩:=hd.tcells (.tail _ (.tail _ (.head _)))
  obtain⟨s0,s1,s2,s3,s4⟩:=hd.scells (.head _)
  go_wp2_with fail
  refine(HSk.out _ (w2.heap.size+1) HN3.out hd.m (hd.bx (w2.heap.size+1,#[.int .i64 (x:Int)],3) (.tail _ (.head _))).1).mono ?_
  rintro e w4 hq
  obtain rfl:=hq.1
  replace hd:=hd.step hq
  clear hq HSk
  clear c0 c1 c2 s0 s1 s2 s3 s4
  obtain⟨c0,c1,c2⟩:=hd.tcells (.tail _ (.tail _ (.head _)))
  obtain⟨s0,s1,s2,s3,s4⟩:=hd.scells (.head _)
  go_wp2_with fail
  refine(HSe.out _ hd.m).mono ?_
  rintro e w4 hq
  obtain rfl:=hq.1
  replace hd:=hd.step hq
  clear hq
  clear c0 c1 c2 s0 s1 s2 s3 s4
  obtain⟨c0,c1,c2⟩:=hd.tcells (.tail _ (.tail _ (.head _)))
  obtain⟨s0,s1,s2,s3,s4⟩:=hd.scells (.head _)
  go_wp2_with fail
  refine(HSo.out _ _ hd.m).mono ?_
  rintro e w4 hq
  obtain rfl:=hq.1
  replace hd:=hd.step hq
  clear hq
  clear c0 c1 c2 s0 s1 s2 s3 s4
  obtain⟨c0,c1,c2⟩:=hd.tcells (.tail _ (.tail _ (.head _)))
  obtain⟨s0,s1,s2,s3,s4⟩:=hd.scells (.head _)
  go_wp2_with fail
  refine(HP.out _ hd.m).mono ?_
  rintro e w4 hq
  obtain rfl:=hq.1
  replace hd:=hd.step hq
  clear hq
  have HE:=Lib.hid (hd.done (.int .i64 0))
  clear hd
  go_wp2
  go_ret
  exact HE.out
theorem Insert_none (d:Ix X K w) {at':Int} (ha:NoB X at'):Calls Tryz.prog 31 #[pV X.h,.int .i64 at'] w (IxR X K (.int .i64 30) w):=by
  have HT:=Lib.hid (fun W (hW:Ix X K W)=>slots_any hW)
  have HCk:=Lib.hid (fun W (hW:Ix X K W)=>check_none hW ha)
  have hd:=MB.start d
  clear d ha
  try unfold sV tV at *
  unfold pV at *
  go_enter Tryz.func31,Tryz.ntmps31
  go_wp2_with fail
  refine(HT.out _ hd.m).mono ?_
  rintro e w1 hq
  obtain rfl:=hq.1
  replace hd:=(hd.step hq).push (tC X) 110
  clear hq HT
  obtain⟨c0,c1,c2⟩:=hd.tcells (.head _)
  go_wp2_with fail
  refine(HCk.out _ hd.m).mono ?_
  rintro e w2 hq
  obtain rfl:=hq.1
  replace hd:=hd.step hq
  clear hq
  have HE:=Lib.hid (hd.done (.int .i64 30))
  clear hd
  go_wp2
  go_ret
  exact HE.out
theorem Delete_none (d:Ix X K w) {at':Int} (ha:NoB X at'):Calls Tryz.prog 29 #[pV X.h,.int .i64 at'] w (IxR X K (.int .i64 30) w):=by
  have HT:=Lib.hid (fun W (hW:Ix X K W)=>slots_any hW)
  have HCk:=Lib.hid (fun W (hW:Ix X K W)=>check_none hW ha)
  have hd:=MB.start d
  clear d ha
  try unfold sV tV at *
  unfold pV at *
  go_enter Tryz.func29,Tryz.ntmps29
  go_wp2_with fail
  refine(HT.out _ hd.m).mono ?_
  rintro e w1 hq
  obtain rfl:=hq.1
  replace hd:=(hd.step hq).push (tC X) 110
  clear hq HT
  obtain⟨c0,c1,c2⟩:=hd.tcells (.head _)
  go_wp2_with fail
  refine(HCk.out _ hd.m).mono ?_
  rintro e w2 hq
  obtain rfl:=hq.1
  replace hd:=hd.step hq
  clear hq
  have HE:=Lib.hid (hd.done (.int .i64 30))
  clear hd
  go_wp2
  go_ret
  exact HE.out
theorem Delete_out (d:Ix X K w) (hx:x∈X.E) (hn:∀ i,i<224→K i≠x) :
    Calls Tryz.prog 29 #[pV X.h,.int .i64 (x:Int)] w (IxR X K (.int .i64 7) w):=by
  have HT:=Lib.hid (fun W (hW:Ix X K W)=>slots_any hW)
  have HCk:=Lib.hid (fun W (hW:Ix X K W)=>check_any hW hx)
  have hh:=(d.ok hx).hash
  have HB:=Lib.hid (fun W (hW:Ix X K W)=>forBlock_any (x:Int) (X.B x).hash hh (fun W hW=>hash_any hW hx) hW)
  have ho:(X.B x).hash % 224<224:=Nat.mod_lt _ (by omega)
  have HSk:=Lib.hid (fun W bA (hbA:¬ blkM X.h bA) (hW:Ix X K W) (hb:W.heap[bA]? = some (.cells #[.int .i64 (x:Int)] 3 (0,0)))=>seekHolds hbA hW hb ho)
  rw[sfR_none ho (fun i hi=>by have:=hn i hi;omega)] at HSk
  simp only at HSk
  rw[show ((0:Nat):Int)=0 from rfl] at HSk
  generalize (X.B x).hash % 224=o at *
  have hd:=MB.start d
  clear d hx hh ho hn
  try unfold sV tV at *
  unfold pV at *
  go_enter Tryz.func29,Tryz.ntmps29
  go_wp2_with fail
  refine(HT.out _ hd.m).mono ?_
  rintro e w1 hq
  obtain rfl:=hq.1
  replace hd:=(hd.step hq).push (tC X) 110
  clear hq HT
  obtain⟨c0,c1,c2⟩:=hd.tcells (.head _)
  go_wp2_with fail
  refine(HCk.out _ hd.m).mono ?_
  rintro e w2 hq
  obtain rfl:=hq.1
  replace hd:=hd.step hq
  clear hq
  clear HCk
  clear c0 c1 c2
  obtain⟨c0,c1,c2⟩:=hd.tcells (.head _)
  go_wp2_with fail
  refine(HB.out _ hd.m).mono ?_
  rintro e w3 ⟨rfl,hm3,hf3,hb3,hn3⟩
  have hsz:=hd.f.size
  replace hd:=((hd.step (⟨rfl,hm3,hf3⟩:IxR X K (.bool true) w2 (.returned (.bool true)) w3)).add hb3 hn3 (by omega)).push (sC X o (w2.heap.size+1)) 115
  clear hm3 hf3 hb3 hsz HB c0 c1 c2
  have HN3:=Lib.hid hn3
  clear hn3
  obtain⟨c0,c1,c2⟩:=hd.tcells (.tail _ (.tail _ (.head _)))
  obtain⟨s0,s1,s2,s3,s4⟩:=hd.scells (.head _)
  go_wp2_with fail
  refine(HSk.out _ (w2.heap.size+1) HN3.out hd.m (hd.bx (w2.heap.size+1,#[.int .i64 (x:Int)],3) (.tail _ (.head _))).1).mono ?_
  rintro e w4 hq
  obtain rfl:=hq.1
  replace hd:=hd.step hq
  clear hq HSk
  clear c0 c1 c2 s0 s1 s2 s3 s4
  obtain⟨c0,c1,c2⟩:=hd.tcells (.tail _ (.tail _ (.head _)))
  obtain⟨s0,s1,s2,s3,s4⟩:=hd.scells (.head _)
  have HE:=Lib.hid (hd.done (.int .i64 7))
  clear hd
  go_wp2
  go_ret
  exact HE.out
theorem Delete_ok (O:Ok 224 (hmX X) K) (d:Ix X K w) (hx:x∈X.E) {i:Nat} (hi:i<224) (hk:K i=x) :
    Calls Tryz.prog 29 #[pV X.h,.int .i64 (x:Int)] w (IxR X (delF 224 (hmX X) K i) (.int .i64 0) w):=by
  have HT:=Lib.hid (fun W (hW:Ix X K W)=>slots_any hW)
  have HCk:=Lib.hid (fun W (hW:Ix X K W)=>check_any hW hx)
  have hh:=(d.ok hx).hash
  have HB:=Lib.hid (fun W (hW:Ix X K W)=>forBlock_any (x:Int) (X.B x).hash hh (fun W hW=>hash_any hW hx) hW)
  have ho:(X.B x).hash % 224<224:=Nat.mod_lt _ (by omega)
  have hx0:x≠0:=by have:=d.facts hx;omega
  have HSk:=Lib.hid (fun W bA (hbA:¬ blkM X.h bA) (hW:Ix X K W) (hb:W.heap[bA]? = some (.cells #[.int .i64 (x:Int)] 3 (0,0)))=>seekHolds hbA hW hb ho)
  rw[sfR_at O ho hi hx0 hk] at HSk
  simp only at HSk
  have HP:=Lib.hid (fun W (hW:Ix X K W)=>pull_any hW hi)
  generalize delF 224 (hmX X) K i=K9 at HP ⊢
  generalize (X.B x).hash % 224=o at *
  have hd:=MB.start d
  clear d hx hh ho hx0 hk O
  try unfold sV tV at *
  unfold pV at *
  go_enter Tryz.func29,Tryz.ntmps29
  go_wp2_with fail
  refine(HT.out _ hd.m).mono ?_
  rintro e w1 hq
  obtain rfl:=hq.1
  replace hd:=(hd.step hq).push (tC X) 110
  clear hq HT
  obtain⟨c0,c1,c2⟩:=hd.tcells (.head _)
  go_wp2_with fail
  refine(HCk.out _ hd.m).mono ?_
  rintro e w2 hq
  obtain rfl:=hq.1
  replace hd:=hd.step hq
  clear hq
  clear HCk
  clear c0 c1 c2
  obtain⟨c0,c1,c2⟩:=hd.tcells (.head _)
  go_wp2_with fail
  refine(HB.out _ hd.m).mono ?_
  rintro e w3 ⟨rfl,hm3,hf3,hb3,hn3⟩
  have hsz:=hd.f.size
  replace hd:=((hd.step (⟨rfl,hm3,hf3⟩:IxR X K (.bool true) w2 (.returned (.bool true)) w3)).add hb3 hn3 (by omega)).push (sC X o (w2.heap.size+1)) 115
  clear hm3 hf3 hb3 hsz HB c0 c1 c2
  have HN3:=Lib.hid hn3
  clear hn3
  obtain⟨c0,c1,c2⟩:=hd.tcells (.tail _ (.tail _ (.head _)))
  obtain⟨s0,s1,s2,s3,s4⟩:=hd.scells (.head _)
  go_wp2_with fail
  refine(HSk.out _ (w2.heap.size+1) HN3.out hd.m (hd.bx (w2.heap.size+1,#[.int .i64 (x:Int)],3) (.tail _ (.head _))).1).mono ?_
  rintro e w4 hq
  obtain rfl:=hq.1
  replace hd:=hd.step hq
  clear hq HSk
  clear c0 c1 c2 s0 s1 s2 s3 s4
  obtain⟨c0,c1,c2⟩:=hd.tcells (.tail _ (.tail _ (.head _)))
  obtain⟨s0,s1,s2,s3,s4⟩:=hd.scells (.head _)
  go_wp2_with fail
  refine(HP.out _ hd.m).mono ?_
  rintro e w4 hq
  obtain rfl:=hq.1
  replace hd:=hd.step hq
  clear hq
  have HE:=Lib.hid (hd.done (.int .i64 0))
  clear hd
  go_wp2
  go_ret
  exact HE.out
theorem Move_none (d:Ix X K w) {at' b':Int} (ha:NoB X at'):Calls Tryz.prog 37 #[pV X.h,.int .i64 at',.int .i64 b'] w (IxR X K (.int .i64 30) w):=by
  have HT:=Lib.hid (fun W (hW:Ix X K W)=>slots_any hW)
  have HCk:=Lib.hid (fun W (hW:Ix X K W)=>check_none hW ha)
  have hd:=MB.start d
  clear d ha
  try unfold sV tV at *
  unfold pV at *
  go_enter Tryz.func37,Tryz.ntmps37
  go_wp2_with fail
  refine(HT.out _ hd.m).mono ?_
  rintro e w1 hq
  obtain rfl:=hq.1
  replace hd:=(hd.step hq).push (tC X) 110
  clear hq HT
  obtain⟨c0,c1,c2⟩:=hd.tcells (.head _)
  go_wp2_with fail
  refine(HCk.out _ hd.m).mono ?_
  rintro e w2 hq
  obtain rfl:=hq.1
  replace hd:=hd.step hq
  clear hq
  have HE:=Lib.hid (hd.done (.int .i64 30))
  clear hd
  go_wp2
  go_ret
  exact HE.out
end
end Go.Proofs.YtmgeiaglandedaaGreatDoor.Ind

namespace Go.Proofs.YtmgeiaglandedaaGreatDoor.Ind
open Go.RowKit Num
open Pro
open Mem (Mm MemC MRet Hm rd blkM)
open Sla (Sl St Lv pl aT pV Lo)
open Arn (wrL is64)
set_option linter.unusedVariables false
set_option maxRecDepth 100000
section
variable {X:Fx} {l:List Int} {K K':Nat→Nat} {r r':Value} {w w1 w2 w' W W':World} {e e':Ending} {b x a:Nat} {fv:Value} {Gd:World→Prop} {F:Nat} {cp cs:Array Value} {P:Nat→Bool} {L:List (Nat×Array Value×TypeId)} {t:TypeId}
theorem Move_unlike {y:Nat} (d:Ix X K w) (hx:x∈X.E) (hy:y∈X.E) (hne:(X.B x).hash≠(X.B y).hash) :
    Calls Tryz.prog 37 #[pV X.h,.int .i64 (x:Int),.int .i64 (y:Int)] w (IxR X K (.int .i64 30) w):=by
  have HT:=Lib.hid (fun W (hW:Ix X K W)=>slots_any hW)
  have HCk:=Lib.hid (fun W (hW:Ix X K W)=>check_any hW hx)
  have HCy:=Lib.hid (fun W (hW:Ix X K W)=>check_any hW hy)
  have HHx:=Lib.hid (fun W (hW:Ix X K W)=>hash_any hW hx)
  have HHy:=Lib.hid (fun W (hW:Ix X K W)=>hash_any hW hy)
  obtain⟨hx1,e1⟩:∃ z:Int,z=((X.B x).hash:Int):=⟨_,rfl⟩
  obtain⟨hy1,e2⟩:∃ z:Int,z=((X.B y).hash:Int):=⟨_,rfl⟩
  rw[←e1] at HHx
  rw[←e2] at HHy
  have hq1:(hx1 != hy1)=true:=by rw[bne_iff_ne];omega
  have hd:=MB.start d
  clear d hx hy e1 e2 hne
  try unfold sV tV at *
  unfold pV at *
  go_enter Tryz.func37,Tryz.ntmps37
  go_wp2_with fail
  refine(HT.out _ hd.m).mono ?_
  rintro e w1 hq
  obtain rfl:=hq.1
  replace hd:=(hd.step hq).push (tC X) 110
  clear hq HT
  obtain⟨c0,c1,c2⟩:=hd.tcells (.head _)
  go_wp2_with fail
  refine(HCk.out _ hd.m).mono ?_
  rintro e w2 hq
  obtain rfl:=hq.1
  replace hd:=hd.step hq
  clear hq
  clear HCk
  clear c0 c1 c2
  obtain⟨c0,c1,c2⟩:=hd.tcells (.head _)
  go_wp2_with fail
  refine(HCy.out _ hd.m).mono ?_
  rintro e w2 hq
  obtain rfl:=hq.1
  replace hd:=hd.step hq
  clear hq
  clear HCy
  clear c0 c1 c2
  obtain⟨c0,c1,c2⟩:=hd.tcells (.head _)
  have HX1:Hid (∀ (kk:KM (fun V=>MB X K w [(w1.heap.size,tC X,110)] V)) (z:Int),z=(x:Int)→Calls Tryz.prog 84 #[.agg #[.pointer (some ⟨X.h.g,0,none⟩),.int .i64 240,.int .i64 224],.int .i64 z] kk.w fun e w'=>e = .returned (.int .u32 hx1)∧MB X K w [(w1.heap.size,tC X,110)] w'):=fun kk z hz=>hz ▸ (HHx.out _ kk.ok.m).mono fun e w' q=>⟨q.1,kk.ok.step q⟩
  have HY1:Hid (∀ (kk:KM (fun V=>MB X K w [(w1.heap.size,tC X,110)] V)) (z:Int),z=(y:Int)→Calls Tryz.prog 84 #[.agg #[.pointer (some ⟨X.h.g,0,none⟩),.int .i64 240,.int .i64 224],.int .i64 z] kk.w fun e w'=>e = .returned (.int .u32 hy1)∧MB X K w [(w1.heap.size,tC X,110)] w'):=fun kk z hz=>hz ▸ (HHy.out _ kk.ok.m).mono fun e w' q=>⟨q.1,kk.ok.step q⟩
  have k0:∀ kk:KM (fun V=>MB X K w [(w1.heap.size,tC X,110)] V),kk.w.cell? ⟨w1.heap.size,0,none⟩=some (.pointer (some ⟨X.h.g,0,none⟩)):=fun kk=>(kk.ok.tcells (.head _)).1
  have k1:∀ kk:KM (fun V=>MB X K w [(w1.heap.size,tC X,110)] V),kk.w.cell? ⟨w1.heap.size,1,none⟩=some (.int .i64 240):=fun kk=>(kk.ok.tcells (.head _)).2.1
  have k2:∀ kk:KM (fun V=>MB X K w [(w1.heap.size,tC X,110)] V),kk.w.cell? ⟨w1.heap.size,2,none⟩=some (.int .i64 224):=fun kk=>(kk.ok.tcells (.head _)).2.2
  go_wp2_with fail
  refine wp_region_km (Φ := fun V=>MB X K w [(w1.heap.size,tC X,110)] V) (by kernel_rfl) (by kernel_rfl) (hd.drew) ?_
  intro hne
  repeat (first | (go_big_quiet_step ((first | (go_at_call 84;exact Calls.km_of (HX1.out _ _ (by with_reducible rfl))) | (go_at_call 84;exact Calls.km_of (HY1.out _ _ (by with_reducible rfl)))))) | (quiet_step (first | rfl | (first | (go_at_call 84;exact Calls.km_of (HX1.out _ _ (by with_reducible rfl))) | (go_at_call 84;exact Calls.km_of (HY1.out _ _ (by with_reducible rfl)))))))
  refine wpQuiet_nil ?_
  intro _ hw'
  obtain⟨kk,rfl⟩:=hw'
  replace hd:=kk.ok
  clear HX1 HY1 HHx HHy k0 k1 k2
  obtain⟨w2,hw2⟩:∃ w2,w2=kk.w:=⟨_,rfl⟩
  rw[←hw2] at hd ⊢
  clear hw2
  clear c0 c1 c2
  obtain⟨c0,c1,c2⟩:=hd.tcells (.head _)
  have HE:=Lib.hid (hd.done (.int .i64 30))
  clear hd
  go_wp2
  go_ret
  exact HE.out
theorem Move_out {y:Nat} (d:Ix X K w) (hx:x∈X.E) (hy:y∈X.E) (heq:(X.B x).hash=(X.B y).hash) (hn:∀ i,i<224→K i≠x) :
    Calls Tryz.prog 37 #[pV X.h,.int .i64 (x:Int),.int .i64 (y:Int)] w (IxR X K (.int .i64 7) w):=by
  have HT:=Lib.hid (fun W (hW:Ix X K W)=>slots_any hW)
  have HCk:=Lib.hid (fun W (hW:Ix X K W)=>check_any hW hx)
  have hh:=(d.ok hx).hash
  have HB:=Lib.hid (fun W (hW:Ix X K W)=>forBlock_any (x:Int) (X.B x).hash hh (fun W hW=>hash_any hW hx) hW)
  have ho:(X.B x).hash % 224<224:=Nat.mod_lt _ (by omega)
  have HCy:=Lib.hid (fun W (hW:Ix X K W)=>check_any hW hy)
  have HHx:=Lib.hid (fun W (hW:Ix X K W)=>hash_any hW hx)
  have HHy:=Lib.hid (fun W (hW:Ix X K W)=>hash_any hW hy)
  obtain⟨hx1,e1⟩:∃ z:Int,z=((X.B x).hash:Int):=⟨_,rfl⟩
  obtain⟨hy1,e2⟩:∃ z:Int,z=((X.B y).hash:Int):=⟨_,rfl⟩
  rw[←e1] at HHx
  rw[←e2] at HHy
  have hq1:(hx1 != hy1)=false:=by rw[bne_eq_false_iff_eq];omega
  have HSk:=Lib.hid (fun W bA (hbA:¬ blkM X.h bA) (hW:Ix X K W) (hb:W.heap[bA]? = some (.cells #[.int .i64 (x:Int)] 3 (0,0)))=>seekHolds hbA hW hb ho)
  rw[sfR_none ho (fun i hi=>by have:=hn i hi;omega)] at HSk
  simp only at HSk
  rw[show ((0:Nat):Int)=0 from rfl] at HSk
  generalize (X.B x).hash % 224=o at *
  have hd:=MB.start d
  clear d hx hy hh ho e1 e2 heq hn
  try unfold sV tV at *
  unfold pV at *
  go_enter Tryz.func37,Tryz.ntmps37
  go_wp2_with fail
  refine(HT.out _ hd.m).mono ?_
  rintro e w1 hq
  obtain rfl:=hq.1
  replace hd:=(hd.step hq).push (tC X) 110
  clear hq HT
  obtain⟨c0,c1,c2⟩:=hd.tcells (.head _)
  go_wp2_with fail
  refine(HCk.out _ hd.m).mono ?_
  rintro e w2 hq
  obtain rfl:=hq.1
  replace hd:=hd.step hq
  clear hq
  clear HCk
  clear c0 c1 c2
  obtain⟨c0,c1,c2⟩:=hd.tcells (.head _)
  go_wp2_with fail
  refine(HCy.out _ hd.m).mono ?_
  rintro e w2 hq
  obtain rfl:=hq.1
  replace hd:=hd.step hq
  clear hq
  clear HCy
  clear c0 c1 c2
  obtain⟨c0,c1,c2⟩:=hd.tcells (.head _)
  have HX1:Hid (∀ (kk:KM (fun V=>MB X K w [(w1.heap.size,tC X,110)] V)) (z:Int),z=(x:Int)→Calls Tryz.prog 84 #[.agg #[.pointer (some ⟨X.h.g,0,none⟩),.int .i64 240,.int .i64 224],.int .i64 z] kk.w fun e w'=>e = .returned (.int .u32 hx1)∧MB X K w [(w1.heap.size,tC X,110)] w'):=fun kk z hz=>hz ▸ (HHx.out _ kk.ok.m).mono fun e w' q=>⟨q.1,kk.ok.step q⟩
  have HY1:Hid (∀ (kk:KM (fun V=>MB X K w [(w1.heap.size,tC X,110)] V)) (z:Int),z=(y:Int)→Calls Tryz.prog 84 #[.agg #[.pointer (some ⟨X.h.g,0,none⟩),.int .i64 240,.int .i64 224],.int .i64 z] kk.w fun e w'=>e = .returned (.int .u32 hy1)∧MB X K w [(w1.heap.size,tC X,110)] w'):=fun kk z hz=>hz ▸ (HHy.out _ kk.ok.m).mono fun e w' q=>⟨q.1,kk.ok.step q⟩
  have k0:∀ kk:KM (fun V=>MB X K w [(w1.heap.size,tC X,110)] V),kk.w.cell? ⟨w1.heap.size,0,none⟩=some (.pointer (some ⟨X.h.g,0,none⟩)):=fun kk=>(kk.ok.tcells (.head _)).1
  have k1:∀ kk:KM (fun V=>MB X K w [(w1.heap.size,tC X,110)] V),kk.w.cell? ⟨w1.heap.size,1,none⟩=some (.int .i64 240):=fun kk=>(kk.ok.tcells (.head _)).2.1
  have k2:∀ kk:KM (fun V=>MB X K w [(w1.heap.size,tC X,110)] V),kk.w.cell? ⟨w1.heap.size,2,none⟩=some (.int .i64 224):=fun kk=>(kk.ok.tcells (.head _)).2.2
  go_wp2_with fail
  refine wp_region_km (Φ := fun V=>MB X K w [(w1.heap.size,tC X,110)] V) (by kernel_rfl) (by kernel_rfl) (hd.drew) ?_
  intro hne
  repeat (first | (go_big_quiet_step ((first | (go_at_call 84;exact Calls.km_of (HX1.out _ _ (by with_reducible rfl))) | (go_at_call 84;exact Calls.km_of (HY1.out _ _ (by with_reducible rfl)))))) | (quiet_step (first | rfl | (first | (go_at_call 84;exact Calls.km_of (HX1.out _ _ (by with_reducible rfl))) | (go_at_call 84;exact Calls.km_of (HY1.out _ _ (by with_reducible rfl)))))))
  refine wpQuiet_nil ?_
  intro _ hw'
  obtain⟨kk,rfl⟩:=hw'
  replace hd:=kk.ok
  clear HX1 HY1 HHx HHy k0 k1 k2
  obtain⟨w2,hw2⟩:∃ w2,w2=kk.w:=⟨_,rfl⟩
  rw[←hw2] at hd ⊢
  clear hw2
  clear c0 c1 c2
  obtain⟨c0,c1,c2⟩:=hd.tcells (.head _)
  go_wp2_with fail
  refine(HB.out _ hd.m).mono ?_
  rintro e w3 ⟨rfl,hm3,hf3,hb3,hn3⟩
  have hsz:=hd.f.size
  replace hd:=((hd.step (⟨rfl,hm3,hf3⟩:IxR X K (.bool true) w2 (.returned (.bool true)) w3)).add hb3 hn3 (by omega)).push (sC X o (w2.heap.size+1)) 115
  clear hm3 hf3 hb3 hsz HB c0 c1 c2
  have HN3:=Lib.hid hn3
  clear hn3
  obtain⟨c0,c1,c2⟩:=hd.tcells (.tail _ (.tail _ (.head _)))
  obtain⟨s0,s1,s2,s3,s4⟩:=hd.scells (.head _)
  go_wp2_with fail
  refine(HSk.out _ (w2.heap.size+1) HN3.out hd.m (hd.bx (w2.heap.size+1,#[.int .i64 (x:Int)],3) (.tail _ (.head _))).1).mono ?_
  rintro e w4 hq
  obtain rfl:=hq.1
  replace hd:=hd.step hq
  clear hq HSk
  clear c0 c1 c2 s0 s1 s2 s3 s4
  obtain⟨c0,c1,c2⟩:=hd.tcells (.tail _ (.tail _ (.head _)))
  obtain⟨s0,s1,s2,s3,s4⟩:=hd.scells (.head _)
  have HE:=Lib.hid (hd.done (.int .i64 7))
  clear hd
  go_wp2
  go_ret
  exact HE.out
theorem Move_ok {y:Nat} (O:Ok 224 (hmX X) K) (d:Ix X K w) (hx:x∈X.E) (hy:y∈X.E) (heq:(X.B x).hash=(X.B y).hash) {i:Nat} (hi:i<224) (hk:K i=x) :
    Calls Tryz.prog 37 #[pV X.h,.int .i64 (x:Int),.int .i64 (y:Int)] w (IxR X (up K i y) (.int .i64 0) w):=by
  have HT:=Lib.hid (fun W (hW:Ix X K W)=>slots_any hW)
  have HCk:=Lib.hid (fun W (hW:Ix X K W)=>check_any hW hx)
  have hh:=(d.ok hx).hash
  have HB:=Lib.hid (fun W (hW:Ix X K W)=>forBlock_any (x:Int) (X.B x).hash hh (fun W hW=>hash_any hW hx) hW)
  have ho:(X.B x).hash % 224<224:=Nat.mod_lt _ (by omega)
  have HCy:=Lib.hid (fun W (hW:Ix X K W)=>check_any hW hy)
  have HHx:=Lib.hid (fun W (hW:Ix X K W)=>hash_any hW hx)
  have HHy:=Lib.hid (fun W (hW:Ix X K W)=>hash_any hW hy)
  obtain⟨hx1,e1⟩:∃ z:Int,z=((X.B x).hash:Int):=⟨_,rfl⟩
  obtain⟨hy1,e2⟩:∃ z:Int,z=((X.B y).hash:Int):=⟨_,rfl⟩
  rw[←e1] at HHx
  rw[←e2] at HHy
  have hq1:(hx1 != hy1)=false:=by rw[bne_eq_false_iff_eq];omega
  have hx0:x≠0:=by have:=d.facts hx;omega
  have HSk:=Lib.hid (fun W bA (hbA:¬ blkM X.h bA) (hW:Ix X K W) (hb:W.heap[bA]? = some (.cells #[.int .i64 (x:Int)] 3 (0,0)))=>seekHolds hbA hW hb ho)
  rw[sfR_at O ho hi hx0 hk] at HSk
  simp only at HSk
  have HP:=Lib.hid (fun W (hW:Ix X K W)=>set_any hW hi (v:=y) (.inr hy))
  generalize up K i y=K9 at HP ⊢
  generalize (X.B x).hash % 224=o at *
  have hd:=MB.start d
  clear d hx hy hh ho hx0 hk O e1 e2 heq
  try unfold sV tV at *
  unfold pV at *
  go_enter Tryz.func37,Tryz.ntmps37
  go_wp2_with fail
  refine(HT.out _ hd.m).mono ?_
  rintro e w1 hq
  obtain rfl:=hq.1
  replace hd:=(hd.step hq).push (tC X) 110
  clear hq HT
  obtain⟨c0,c1,c2⟩:=hd.tcells (.head _)
  go_wp2_with fail
  refine(HCk.out _ hd.m).mono ?_
  rintro e w2 hq
  obtain rfl:=hq.1
  replace hd:=hd.step hq
  clear hq
  clear HCk
  clear c0 c1 c2
  obtain⟨c0,c1,c2⟩:=hd.tcells (.head _)
  go_wp2_with fail
  refine(HCy.out _ hd.m).mono ?_
  rintro e w2 hq
  obtain rfl:=hq.1
  replace hd:=hd.step hq
  clear hq
  clear HCy
  clear c0 c1 c2
  obtain⟨c0,c1,c2⟩:=hd.tcells (.head _)
  have HX1:Hid (∀ (kk:KM (fun V=>MB X K w [(w1.heap.size,tC X,110)] V)) (z:Int),z=(x:Int)→Calls Tryz.prog 84 #[.agg #[.pointer (some ⟨X.h.g,0,none⟩),.int .i64 240,.int .i64 224],.int .i64 z] kk.w fun e w'=>e = .returned (.int .u32 hx1)∧MB X K w [(w1.heap.size,tC X,110)] w'):=fun kk z hz=>hz ▸ (HHx.out _ kk.ok.m).mono fun e w' q=>⟨q.1,kk.ok.step q⟩
  have HY1:Hid (∀ (kk:KM (fun V=>MB X K w [(w1.heap.size,tC X,110)] V)) (z:Int),z=(y:Int)→Calls Tryz.prog 84 #[.agg #[.pointer (some ⟨X.h.g,0,none⟩),.int .i64 240,.int .i64 224],.int .i64 z] kk.w fun e w'=>e = .returned (.int .u32 hy1)∧MB X K w [(w1.heap.size,tC X,110)] w'):=fun kk z hz=>hz ▸ (HHy.out _ kk.ok.m).mono fun e w' q=>⟨q.1,kk.ok.step q⟩
  have k0:∀ kk:KM (fun V=>MB X K w [(w1.heap.size,tC X,110)] V),kk.w.cell? ⟨w1.heap.size,0,none⟩=some (.pointer (some ⟨X.h.g,0,none⟩)):=fun kk=>(kk.ok.tcells (.head _)).1
  have k1:∀ kk:KM (fun V=>MB X K w [(w1.heap.size,tC X,110)] V),kk.w.cell? ⟨w1.heap.size,1,none⟩=some (.int .i64 240):=fun kk=>(kk.ok.tcells (.head _)).2.1
  have k2:∀ kk:KM (fun V=>MB X K w [(w1.heap.size,tC X,110)] V),kk.w.cell? ⟨w1.heap.size,2,none⟩=some (.int .i64 224):=fun kk=>(kk.ok.tcells (.head _)).2.2
  go_wp2_with fail
  refine wp_region_km (Φ := fun V=>MB X K w [(w1.heap.size,tC X,110)] V) (by kernel_rfl) (by kernel_rfl) (hd.drew) ?_
  intro hne
  repeat (first | (go_big_quiet_step ((first | (go_at_call 84;exact Calls.km_of (HX1.out _ _ (by with_reducible rfl))) | (go_at_call 84;exact Calls.km_of (HY1.out _ _ (by with_reducible rfl)))))) | (quiet_step (first | rfl | (first | (go_at_call 84;exact Calls.km_of (HX1.out _ _ (by with_reducible rfl))) | (go_at_call 84;exact Calls.km_of (HY1.out _ _ (by with_reducible rfl)))))))
  refine wpQuiet_nil ?_
  intro _ hw'
  obtain⟨kk,rfl⟩:=hw'
  replace hd:=kk.ok
  clear HX1 HY1 HHx HHy k0 k1 k2
  obtain⟨w2,hw2⟩:∃ w2,w2=kk.w:=⟨_,rfl⟩
  rw[←hw2] at hd ⊢
  clear hw2
  clear c0 c1 c2
  obtain⟨c0,c1,c2⟩:=hd.tcells (.head _)
  go_wp2_with fail
  refine(HB.out _ hd.m).mono ?_
  rintro e w3 ⟨rfl,hm3,hf3,hb3,hn3⟩
  have hsz:=hd.f.size
  replace hd:=((hd.step (⟨rfl,hm3,hf3⟩:IxR X K (.bool true) w2 (.returned (.bool true)) w3)).add hb3 hn3 (by omega)).push (sC X o (w2.heap.size+1)) 115
  clear hm3 hf3 hb3 hsz HB c0 c1 c2
  have HN3:=Lib.hid hn3
  clear hn3
  obtain⟨c0,c1,c2⟩:=hd.tcells (.tail _ (.tail _ (.head _)))
  obtain⟨s0,s1,s2,s3,s4⟩:=hd.scells (.head _)
  go_wp2_with fail
  refine(HSk.out _ (w2.heap.size+1) HN3.out hd.m (hd.bx (w2.heap.size+1,#[.int .i64 (x:Int)],3) (.tail _ (.head _))).1).mono ?_
  rintro e w4 hq
  obtain rfl:=hq.1
  replace hd:=hd.step hq
  clear hq HSk
  clear c0 c1 c2 s0 s1 s2 s3 s4
  obtain⟨c0,c1,c2⟩:=hd.tcells (.tail _ (.tail _ (.head _)))
  obtain⟨s0,s1,s2,s3,s4⟩:=hd.scells (.head _)
  go_wp2_with fail
  refine(HP.out _ hd.m).mono ?_
  rintro e w4 hq
  obtain rfl:=hq.1
  replace hd:=hd.step hq
  clear hq
  have HE:=Lib.hid (hd.done (.int .i64 0))
  clear hd
  go_wp2
  go_ret
  exact HE.out
end
end Go.Proofs.YtmgeiaglandedaaGreatDoor.Ind

namespace Go.Proofs.YtmgeiaglandedaaGreatDoor.Ind
open Go.RowKit Num
open Pro
open Mem (Mm MemC MRet Hm rd blkM)
open Lis (Cf LM LR Tb)
open Sla (Sl St Lv pl aT pV Lo Tk Tkn Gvn Kp tkF gvF Ts mem_lt bl_in zero_v X0 SM)
open Arn (wrL is64)
open Rin (st_self st_len st_bytes lv_at)
set_option linter.unusedVariables false
set_option maxRecDepth 100000
def B0 (x:Nat):Bk:=⟨false,0,0,[],0,1,0,false,0,0,0,0⟩
theorem rd_zero {l:List Int} {a:Nat} (ha:a+4≤l.length) (h:∀ t,a≤t→t<a+4→l.getD t 0=0):rd l a 4=0:=by
  have e:(l.drop a).take 4 = [0,0,0,0]:=by
    refine Mem.list_of_getD (by simp;omega) (fun i hi=>?_)
    have h1:i<4:=by simp at hi;omega
    rw[take_getD _ _ _ h1,drop_getD,h (a+i) (by omega) (by omega)]
    have:i=0∨i=1∨i=2∨i=3:=by omega
    rcases this with rfl | rfl | rfl | rfl<;>rfl
  unfold rd
  rw[e]
  rfl
section
variable {h:Hm} {l0 l l' lb lb':List Int} {T T':List Sl} {w0 w w' W W':World} {n a x y:Nat} {E:List Nat} {B:Nat→Bk} {K K':Nat→Nat} {e:Ending} {r:Value}
theorem fresh_any (w:World) (ht:Ts w):Calls Tryz.prog 26 #[] w fun e w'=>∃ h lb,e = .returned (pV h)∧Wi w h w'.heap.size X0 [] B0 lb (fun _=>0) w'∧Below w.heap.size w w':=by
  have hr:Lay.rightC ((7:Nat):Int) ((224:Nat):Int)=true:=by decide
  have HN:=Lib.hid (Sla.new_z false 7 224 w hr ht.t ht.h)
  have HB:=Lib.hid (fun h W (d:SM h (Lis.newCf 7 224) (Sla.newL 7 224) W)=>Sla.begin_low (fun t ht=>Sla.newL_far 7 224 ht) hr d)
  have HR:=Lib.hid (fun(h:Hm) (l:List Int) W (d:Ix (fx h X0 [] B0 l) (fun _=>0) W)=>Begin_any d)
  have HS:Hid (∀ h (l:List Int) W,St h 7 224 l l X0 W→(∀ t,128+16*7≤t→l.getD t 0=(Sla.newL 7 224).getD t 0)→Ix (fx h X0 [] B0 l) (fun _=>0) W):=fun h l W hs hz=>by
    have hl:=st_len hs
    rw[show Lay.sizeT 7 224=8304 by decide] at hl
    exact⟨l,⟨hs,fun x hx=>(by cases hx),fun x hx=>(by cases hx),fun i hi=>rd_zero (by omega) (fun t q1 q2=>by rw[hz t (by omega)];exact Sla.newL_far 7 224 (by omega)),fun i hi hk=>absurd rfl hk⟩,Nc.refl _⟩
  rw[show ((7:Nat):Int)=7 from rfl,show ((224:Nat):Int)=224 from rfl] at HN
  change Hid (∀ h W,_→Calls _ _ _ _ fun e w'=>∃ l',_∧St h 7 224 l' l' X0 w'∧_) at HB
  generalize X0=Y0 at *
  obtain⟨K0,hK0⟩:∃ K0:Nat→Nat,K0=fun _=>0:=⟨_,rfl⟩
  have HOk:Hid (Ok 224 (hmB B0) K0):=ok_zero (by omega) _ (fun i _=>by rw[hK0])
  rw[←hK0] at HR HS ⊢
  clear ht hr hK0
  unfold pV at *
  go_enter Tryz.func26,Tryz.ntmps26
  go_wp2_with fail
  refine HN.out.mono ?_
  rintro e w1 ⟨h,rfl,hd1,hb1,hk,hz⟩
  have HZ:=Lib.hid hz
  have HK:=Lib.hid hk
  have HB1:=Lib.hid hb1
  clear hz hk hb1 HN
  go_wp2_with fail
  refine(HB.out _ _ hd1).mono ?_
  rintro e w2 ⟨l2,rfl,hd2,hf2,hl2⟩
  have HB2:=Lib.hid (HB1.out.trans (hf2.toBelow HB1.out.size (fun k hlt q=>by have:=HK.out k q;omega)))
  have hx2:=HS.out h l2 w2 hd2 hl2
  clear hf2 HB hd1 HB1 hd2 hl2 HS
  go_wp2_with fail
  refine(HR.out _ _ _ hx2).mono ?_
  rintro e w3 hq
  obtain rfl:=hq.1
  have HB3:=Lib.hid (HB2.out.trans (hq.2.2.toBelow HB2.out.size (fun k hlt q=>by have:=HK.out k q;omega)))
  have HE:Hid (Wi w h w3.heap.size Y0 [] B0 l2 K0 w3) :=
    ⟨hq.2.1,HOk.out,HB3.out,HK.out,hq.2.1.lo,Nat.le_refl _,HB3.out.size,HZ.out⟩
  clear hq hx2 HR HB2
  go_wp2
  go_ret
  exact⟨h,l2,rfl,HE.out,HB3.out⟩
theorem Wi.hm (d:Wi w0 h n T E B lb K W):Ok 224 (hmX (fx h T E B lb)) K:=d.ok
theorem Wi.insert (d:Wi w0 h n T E B lb K W) (hx:x∈E):Calls Tryz.prog 31 #[pV h,.int .i64 (x:Int)] W fun e W'=>Fr W.heap.size (blkM h) W W' ∧
    ((e = .returned (.int .i64 8) ∧ (∃ i, i < 224 ∧ K i = x) ∧ Wi w0 h n T E B lb K W') ∨
     (e = .returned (.int .i64 5)∧(∀ i,i<224→K i≠x)∧(∀ i,i<224→K i≠0)∧Wi w0 h n T E B lb K W') ∨
     (e = .returned (.int .i64 0)∧(∀ i,i<224→K i≠x)∧(∃ z,z<224∧K z=0)∧Wi w0 h n T E B lb (insF 224 (hmB B) K x) W')):=by
  have hx0:x≠0:=by have:=d.facts hx;omega
  by_cases h1:∃ i,i<224∧K i=x
  · obtain⟨i,hi,hk⟩:=id h1
    refine(Insert_in d.hm d.ix hx hi hk).mono fun e W' q=>⟨q.2.2,.inl ⟨q.1,h1,d.same q⟩⟩
  · have hn:∀ i,i<224→K i≠x:=fun i hi q=>h1 ⟨i,hi,q⟩
    by_cases h2:∃ z,z<224∧K z=0
    · obtain⟨z,hz,hk⟩:=id h2
      refine(Insert_ok d.ix hx hn hz hk).mono fun e W' q=>⟨q.2.2,.inr (.inr ⟨q.1,hn,h2,d.step q (ok_ins d.ok hx0 (hom_lt _) hn hz hk).1⟩)⟩
    · have hf:∀ i,i<224→K i≠0:=fun i hi q=>h2 ⟨i,hi,q⟩
      refine(Insert_full d.ix hx hn hf).mono fun e W' q=>⟨q.2.2,.inr (.inl ⟨q.1,hn,hf,d.same q⟩)⟩
theorem Wi.delete (d:Wi w0 h n T E B lb K W) (hx:x∈E):Calls Tryz.prog 29 #[pV h,.int .i64 (x:Int)] W fun e W'=>Fr W.heap.size (blkM h) W W' ∧
    ((e = .returned (.int .i64 7) ∧ (∀ i, i < 224 → K i ≠ x) ∧ Wi w0 h n T E B lb K W') ∨
     (∃ i,e = .returned (.int .i64 0)∧i<224∧K i=x∧Wi w0 h n T E B lb (delF 224 (hmB B) K i) W')):=by
  have hx0:x≠0:=by have:=d.facts hx;omega
  by_cases h1:∃ i,i<224∧K i=x
  · obtain⟨i,hi,hk⟩:=id h1
    refine(Delete_ok d.hm d.ix hx hi hk).mono fun e W' q=>⟨q.2.2,.inr ⟨i,q.1,hi,hk,d.step q (ok_del d.ok hi (by omega)).1⟩⟩
  · have hn:∀ i,i<224→K i≠x:=fun i hi q=>h1 ⟨i,hi,q⟩
    refine(Delete_out d.ix hx hn).mono fun e W' q=>⟨q.2.2,.inl ⟨q.1,hn,d.same q⟩⟩
theorem Wi.place (d:Wi w0 h n T E B lb K W) (hx:x∈E):Calls Tryz.prog 36 #[pV h,.int .i64 (x:Int)] W fun e W'=>e = .returned (.tuple #[.int .i64 ((slP (slF 224 (hmB B) K (hmB B x) (isP (x:Int)))).1:Int),.bool (slP (slF 224 (hmB B) K (hmB B x) (isP (x:Int)))).2])∧Wi w0 h n T E B lb K W'∧Fr W.heap.size (blkM h) W W' :=
  (Place_any (x:Int) (B x).hash (d.ix.ok hx).hash (fun W hW=>hash_any hW hx) d.ix).mono fun e W' q=>⟨q.1,d.same q,q.2.2⟩
theorem Wi.entry (d:Wi w0 h n T E B lb K W) (nm ty:Int) (hs:Nat) (hh:hs<4294967296):Calls Tryz.prog 64 #[pV h,.int .u32 nm,.int .u16 ty,.int .u32 (hs:Int)] W fun e W'=>e = .returned (.tuple #[.int .i64 ((bkP K (slF 224 (hmB B) K (hs % 224) (keyB (fx h T E B lb) 1 nm ty (hs:Int)))).1:Int),.bool (bkP K (slF 224 (hmB B) K (hs % 224) (keyB (fx h T E B lb) 1 nm ty (hs:Int)))).2])∧Wi w0 h n T E B lb K W'∧Fr W.heap.size (blkM h) W W' :=
  (Entry_any d.ix nm ty hs hh).mono fun e W' q=>⟨q.1,d.same q,q.2.2⟩
theorem Wi.longest (d:Wi w0 h n T E B lb K W):Calls Tryz.prog 65 #[pV h] W fun e W'=>e = .returned (.int .i64 (lonX (fx h T E B lb) K 224:Int))∧Wi w0 h n T E B lb K W'∧Fr W.heap.size (blkM h) W W' :=
  (Longest_any d.ix).mono fun e W' q=>⟨q.1,d.same q,q.2.2⟩
theorem Wi.block (d:Wi w0 h n T E B lb K W) (b:Rb) (hb:b.Ty) (hf:b.few):Calls Tryz.prog 38 #[pV h,b.agg] W (NewB w0 h n T E B K b W):=by
  cases hn:b.node with
  | true=>exact block_node d b hb hf hn
  | false=>exact block_entry d b hb hf hn
end
end Go.Proofs.YtmgeiaglandedaaGreatDoor.Ind

namespace Go.Proofs.YtmgeiaglandedaaGreatDoor.Ind
open Go.RowKit Num
open Pro
open Arn (is64)
set_option linter.unusedVariables false
set_option maxRecDepth 100000
structure Act where
  k:Int
  n:Int
  b:Rb
def Act.zero:Act:=⟨0,0,Rb.zero⟩
def Rb.list (b:Rb):List Value := [.int .i64 b.pos,.bool b.node,.int .u32 (b.name:Int),.int .u16 (b.typ:Int),.string b.lab,.int .u32 (b.hash:Int)]
def Act.cells (x:Act):List Value := [.int .i64 x.k,.int .i64 x.n,.int .i64 x.b.pos,.bool x.b.node,.int .u32 (x.b.name:Int),.int .u16 (x.b.typ:Int),.string x.b.lab,.int .u32 (x.b.hash:Int)]
def ActR (w:World) (cs:List Value) (x:Act):Prop:=cs=x.cells∧is64 x.k∧is64 x.n∧x.b.Ty
abbrev ActRow:=GRow 8 ActR Act.zero
theorem wf64 {n:Int} (h:(Lit.int .i64 n).wf=true):is64 n:=by
  have:=bounds_i64 h
  unfold is64
  omega
theorem list6 {α : Type} {l:List α} (h:l.length=6):∃ a0 a1 a2 a3 a4 a5,l = [a0,a1,a2,a3,a4,a5]:=by
  match l,h with
  | [a0,a1,a2,a3,a4,a5],_=>exact⟨a0,a1,a2,a3,a4,a5,rfl⟩
theorem list8 {α : Type} {l:List α} (h:l.length=8):∃ a0 a1 a2 a3 a4 a5 a6 a7,l = [a0,a1,a2,a3,a4,a5,a6,a7]:=by
  match l,h with
  | [a0,a1,a2,a3,a4,a5,a6,a7],_=>exact⟨a0,a1,a2,a3,a4,a5,a6,a7,rfl⟩
theorem rb_cells {H:Type} {enc:TypeId×Value→H} {w:World} {base:Nat} {spare:Nat→Bool} {held:Bool} {n:Nat} {cs:List Value} {y:DataW H×List MemPlace}
    (h:DataW.trod enc Tryz.prog w base spare held n 62 cs=some y):∃ x:Rb,cs=x.list∧x.Ty:=by
  obtain⟨xs,n',-,-,hlen,hxs,hf⟩:=DataW.trod_struct Tryz.underlying62 h
  have h4:cs.length=6:=hlen.trans (by kernel_rfl)
  have x4:xs.length=6:=hxs
  have z3:Tryz.prog.cellsOf 3=1:=by kernel_rfl
  have zb:Tryz.prog.cellsOf 4=1:=by kernel_rfl
  have z32:Tryz.prog.cellsOf 59=1:=by kernel_rfl
  have z16:Tryz.prog.cellsOf 60=1:=by kernel_rfl
  have zs:Tryz.prog.cellsOf 9=1:=by kernel_rfl
  obtain⟨c0,c1,c2,c3,c4,c5,rfl⟩:=list6 h4
  obtain⟨y0,y1,y2,y3,y4,y5,rfl⟩:=list6 x4
  have f0:DataW.trod enc Tryz.prog w base spare held n' 3 (([c0,c1,c2,c3,c4,c5].drop 0).take (Tryz.prog.cellsOf 3)) = [y0,y1,y2,y3,y4,y5][0]?:=hf 0 _ rfl
  have f1:DataW.trod enc Tryz.prog w base spare held n' 4 (([c0,c1,c2,c3,c4,c5].drop 1).take (Tryz.prog.cellsOf 4)) = [y0,y1,y2,y3,y4,y5][1]?:=hf 1 _ rfl
  have f2:DataW.trod enc Tryz.prog w base spare held n' 59 (([c0,c1,c2,c3,c4,c5].drop 2).take (Tryz.prog.cellsOf 59)) = [y0,y1,y2,y3,y4,y5][2]?:=hf 2 _ rfl
  have f3:DataW.trod enc Tryz.prog w base spare held n' 60 (([c0,c1,c2,c3,c4,c5].drop 3).take (Tryz.prog.cellsOf 60)) = [y0,y1,y2,y3,y4,y5][3]?:=hf 3 _ rfl
  have f4:DataW.trod enc Tryz.prog w base spare held n' 9 (([c0,c1,c2,c3,c4,c5].drop 4).take (Tryz.prog.cellsOf 9)) = [y0,y1,y2,y3,y4,y5][4]?:=hf 4 _ rfl
  have f5:DataW.trod enc Tryz.prog w base spare held n' 59 (([c0,c1,c2,c3,c4,c5].drop 5).take (Tryz.prog.cellsOf 59)) = [y0,y1,y2,y3,y4,y5][5]?:=hf 5 _ rfl
  rw[z3] at f0
  rw[zb] at f1
  rw[z32] at f2
  rw[z16] at f3
  rw[zs] at f4
  rw[z32] at f5
  simp only[List.drop,List.take,List.getElem?_cons_zero,List.getElem?_cons_succ] at f0 f1 f2 f3 f4 f5
  obtain⟨k0,e0,-,w0⟩:=DataW.trod_int Tryz.underlying3 f0
  obtain⟨k1,e1,-⟩:=DataW.trod_bool Tryz.underlying4 f1
  obtain⟨k2,e2,-,w2⟩:=DataW.trod_int Tryz.underlying59 f2
  obtain⟨k3,e3,-,w3⟩:=DataW.trod_int Tryz.underlying60 f3
  obtain⟨k4,e4,-,w4⟩:=DataW.trod_string Tryz.underlying9 f4
  obtain⟨k5,e5,-,w5⟩:=DataW.trod_int Tryz.underlying59 f5
  simp at e0 e1 e2 e3 e4 e5
  subst e0 e1 e2 e3 e4 e5
  have b2:=bounds_u32 w2
  have b3:=bounds_u16 w3
  have b5:=bounds_u32 w5
  refine⟨⟨k0,k1,k2.toNat,k3.toNat,k4,k5.toNat⟩,?_,wf64 w0,?_,?_,?_,?_⟩
  · unfold Rb.list
    simp only
    rw[show ((k2.toNat:Nat):Int)=k2 by omega,show ((k3.toNat:Nat):Int)=k3 by omega,show ((k5.toNat:Nat):Int)=k5 by omega]
  · show k2.toNat<_;omega
  · show k3.toNat<_;omega
  · show k5.toNat<_;omega
  · unfold maxLen at w4
    show k4.size≤_
    omega
theorem act_cells {H:Type} {enc:TypeId×Value→H} {w:World} {base:Nat} {spare:Nat→Bool} {held:Bool} {n:Nat} {cs:List Value} {y:DataW H×List MemPlace}
    (h:DataW.trod enc Tryz.prog w base spare held n 64 cs=some y):∃ x,ActR w cs x:=by
  obtain⟨xs,n',-,-,hlen,hxs,hf⟩:=DataW.trod_struct Tryz.underlying64 h
  have h2:cs.length=8:=hlen.trans (by kernel_rfl)
  have x2:xs.length=3:=hxs
  have z3:Tryz.prog.cellsOf 3=1:=by kernel_rfl
  have z6:Tryz.prog.cellsOf 62=6:=by kernel_rfl
  obtain⟨c0,c1,c2,c3,c4,c5,c6,c7,rfl⟩:=list8 h2
  match xs,x2 with
  | [y0,y1,y2],_ =>
    have f0:DataW.trod enc Tryz.prog w base spare held n' 3 (([c0,c1,c2,c3,c4,c5,c6,c7].drop 0).take (Tryz.prog.cellsOf 3)) = [y0,y1,y2][0]?:=hf 0 _ rfl
    have f1:DataW.trod enc Tryz.prog w base spare held n' 3 (([c0,c1,c2,c3,c4,c5,c6,c7].drop 1).take (Tryz.prog.cellsOf 3)) = [y0,y1,y2][1]?:=hf 1 _ rfl
    have f2:DataW.trod enc Tryz.prog w base spare held n' 62 (([c0,c1,c2,c3,c4,c5,c6,c7].drop 2).take (Tryz.prog.cellsOf 62)) = [y0,y1,y2][2]?:=hf 2 _ rfl
    rw[z3] at f0 f1
    rw[z6] at f2
    simp only[List.drop,List.take,List.getElem?_cons_zero,List.getElem?_cons_succ] at f0 f1 f2
    obtain⟨k0,e0,-,w0⟩:=DataW.trod_int Tryz.underlying3 f0
    obtain⟨k1,e1,-,w1⟩:=DataW.trod_int Tryz.underlying3 f1
    obtain⟨x,hx,hok⟩:=rb_cells f2
    simp at e0 e1
    subst e0 e1
    unfold Rb.list at hx
    simp at hx
    obtain⟨rfl,rfl,rfl,rfl,rfl,rfl⟩:=hx
    exact⟨⟨k0,k1,x⟩,rfl,wf64 w0,wf64 w1,hok⟩
theorem open_acts {H:Type} {enc:TypeId×Value→H} {w:World} {base:Nat} {spare:Nat→Bool} {held:Bool} {r:Reach} {b0:Nat} {v:Value} {d:DataW H} {p:List MemPlace}
    (hval:Value.okWide Tryz.prog w r b0 54 v) (h:DataW.Trod enc Tryz.prog w base spare held 54 v d p):∃ x:Value×List Act,v=x.1∧ActRow w x.1 x.2:=by
  obtain⟨a,len,cap,rfl⟩:=WideShapes.okWide_slice Tryz.underlying54 hval
  obtain⟨fuel,hf⟩:=h
  obtain⟨L,-,hrow⟩:=open_grow Act.zero Tryz.underlying54 (show Tryz.prog.cellsOf 64=8 by kernel_rfl) (by omega) (fun n cs y hy=>act_cells hy) hf
  exact⟨(_,L),rfl,hrow⟩
theorem ActRow.at {w W:World} {a:Option Addr} {len cap:Nat} {Q:List Act} (h:ActRow w (.slice a len cap) Q) (hb:Below w.heap.size w W) {j:Nat} (hj:j<Q.length):∃ rb off,a=some ⟨rb,off,none⟩∧(Q.getD j Act.zero).b.Ty∧is64 (Q.getD j Act.zero).k∧is64 (Q.getD j Act.zero).n∧∀ i v,(Q.getD j Act.zero).cells[i]? = some v→W.cell? ⟨rb,off+j*8+i,none⟩=some v:=by
  obtain⟨ad,c,U,e0,q2,q3,q4,q5⟩:=h
  injection e0 with e1 e2 e3
  obtain⟨rb,off,hA,hlb,hc⟩:=q5 (by rintro rfl;simp at hj)
  obtain⟨hs1,hs2,hs3,hs4,hs5⟩:=q4 j hj
  refine⟨rb,off,by rw[e1,hA],hs5,hs3,hs4,fun i v hv=>?_⟩
  have hi:i<8:=by
    have:=(List.getElem?_eq_some_iff.1 hv).1
    simpa[Act.cells] using this
  exact(hb.cell (p:=⟨rb,off+j*8+i,none⟩) hlb).trans (hc j hj i v (by rw[hs2];exact hv))
end Go.Proofs.YtmgeiaglandedaaGreatDoor.Ind

namespace Go.Proofs.YtmgeiaglandedaaGreatDoor.Ind
open Go.RowKit Num
open Pro
open Mem (Mm MemC MRet Hm rd blkM)
open Sla (Sl St Lv pl aT pV Lo tkF Ts X0)
open Arn (wrL is64)
set_option linter.unusedVariables false
set_option maxRecDepth 100000
theorem empty_list:(ByteArray.empty).toList = []:=by rw[ByteArray.toList_eq];rfl
theorem list_empty (s:ByteArray):(s.toList == [])=decide (s=ByteArray.empty):=by rw[←str_eqB,empty_list]
def FewR (Q:List Act) (e:Ending):Prop:=∃ o,e = .returned (.bool o)∧(o=true→Q.length≤120∧∀ j,j<Q.length→(Q.getD j Act.zero).b.few)
set_option maxHeartbeats 1000000 in
theorem few_any (v:Value) (Q:List Act) (w:World) (hr:ActRow w v Q) :
    Calls Tryz.prog 24 #[.int .i64 0,v] w fun e w'=>FewR Q e∧Below w.heap.size w w':=by
  have HR:=Lib.hid hr
  obtain⟨ad,cap,U,rfl,q2,q3,q4,q5⟩:=hr
  have hc2:(Q.length:Int)≤9223372036854775807:=by omega
  clear U q4 q5
  go_enter Tryz.func24,Tryz.ntmps24
  go_wp2
  go_loopw [5] (fun i wr=>∃ k:Nat,k≤Q.length∧k≤200∧i = .int .i64 k∧Hid (Below w.heap.size w wr)∧Hid (∀ j,j<k→(Q.getD j Act.zero).b.few)) (fun i _=>200-(intOf i).toNat)
  case atStart=>exact⟨0,by omega,by omega,rfl,Below.refl _ _,fun j hj=>by omega⟩
  case round =>
    obtain⟨k,hk,hk2,rfl,HB,HF⟩:=hrel
    by_cases hlt:k<Q.length
    · have hlt1:(k:Int)<(Q.length:Int):=by omega
      have hlt0:(0:Int)≤(k:Int):=by omega
      by_cases h200:k<200
      · have hlt2:(k:Int)<200:=by omega
        have hkw:IntKind.i64.wrap ((k:Int)+1)=((k+1:Nat):Int):=(Ind.wrap_id (by omega) (by omega)).trans (by omega)
        obtain⟨rb,off,rfl,hty,-,-,hc⟩:=HR.out.at HB.out hlt
        obtain⟨b,hb⟩:∃ b,b=(Q.getD k Act.zero).b:=⟨_,rfl⟩
        rw[←hb] at hty
        have d2:=hc 2 (.int .i64 b.pos) (by unfold Act.cells;rw[←hb];rfl)
        have d3:=hc 3 (.bool b.node) (by unfold Act.cells;rw[←hb];rfl)
        have d4:=hc 4 (.int .u32 (b.name:Int)) (by unfold Act.cells;rw[←hb];rfl)
        have d5:=hc 5 (.int .u16 (b.typ:Int)) (by unfold Act.cells;rw[←hb];rfl)
        have d6:=hc 6 (.string b.lab) (by unfold Act.cells;rw[←hb];rfl)
        have d7:=hc 7 (.int .u32 (b.hash:Int)) (by unfold Act.cells;rw[←hb];rfl)
        have HBx:Hid (Below w.heap.size w (wr.alloc (.cells #[.int .i64 b.pos,.bool b.node,.int .u32 (b.name:Int),.int .u16 (b.typ:Int),.string b.lab,.int .u32 (b.hash:Int)] 62))):=HB.out.trans ((below_made _ _).mono HB.out.size)
        have HFn:Hid (b.few→∀ j,j<k+1→(Q.getD j Act.zero).b.few):=fun h j hj=>by
          by_cases e:j=k
          · rw[e,←hb];exact h
          · exact HF.out j (by omega)
        have HFd:Hid (b.few↔(b.node=true→1≤b.lab.size∧b.lab.size≤16∧b.typ=0)∧(b.node=false→b.lab=ByteArray.empty)):=Iff.rfl
        have hls:=hty.lab
        clear hc hb hty HF
        cases hn:b.node with
        | true =>
          rw[hn] at HBx HFd d3
          by_cases g1:(b.lab.size:Int)<1
          · go_wp2
            go_ret
            exact⟨⟨false,rfl,fun h=>by cases h⟩,HBx.out⟩
          by_cases g2:(16:Int)<(b.lab.size:Int)
          · go_wp2
            go_ret
            exact⟨⟨false,rfl,fun h=>by cases h⟩,HBx.out⟩
          by_cases g3:b.typ=0
          · have g4:((b.typ:Int) != 0)=false:=by simp[g3]
            have HFe:Hid (∀ j,j<k+1→(Q.getD j Act.zero).b.few):=HFn.out (HFd.out.2 ⟨fun _=>⟨by omega,by omega,g3⟩,fun h=>by cases h⟩)
            clear HFn HFd g3
            go_wp2
            go_roundw
            case rel=>exact⟨k+1,by omega,by omega,by go_num,HBx.out,HFe.out⟩
            case measure=>simp[intOf];omega
          · have g4:((b.typ:Int) != 0)=true:=by simp;exact g3
            go_wp2
            go_ret
            exact⟨⟨false,rfl,fun h=>by cases h⟩,HBx.out⟩
        | false =>
          rw[hn] at HBx HFd d3
          by_cases g1:b.lab=ByteArray.empty
          · have g2:(b.lab.toList == ({ data := #[] } : ByteArray).toList)=true:=by rw[str_eqB];exact decide_eq_true g1
            have g3:(b.lab.toList == [])=true:=by rw[list_empty];exact decide_eq_true g1
            have HFe:Hid (∀ j,j<k+1→(Q.getD j Act.zero).b.few):=HFn.out (HFd.out.2 ⟨fun h=>(by cases h),fun _=>g1⟩)
            clear HFn HFd g1
            go_wp2
            go_roundw
            case rel=>exact⟨k+1,by omega,by omega,by go_num,HBx.out,HFe.out⟩
            case measure=>simp[intOf];omega
          · have g2:(b.lab.toList == ({ data := #[] } : ByteArray).toList)=false:=by rw[str_eqB];exact decide_eq_false g1
            have g3:(b.lab.toList == [])=false:=by rw[list_empty];exact decide_eq_false g1
            clear g1
            go_wp2
            go_ret
            exact⟨⟨false,rfl,fun h=>by cases h⟩,HBx.out⟩
      · obtain rfl:k=200:=by omega
        rw[show ((200:Nat):Int)=200 from rfl] at *
        have g1:¬ (Q.length:Int)≤120:=by omega
        go_wp2
        go_ret
        exact⟨⟨false,by first | rfl | simp[g1],fun h=>by cases h⟩,HB.out⟩
    · obtain rfl:k=Q.length:=by omega
      by_cases g1:(Q.length:Int)≤120
      · go_wp2
        go_ret
        exact⟨⟨true,by first | rfl | simp[g1],fun _=>⟨by omega,HF.out⟩⟩,HB.out⟩
      · go_wp2
        go_ret
        exact⟨⟨false,by first | rfl | simp[g1],fun h=>by cases h⟩,HB.out⟩
end Go.Proofs.YtmgeiaglandedaaGreatDoor.Ind

namespace Go.Proofs.YtmgeiaglandedaaGreatDoor.Ind
open Go.RowKit Num
open Pro
open Mem (Mm MemC MRet Hm rd blkM)
open Sla (Sl St Lv pl aT pV Lo tkF Ts X0)
open Arn (wrL is64)
set_option linter.unusedVariables false
set_option maxRecDepth 100000
theorem isP_nat (x:Nat):isP (x:Int)=fun p=>decide (p=x):=by
  funext p
  unfold isP
  rw[Bool.eq_iff_iff,decide_eq_true_eq,decide_eq_true_eq]
  omega
section
variable {h:Hm} {l0 l l' lb lb':List Int} {T T':List Sl} {w0 w w' W W':World} {n a x y:Nat} {E:List Nat} {B:Nat→Bk} {K K':Nat→Nat} {e:Ending} {r:Value}
theorem Wi.congr (d:Wi w0 h n T E B lb K W) (hk:∀ i,i<224→K' i=K i):Wi w0 h n T E B lb K' W :=
  ⟨d.ix.congr hk,ok_congr d.ok hk (fun _ _ _=>rfl),d.b,d.kk,d.lo,d.nn,d.n0,d.z⟩
theorem Wi.block_at (d:Wi w0 h n T E B lb K W) (b:Rb) (hb:b.Ty) (hf:b.few) {a:Nat} (ht:(tkF 7 224 T 1).1=((a:Int),0)) :
    Calls Tryz.prog 38 #[pV h,b.agg] W fun e W'=>e = .returned ({ b with pos:=(a:Int) } : Rb).agg∧Fr W.heap.size (blkM h) W W'∧∃ lb,Wi w0 h n (tkF 7 224 T 1).2 (a::E) (upB B a b.bk) lb K W':=by
  refine(d.block b hb hf).mono ?_
  rintro e W' ⟨a',he,hf,⟨-,h2,-⟩ | ⟨-,-,h3,hW⟩⟩
  · rw[ht] at h2
    exact absurd rfl h2
  · rw[ht] at h3
    have:a'=a:=by
      have:=congrArg Prod.fst h3
      simp only at this
      omega
    subst this
    exact⟨he,hf,hW⟩
def ba:Rb:=⟨0,false,0,0,ByteArray.empty,223⟩
def bb:Rb:=⟨0,false,0,1,ByteArray.empty,223⟩
def BX:Nat→Bk:=upB (upB B0 1136 ba.bk) 1168 bb.bk
def KA (q:Nat):Nat:=if q=223 then 1136 else 0
def KB (q:Nat):Nat:=if q=0 then 1168 else KA q
theorem hmA:hmB BX 1136=223:=rfl
theorem hmBB:hmB BX 1168=223:=rfl
theorem opnA:opn 224 (hmB BX) (fun _=>0) 223=0:=sk_eq (by omega) (fun i hi=>by omega) (fun _=>rfl)
theorem empA (p:Nat):emp 224 (fun _=>0) p=0:=sk_eq (by omega) (fun i hi=>by omega) (fun _=>rfl)
theorem insA (q:Nat) (hq:q<224):KA q=insF 224 (hmB BX) (fun _=>0) 1136 q:=by
  unfold insF
  rw[hmA,opnA,empA]
  unfold insk KA
  rw[show ps 224 223 0=223 from rfl]
  by_cases e:q=223
  · subst e;rfl
  · rw[if_neg e,if_neg (fun h=>e (off_zero (by omega) hq h))]
    split<;>rfl
theorem opnB : opn 224 (hmB BX) KA 223 = 1 := sk_eq (by omega) (fun i hi => by obtain rfl : i = 0 := by omega
                                                                               rfl) (fun _=>rfl)
theorem empB:emp 224 KA 0=0:=sk_eq (by omega) (fun i hi=>by omega) (fun _=>rfl)
theorem insB (q:Nat) (hq:q<224):KB q=insF 224 (hmB BX) KA 1168 q:=by
  unfold insF
  rw[hmBB,opnB,show ps 224 223 1=0 from rfl,empB]
  unfold insk KB
  by_cases e:q=0
  · subst e;rfl
  · rw[if_neg e,if_neg (fun h=>e (off_zero (by omega) hq h)),if_neg (fun h=>e (off_zero (by omega) hq (by omega)))]
theorem kb_some {q:Nat} (h:KB q≠0):(q=0∧KB q=1168)∨(q=223∧KB q=1136):=by
  unfold KB KA at *
  split at h
  · rename_i e;exact .inl ⟨e,if_pos e⟩
  · split at h
    · rename_i e1 e2;right;refine⟨e2,?_⟩;rw[if_neg e1,if_pos e2]
    · exact absurd rfl h
theorem lonB (X:Fx) (hX:hmX X=hmB BX):∀ j,j≤224→lonX X KB j=if j=0 then 0 else 1:=by
  intro j
  induction j with
  | zero=>intro _;rfl
  | succ j ih =>
    intro hj
    have ih:=ih (by omega)
    rw[lonX,ih,hX]
    by_cases e0:j=0
    · subst e0;rfl
    · by_cases e1 : j = 223
      · subst e1;rfl
      · have:KB j=0:=by unfold KB KA;rw[if_neg e0,if_neg e1]
        rw[this,if_pos rfl,if_neg e0,if_neg (by omega)]
end
end Go.Proofs.YtmgeiaglandedaaGreatDoor.Ind

namespace Go.Proofs.YtmgeiaglandedaaGreatDoor.Ind
open Go.RowKit Num
open Pro
open Mem (Mm MemC MRet Hm rd blkM)
open Sla (Sl St Lv pl aT pV Lo tkF Ts X0 X1 X2)
open Arn (wrL is64)
set_option linter.unusedVariables false
set_option maxRecDepth 100000
abbrev Wx (w:World) (h:Hm) (n:Nat) (lb:List Int) (K:Nat→Nat) (W:World):Prop:=Wi w h n X2 [1168,1136] BX lb K W
section
variable {h:Hm} {lb lb':List Int} {w0 w w' W W':World} {n:Nat} {e:Ending}
theorem wx_insA (d:Wx w0 h n lb (fun _=>0) W):Calls Tryz.prog 31 #[pV h,.int .i64 1136] W fun e W'=>e = .returned (.int .i64 0)∧Wx w0 h n lb KA W'∧Fr W.heap.size (blkM h) W W':=by
  refine(d.insert (x:=1136) (by simp)).mono ?_
  rintro e W' ⟨hf,⟨-,⟨i,hi,hk⟩,-⟩ | ⟨-,-,hk,-⟩ | ⟨he,-,-,hW⟩⟩
  · cases hk
  · exact absurd rfl (hk 0 (by omega))
  · exact⟨he,hW.congr insA,hf⟩
theorem wx_insB (d:Wx w0 h n lb KA W):Calls Tryz.prog 31 #[pV h,.int .i64 1168] W fun e W'=>e = .returned (.int .i64 0)∧Wx w0 h n lb KB W'∧Fr W.heap.size (blkM h) W W':=by
  refine(d.insert (x:=1168) (by simp)).mono ?_
  rintro e W' ⟨hf,⟨-,⟨i,hi,hk⟩,-⟩ | ⟨-,-,hk,-⟩ | ⟨he,-,-,hW⟩⟩
  · unfold KA at hk
    split at hk<;>omega
  · exact absurd rfl (hk 0 (by omega))
  · exact⟨he,hW.congr insB,hf⟩
theorem wx_again (d:Wx w0 h n lb KB W):Calls Tryz.prog 31 #[pV h,.int .i64 1136] W fun e W'=>e = .returned (.int .i64 8)∧Wx w0 h n lb KB W'∧Fr W.heap.size (blkM h) W W':=by
  refine(d.insert (x:=1136) (by simp)).mono ?_
  rintro e W' ⟨hf,⟨he,-,hW⟩ | ⟨-,hk,-⟩ | ⟨-,hk,-⟩⟩
  · exact⟨he,hW,hf⟩
  · exact absurd rfl (hk 223 (by omega))
  · exact absurd rfl (hk 223 (by omega))
theorem wx_placeA (d:Wx w0 h n lb KB W):Calls Tryz.prog 36 #[pV h,.int .i64 1136] W fun e W'=>e = .returned (.tuple #[.int .i64 223,.bool true])∧Wx w0 h n lb KB W'∧Fr W.heap.size (blkM h) W W':=by
  have hs:=slF_one d.ok (i:=223) (by omega) (by decide)
  have:=d.place (x:=1136) (by simp)
  rw[isP_nat,show hmB BX 1136=hmB BX (KB 223) from rfl,show (fun p=>decide (p=1136))=(fun p=>decide (p=KB 223)) from rfl,hs] at this
  exact this
theorem wx_placeB (d:Wx w0 h n lb KB W):Calls Tryz.prog 36 #[pV h,.int .i64 1168] W fun e W'=>e = .returned (.tuple #[.int .i64 0,.bool true])∧Wx w0 h n lb KB W'∧Fr W.heap.size (blkM h) W W':=by
  have hs:=slF_one d.ok (i:=0) (by omega) (by decide)
  have:=d.place (x:=1168) (by simp)
  rw[isP_nat,show hmB BX 1168=hmB BX (KB 0) from rfl,show (fun p=>decide (p=1168))=(fun p=>decide (p=KB 0)) from rfl,hs] at this
  exact this
theorem wx_entry (d:Wx w0 h n lb KB W):Calls Tryz.prog 64 #[pV h,.int .u32 0,.int .u16 1,.int .u32 223] W fun e W'=>e = .returned (.tuple #[.int .i64 1168,.bool true])∧Wx w0 h n lb KB W'∧Fr W.heap.size (blkM h) W W':=by
  have h1:keyB (fx h X2 [1168,1136] BX lb) 1 0 1 ((223:Nat):Int) (KB 0)=true:=rfl
  obtain⟨q,hq⟩:=slF_found d.ok (P:=keyB (fx h X2 [1168,1136] BX lb) 1 0 1 ((223:Nat):Int)) (i:=0) (by omega) (by decide) h1
  rw[show hmB BX (KB 0)=223 % 224 from rfl] at hq
  obtain⟨g1,g2,g3⟩:=slF_some (Nat.mod_lt _ (by omega)) hq
  have:=d.entry 0 1 223 (by omega)
  rw[hq] at this
  rcases kb_some g2 with⟨rfl,-⟩ | ⟨rfl,-⟩
  · exact this
  · unfold keyB at g3
    have:=(of_decide_eq_true g3).2.2.1
    exact absurd (show ((BX (KB 223)).typ:Int)=1 from this) (by decide)
theorem wx_longest (d:Wx w0 h n lb KB W):Calls Tryz.prog 65 #[pV h] W fun e W'=>e = .returned (.int .i64 1)∧Wx w0 h n lb KB W'∧Fr W.heap.size (blkM h) W W':=by
  have:=d.longest
  rw[lonB _ rfl 224 (by omega)] at this
  exact this
set_option maxHeartbeats 2000000 in
theorem names_any (w:World) (ht:Ts w):Calls Tryz.prog 25 #[] w fun e w'=>e = .returned (.bool true)∧Below w.heap.size w w':=by
  have HF:=Lib.hid (fresh_any w ht)
  have HA:Hid (∀ h n lb W,Wi w h n X0 [] B0 lb (fun _=>0) W→Calls Tryz.prog 38 #[pV h,.agg #[.int .i64 0,.bool false,.int .u32 0,.int .u16 0,.string { data := #[] },.int .u32 223]] W fun e W'=>e = .returned (.agg #[.int .i64 1136,.bool false,.int .u32 0,.int .u16 0,.string { data := #[] },.int .u32 223])∧Fr W.heap.size (blkM h) W W'∧∃ lb,Wi w h n X1 [1136] (upB B0 1136 ba.bk) lb (fun _=>0) W'):=fun h n lb W hW =>
    hW.block_at ba ⟨by unfold is64 ba;simp,by decide,by decide,by decide,by decide⟩ ⟨fun q=>(by cases q),fun _=>rfl⟩ (a:=1136) Sla.ex1
  have HB:Hid (∀ h n lb W,Wi w h n X1 [1136] (upB B0 1136 ba.bk) lb (fun _=>0) W→Calls Tryz.prog 38 #[pV h,.agg #[.int .i64 0,.bool false,.int .u32 0,.int .u16 1,.string { data := #[] },.int .u32 223]] W fun e W'=>e = .returned (.agg #[.int .i64 1168,.bool false,.int .u32 0,.int .u16 1,.string { data := #[] },.int .u32 223])∧Fr W.heap.size (blkM h) W W'∧∃ lb,Wx w h n lb (fun _=>0) W'):=fun h n lb W hW =>
    hW.block_at bb ⟨by unfold is64 bb;simp,by decide,by decide,by decide,by decide⟩ ⟨fun q=>(by cases q),fun _=>rfl⟩ (a:=1168) Sla.ex2
  clear ht
  obtain⟨K0,hK0⟩:∃ K0:Nat→Nat,K0=fun _=>0:=⟨_,rfl⟩
  have HIA:Hid (∀ h n lb W,Wx w h n lb K0 W→Calls Tryz.prog 31 #[pV h,.int .i64 1136] W fun e W'=>e = .returned (.int .i64 0)∧Wx w h n lb KA W'∧Fr W.heap.size (blkM h) W W'):=fun h n lb W hW=>wx_insA (by rw[←hK0];exact hW)
  rw[←hK0] at HF HA HB
  clear hK0
  unfold pV at *
  go_enter Tryz.func25,Tryz.ntmps25
  go_wp2_with fail
  refine HF.out.mono ?_
  rintro e w1 ⟨h,lb1,rfl,hd1,hb1⟩
  clear hb1 HF
  go_wp2_with fail
  refine(HA.out h _ lb1 w1 hd1).mono ?_
  rintro e w2 ⟨rfl,hf2,lb2,hd2⟩
  clear hd1 hf2 HA
  go_wp2_with fail
  refine(HB.out h _ lb2 w2 hd2).mono ?_
  rintro e w3 ⟨rfl,hf3,lb3,hd3⟩
  clear hd2 hf3 HB
  have HIB:=Lib.hid (fun W (hW:Wx w h w1.heap.size lb3 KA W)=>wx_insB hW)
  have HPA:=Lib.hid (fun W (hW:Wx w h w1.heap.size lb3 KB W)=>wx_placeA hW)
  have HPB:=Lib.hid (fun W (hW:Wx w h w1.heap.size lb3 KB W)=>wx_placeB hW)
  have HEn:=Lib.hid (fun W (hW:Wx w h w1.heap.size lb3 KB W)=>wx_entry hW)
  have HLo:=Lib.hid (fun W (hW:Wx w h w1.heap.size lb3 KB W)=>wx_longest hW)
  have HAg:=Lib.hid (fun W (hW:Wx w h w1.heap.size lb3 KB W)=>wx_again hW)
  have HFt:Hid (∀ W,Wx w h w1.heap.size lb3 KB W→Calls Tryz.prog 17 #[pV h] W fun e W'=>e = .returned (.int .i64 0)∧Wx w h w1.heap.size lb3 KB W'∧Fr W.heap.size (blkM h) W W'):=fun W hW=>(hW.ix.faults hW.z).mono fun e W' q=>⟨q.1,hW.below q.2,Fr.of_below q.2⟩
  unfold pV at HIB HPA HPB HEn HLo HAg HFt
  have hL:BL h w3 [(w3.heap.size+1,#[.int .i64 1168,.bool false,.int .u32 0,.int .u16 1,.string { data := #[] },.int .u32 223],62),(w3.heap.size,#[.int .i64 1136,.bool false,.int .u32 0,.int .u16 0,.string { data := #[] },.int .u32 223],62)] ((w3.alloc (.cells #[.int .i64 1136,.bool false,.int .u32 0,.int .u16 0,.string { data := #[] },.int .u32 223] 62)).alloc (.cells #[.int .i64 1168,.bool false,.int .u32 0,.int .u16 1,.string { data := #[] },.int .u32 223] 62)):=by
    have:=((BL.start hd3.lt).push #[.int .i64 1136,.bool false,.int .u32 0,.int .u16 0,.string { data := #[] },.int .u32 223] 62).push #[.int .i64 1168,.bool false,.int .u32 0,.int .u16 1,.string { data := #[] },.int .u32 223] 62
    rw[size_al] at this
    exact this
  have hd4:Wx w h w1.heap.size lb3 K0 ((w3.alloc (.cells #[.int .i64 1136,.bool false,.int .u32 0,.int .u16 0,.string { data := #[] },.int .u32 223] 62)).alloc (.cells #[.int .i64 1168,.bool false,.int .u32 0,.int .u16 1,.string { data := #[] },.int .u32 223] 62)):=hd3.below ((below_made _ _).trans ((below_made _ _).mono (by rw[size_al];omega)))
  clear hd3
  have g0:World.cell? _ ⟨w3.heap.size,0,none⟩=some (Value.int .i64 1136):=(hL.cell (b:=w3.heap.size) (cs := #[.int .i64 1136,.bool false,.int .u32 0,.int .u16 0,.string { data := #[] },.int .u32 223]) (t:=62) (.tail _ (.head _)) 0).trans rfl
  have g1:World.cell? _ ⟨w3.heap.size+1,0,none⟩=some (Value.int .i64 1168):=(hL.cell (b:=w3.heap.size+1) (cs := #[.int .i64 1168,.bool false,.int .u32 0,.int .u16 1,.string { data := #[] },.int .u32 223]) (t:=62) (.head _) 0).trans rfl
  go_wp2_with fail
  generalize (w3.alloc (.cells #[.int .i64 1136,.bool false,.int .u32 0,.int .u16 0,.string { data := #[] },.int .u32 223] 62)).alloc (.cells #[.int .i64 1168,.bool false,.int .u32 0,.int .u16 1,.string { data := #[] },.int .u32 223] 62)=W4 at *
  go_region_held3 (fun w'=>w'.cell? ⟨w3.heap.size,0,none⟩=some (.int .i64 1136)∧w'.cell? ⟨w3.heap.size+1,0,none⟩=some (.int .i64 1168)) (first | exact⟨g0,g1⟩ | go_keep) ((first
    | (have hq:=hd5;go_at_call 31;refine(HIB.out _ (by first | exact hd5 | exact hd5.drew)).mono ?_;rintro e w6 ⟨rfl,hd6,hf6⟩;replace hL:=(by first | exact hL.fr hf6 | exact(hL.below (Below.refl _ _).drew).fr hf6);clear hf6 g0 g1;have g0:World.cell? _ ⟨w3.heap.size,0,none⟩=some (Value.int .i64 1136):=(hL.cell (b:=w3.heap.size) (cs := #[.int .i64 1136,.bool false,.int .u32 0,.int .u16 0,.string { data := #[] },.int .u32 223]) (t:=62) (.tail _ (.head _)) 0).trans rfl;have g1:World.cell? _ ⟨w3.heap.size+1,0,none⟩=some (Value.int .i64 1168):=(hL.cell (b:=w3.heap.size+1) (cs := #[.int .i64 1168,.bool false,.int .u32 0,.int .u16 1,.string { data := #[] },.int .u32 223]) (t:=62) (.head _) 0).trans rfl)
    | (go_at_call 31;refine(HIA.out _ _ _ _ (by first | exact hd4 | exact hd4.drew)).mono ?_;rintro e w5 ⟨rfl,hd5,hf5⟩;replace hL:=(by first | exact hL.fr hf5 | exact(hL.below (Below.refl _ _).drew).fr hf5);clear hf5 g0 g1;have g0:World.cell? _ ⟨w3.heap.size,0,none⟩=some (Value.int .i64 1136):=(hL.cell (b:=w3.heap.size) (cs := #[.int .i64 1136,.bool false,.int .u32 0,.int .u16 0,.string { data := #[] },.int .u32 223]) (t:=62) (.tail _ (.head _)) 0).trans rfl;have g1:World.cell? _ ⟨w3.heap.size+1,0,none⟩=some (Value.int .i64 1168):=(hL.cell (b:=w3.heap.size+1) (cs := #[.int .i64 1168,.bool false,.int .u32 0,.int .u16 1,.string { data := #[] },.int .u32 223]) (t:=62) (.head _) 0).trans rfl)))
  all_goals skip
  have hd:=hd6
  clear hd4 hd5 hd6 HIA HIB
  go_wp2_with fail
  refine(HPA.out _ hd).mono ?_
  rintro e w7 ⟨rfl,hd7,hf7⟩
  replace hL:=hL.fr hf7
  replace hd:=hd7
  clear hd7 hf7 g0 g1 HPA
  have g0:World.cell? _ ⟨w3.heap.size,0,none⟩=some (Value.int .i64 1136):=(hL.cell (b:=w3.heap.size) (cs := #[.int .i64 1136,.bool false,.int .u32 0,.int .u16 0,.string { data := #[] },.int .u32 223]) (t:=62) (.tail _ (.head _)) 0).trans rfl
  have g1:World.cell? _ ⟨w3.heap.size+1,0,none⟩=some (Value.int .i64 1168):=(hL.cell (b:=w3.heap.size+1) (cs := #[.int .i64 1168,.bool false,.int .u32 0,.int .u16 1,.string { data := #[] },.int .u32 223]) (t:=62) (.head _) 0).trans rfl
  go_wp2_with fail
  refine(HPB.out _ hd).mono ?_
  rintro e w7 ⟨rfl,hd7,hf7⟩
  replace hL:=hL.fr hf7
  replace hd:=hd7
  clear hd7 hf7 g0 g1 HPB
  have g0:World.cell? _ ⟨w3.heap.size,0,none⟩=some (Value.int .i64 1136):=(hL.cell (b:=w3.heap.size) (cs := #[.int .i64 1136,.bool false,.int .u32 0,.int .u16 0,.string { data := #[] },.int .u32 223]) (t:=62) (.tail _ (.head _)) 0).trans rfl
  have g1:World.cell? _ ⟨w3.heap.size+1,0,none⟩=some (Value.int .i64 1168):=(hL.cell (b:=w3.heap.size+1) (cs := #[.int .i64 1168,.bool false,.int .u32 0,.int .u16 1,.string { data := #[] },.int .u32 223]) (t:=62) (.head _) 0).trans rfl
  go_wp2_with fail
  refine(HEn.out _ hd).mono ?_
  rintro e w7 ⟨rfl,hd7,hf7⟩
  replace hL:=hL.fr hf7
  replace hd:=hd7
  clear hd7 hf7 g0 g1 HEn
  have g0:World.cell? _ ⟨w3.heap.size,0,none⟩=some (Value.int .i64 1136):=(hL.cell (b:=w3.heap.size) (cs := #[.int .i64 1136,.bool false,.int .u32 0,.int .u16 0,.string { data := #[] },.int .u32 223]) (t:=62) (.tail _ (.head _)) 0).trans rfl
  have g1:World.cell? _ ⟨w3.heap.size+1,0,none⟩=some (Value.int .i64 1168):=(hL.cell (b:=w3.heap.size+1) (cs := #[.int .i64 1168,.bool false,.int .u32 0,.int .u16 1,.string { data := #[] },.int .u32 223]) (t:=62) (.head _) 0).trans rfl
  go_wp2_with fail
  refine(HLo.out _ hd).mono ?_
  rintro e w7 ⟨rfl,hd7,hf7⟩
  replace hL:=hL.fr hf7
  replace hd:=hd7
  clear hd7 hf7 g0 g1 HLo
  have g0:World.cell? _ ⟨w3.heap.size,0,none⟩=some (Value.int .i64 1136):=(hL.cell (b:=w3.heap.size) (cs := #[.int .i64 1136,.bool false,.int .u32 0,.int .u16 0,.string { data := #[] },.int .u32 223]) (t:=62) (.tail _ (.head _)) 0).trans rfl
  have g1:World.cell? _ ⟨w3.heap.size+1,0,none⟩=some (Value.int .i64 1168):=(hL.cell (b:=w3.heap.size+1) (cs := #[.int .i64 1168,.bool false,.int .u32 0,.int .u16 1,.string { data := #[] },.int .u32 223]) (t:=62) (.head _) 0).trans rfl
  go_wp2_with fail
  refine(HAg.out _ hd).mono ?_
  rintro e w7 ⟨rfl,hd7,hf7⟩
  replace hL:=hL.fr hf7
  replace hd:=hd7
  clear hd7 hf7 g0 g1 HAg
  have g0:World.cell? _ ⟨w3.heap.size,0,none⟩=some (Value.int .i64 1136):=(hL.cell (b:=w3.heap.size) (cs := #[.int .i64 1136,.bool false,.int .u32 0,.int .u16 0,.string { data := #[] },.int .u32 223]) (t:=62) (.tail _ (.head _)) 0).trans rfl
  have g1:World.cell? _ ⟨w3.heap.size+1,0,none⟩=some (Value.int .i64 1168):=(hL.cell (b:=w3.heap.size+1) (cs := #[.int .i64 1168,.bool false,.int .u32 0,.int .u16 1,.string { data := #[] },.int .u32 223]) (t:=62) (.head _) 0).trans rfl
  go_wp2_with fail
  refine(HFt.out _ hd).mono ?_
  rintro e w7 ⟨rfl,hd7,hf7⟩
  have HE:=Lib.hid hd7.b
  clear hd hd7 hf7 hL g0 g1 HFt
  go_wp2
  go_ret
  exact⟨rfl,HE.out⟩
end
end Go.Proofs.YtmgeiaglandedaaGreatDoor.Ind

namespace Go.Proofs.YtmgeiaglandedaaGreatDoor.Ind
open Go.RowKit Num
open Pro
open Mem (Mm MemC MRet Hm rd blkM)
open Sla (Sl St Lv pl aT pV Lo tkF Ts X0)
open Arn (wrL is64)
open Rin (st_len st_bytes)
set_option linter.unusedVariables false
set_option maxRecDepth 100000
section
variable {h:Hm} {l0 l l' lb lb':List Int} {T T':List Sl} {w0 w w' W W':World} {n a x y z:Nat} {E:List Nat} {B:Nat→Bk} {K K':Nat→Nat} {e:Ending} {r:Value}
end
end Go.Proofs.YtmgeiaglandedaaGreatDoor.Ind

namespace Go.Proofs.YtmgeiaglandedaaGreatDoor.Ind
open Go.RowKit Num
open Pro
open Mem (Mm MemC MRet Hm rd blkM)
open Sla (Sl St Lv pl aT pV Lo tkF Ts X0)
open Arn (wrL is64)
set_option linter.unusedVariables false
set_option maxRecDepth 100000
def encR (b:Rb):List Value := [.int .i64 b.pos,.bool b.node,.int .u32 (b.name:Int),.int .u16 (b.typ:Int),.string b.lab,.int .u32 (b.hash:Int)]
theorem encR_len (b:Rb):(encR b).length=6:=rfl
def RRow (w:World) (v:Value) (A:List Rb):Prop:=ARow 6 encR Rb.zero w v A
abbrev OwnR (n:Nat) (W:World) (v:Value) (A:List Rb):Prop:=W.ownsRow n 62 6 v A.length (valsA encR A)
section
variable {n:Nat} {W W':World} {u u' v v':Value} {A A' C C':List Rb} {h:Hm}
theorem OwnR.row (d:OwnR n W u A):RRow W u A:=arow_of_owns encR_len Rb.zero d rfl
theorem OwnR.below (d:OwnR n W u A) (hb:Below W.heap.size W W'):OwnR n W' u A:=ownsRow_stays d hb
theorem OwnR.fr (d:OwnR n W u A) (hf:Fr W.heap.size (blkM h) W W') (hl:Lo h n):OwnR n W' u A:=by
  refine⟨d.1,?_⟩
  rcases d.2 with hn | ⟨g,cap,cur,rfl,hb,hgg,rest⟩
  · exact .inl hn
  · exact .inr ⟨g,cap,cur,rfl,hb,(hf.block g (Array.getElem?_eq_some_iff.1 hgg).1 (fun q=>by have:=hl.m g q;omega)).trans hgg,rest⟩
theorem OwnR.lower {m:Nat} (d:OwnR m W u A) (h:n≤m):OwnR n W u A:=by
  refine⟨d.1,?_⟩
  rcases d.2 with hn | ⟨g,cap,cur,rfl,hb,rest⟩
  · exact .inl hn
  · exact .inr ⟨g,cap,cur,rfl,by omega,rest⟩
theorem OwnR.base (d:OwnR n W u A):∀ b,u.ownBlock=some b→n≤b:=by
  intro b hb
  rcases d.2 with⟨rfl,-⟩ | ⟨g,cap,cur,rfl,hg,rest⟩
  · cases hb
  · cases hb;exact hg
theorem OwnR.lt (d:OwnR n W u A):∀ b,u.ownBlock=some b→b<W.heap.size:=by
  intro b hb
  rcases d.2 with⟨rfl,-⟩ | ⟨g,cap,cur,rfl,hg,hgg,rest⟩
  · cases hb
  · cases hb;exact(Array.getElem?_eq_some_iff.1 hgg).1
def Dj (u v:Value):Prop:=∀ b,u.ownBlock=some b→v.ownBlock≠some b
theorem Dj.nil (v:Value):Dj (.slice none 0 0) v:=fun b hb=>by cases hb
theorem grown_low {r:Option Nat} (hg:W.grownBy W' r) (hn:n≤W.heap.size) (hr:∀ b,r=some b→n≤b):Below n W W':=(Below.refl n W).grown hg hn hr
theorem RRow.slice (d:RRow W u A):∃ a c,u = .slice a A.length c∧A.length≤c∧c≤9223372036854775807:=by
  obtain⟨a,c,h1,h2,h3,-⟩:=d
  exact⟨a,c,h1,h2,h3⟩
theorem RRow.at {a:Option Addr} {l c:Nat} (d:RRow W (.slice a l c) A) {j:Nat} (hj:j<A.length):∃ b o,a=some ⟨b,o,none⟩∧b<W.heap.size∧∀ i x,(encR (A.getD j Rb.zero))[i]? = some x→W.cell? ⟨b,o+j*6+i,none⟩=some x:=by
  obtain⟨a',c',e,-,-,h5⟩:=d
  injection e with e1 e2 e3
  obtain⟨b,o,e4,hlt,hc⟩:=h5 (by rintro rfl;simp at hj)
  exact⟨b,o,e1.trans e4,hlt,fun i x hx=>hc j hj i x hx⟩
end
theorem infoR:(Tryz.prog.info? 62).map (fun i=>(i.zero,i.size,i.bytes))=some (some (.agg #[.int .i64 0,.bool false,.int .u32 0,.int .u16 0,.string { data := #[] },.int .u32 0]),6,48):=by kernel_rfl
end Go.Proofs.YtmgeiaglandedaaGreatDoor.Ind
