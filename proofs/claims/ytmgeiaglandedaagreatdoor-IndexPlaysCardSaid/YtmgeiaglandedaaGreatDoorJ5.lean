/- Plain mathematics of heads of blocks: their fields, which may be, their bytes. The document's Where, Size, number. Blocks that are parameters; the document's number. The document's Right. The document's Encode. The document's taken, with. The document's Decode. What is asked of head's functions; the example of the page; HeadWhere. Heads come back from their bytes, and bytes from their heads. The landed head: its tables; where fields lie; how long heads are. The landed head: Right. The landed head: the numbers in a header's bytes; Decode. The landed head: Decode. -/
import Derived.Test.YtmgeiaglandedaaGreatDoorJ4
import Derived.Test.YtmgeiaglandedaaGreatDoorJ0
import Derived.Deep.RegionHeld3
import Derived.Laws.StructEq
namespace Go.Proofs.YtmgeiaglandedaaGreatDoor.Hea
open Go.RowKit Num
set_option linter.unusedVariables false
structure Blk where
  tag:Int
  cls:Int
  used:Bool
  lab:Int
  name:Int
  next:Int
  prev:Int
  refs:Int
  exp:Int
  typ:Int
  size:Int
  hash:Int
def Blk.zero:Blk:=⟨0,0,false,0,0,0,0,0,0,0,0,0⟩
def Blk.agg (b:Blk):Value:=.agg #[.int .i64 b.tag,.int .i64 b.cls,.bool b.used,.int .i64 b.lab,.int .u32 b.name,.int .u32 b.next,.int .u32 b.prev,.int .u32 b.refs,.int .u64 b.exp,.int .u16 b.typ,.int .i64 b.size,.int .u32 b.hash]
def i64 (n:Int):Prop := -9223372036854775808≤n∧n≤9223372036854775807
def u32 (n:Int):Prop:=0≤n∧n<4294967296
def u64 (n:Int):Prop:=0≤n∧n<18446744073709551616
def u16 (n:Int):Prop:=0≤n∧n<65536
structure Blk.Ok (b:Blk):Prop where
  tag:i64 b.tag
  cls:i64 b.cls
  lab:i64 b.lab
  name:u32 b.name
  next:u32 b.next
  prev:u32 b.prev
  refs:u32 b.refs
  exp:u64 b.exp
  typ:u16 b.typ
  size:i64 b.size
  hash:u32 b.hash
def whF (t f:Int):Int×Int :=
  if t<0∨2<t∨f<0∨11<f then (0,0) else if f<4 then (f,1) else if f=4 then (4,4)
  else if t=1∧f=5 then (8,4) else if t=1∧f=6 then (12,4) else if t=1∧f=7 then (16,8) else if t=1∧f=8 then (24,2) else if t=1∧f=9 then (26,2) else if t=1∧f=10 then (28,4)
  else if t=2∧f=11 then (8,4) else if t=2∧f=10 then (12,4) else (0,0)
def szF (t:Int):Int:=if t=0 then 8 else if t=1 then 32 else if t=2 then 16 else 0
def numF (b:Blk) (f:Nat):Int :=
  match f with
  | 0=>IntKind.u64.wrap b.tag
  | 1=>IntKind.u64.wrap b.cls
  | 2=>if b.used then 1 else 0
  | 3=>IntKind.u64.wrap b.lab
  | 4=>b.name
  | 5=>b.next
  | 6=>b.prev
  | 7=>b.exp
  | 8=>b.typ
  | 9=>IntKind.u64.wrap b.size
  | 10=>b.hash
  | _=>b.refs
theorem u64_bd (n:Int):0≤IntKind.u64.wrap n∧IntKind.u64.wrap n<18446744073709551616:=by
  simp[IntKind.wrap,IntKind.bits,IntKind.signed]
  omega
theorem u64_id {n:Int} (h0:0≤n) (h1:n<18446744073709551616):IntKind.u64.wrap n=n:=by
  simp[IntKind.wrap,IntKind.bits,IntKind.signed]
  omega
theorem numF_bd {b:Blk} (h:b.Ok) (f:Nat):0≤numF b f∧numF b f<18446744073709551616:=by
  obtain⟨h1,h2,h3,h4,h5,h6,h7,h8,h9,h10,h11⟩:=h
  simp only[i64,u32,u64,u16] at *
  unfold numF
  split
  · exact u64_bd _
  · exact u64_bd _
  · split<;>omega
  · exact u64_bd _
  · omega
  · omega
  · omega
  · omega
  · omega
  · exact u64_bd _
  · omega
  · omega
def RightP (b:Blk):Prop :=
  (b.tag=0∧b.cls=0∧b.used=false∧b.lab=0∧b.next=0∧b.prev=0∧b.exp=0∧b.typ=0∧b.size=0∧b.hash=0∧b.refs=0) ∨
  (b.tag=1∧1≤b.cls∧b.cls≤9∧b.lab=0∧0≤b.size∧b.size≤480∧b.refs=0) ∨
  (b.tag=2∧1≤b.cls∧b.cls≤9∧b.used=false∧1≤b.lab∧b.lab≤63∧b.next=0∧b.prev=0∧b.exp=0∧b.typ=0∧b.size=0)
instance (b:Blk):Decidable (RightP b):=by unfold RightP;infer_instance
def rightF (b:Blk):Bool:=decide (RightP b)
def p2 (v:Int):List Int := [v % 256,v / 256]
def p4 (v:Int):List Int := [v % 256,v / 256 % 256,v / 65536 % 256,v / 16777216]
def p8 (v:Int):List Int := [v % 256,v / 256 % 256,v / 65536 % 256,v / 16777216 % 256,v / 4294967296 % 256,v / 1099511627776 % 256,v / 281474976710656 % 256,v / 72057594037927936]
def p1 (b:Blk):List Int := [b.tag,b.cls,if b.used then 1 else 0,b.lab]
def encL (b:Blk):List Int :=
  p1 b++(p4 b.name++(if b.tag=1 then p4 b.next++(p4 b.prev++(p8 b.exp++(p2 b.typ++(p2 b.size++p4 b.hash)))) else if b.tag=2 then p4 b.refs++p4 b.hash else []))
def rdF (l:List Int) (a n:Nat):Int:=le ((l.drop a).take n)
def decB (l:List Int):Blk :=
  ⟨l.getD 0 0,l.getD 1 0,l.getD 2 0 == 1,l.getD 3 0,rdF l 4 4,if l.getD 0 0=1 then rdF l 8 4 else 0,if l.getD 0 0=1 then rdF l 12 4 else 0,if l.getD 0 0=2 then rdF l 8 4 else 0,if l.getD 0 0=1 then rdF l 16 8 else 0,
    if l.getD 0 0=1 then rdF l 24 2 else 0,if l.getD 0 0=1 then rdF l 26 2 else 0,if l.getD 0 0=1 then rdF l 28 4 else if l.getD 0 0=2 then rdF l 12 4 else 0⟩
def decF (l:List Int):Blk×Int :=
  if l = [] then (Blk.zero,3) else if 2<l.getD 0 0 then (Blk.zero,4) else if (l.length:Int)<szF (l.getD 0 0) then (Blk.zero,3)
  else if 1<l.getD 2 0∨rightF (decB l)=false then (Blk.zero,4) else (decB l,0)
end Go.Proofs.YtmgeiaglandedaaGreatDoor.Hea

namespace Go.Proofs.YtmgeiaglandedaaGreatDoor.Hea
open Go.RowKit Num
set_option linter.unusedVariables false
end Go.Proofs.YtmgeiaglandedaaGreatDoor.Hea

namespace Go.Proofs.YtmgeiaglandedaaGreatDoor.Hea
open Go.RowKit Num
set_option linter.unusedVariables false
def BW (w:World) (b:Blk):World:=w.alloc (.cells #[.int .i64 b.tag,.int .i64 b.cls,.bool b.used,.int .i64 b.lab,.int .u32 b.name,.int .u32 b.next,.int .u32 b.prev,.int .u32 b.refs,.int .u64 b.exp,.int .u16 b.typ,.int .i64 b.size,.int .u32 b.hash] 85)
structure BX (w W:World) (b:Blk):Prop where
  c0:W.cell? ⟨w.heap.size,0,none⟩=some (.int .i64 b.tag)
  c1:W.cell? ⟨w.heap.size,1,none⟩=some (.int .i64 b.cls)
  c2:W.cell? ⟨w.heap.size,2,none⟩=some (.bool b.used)
  c3:W.cell? ⟨w.heap.size,3,none⟩=some (.int .i64 b.lab)
  c4:W.cell? ⟨w.heap.size,4,none⟩=some (.int .u32 b.name)
  c5:W.cell? ⟨w.heap.size,5,none⟩=some (.int .u32 b.next)
  c6:W.cell? ⟨w.heap.size,6,none⟩=some (.int .u32 b.prev)
  c7:W.cell? ⟨w.heap.size,7,none⟩=some (.int .u32 b.refs)
  c8:W.cell? ⟨w.heap.size,8,none⟩=some (.int .u64 b.exp)
  c9:W.cell? ⟨w.heap.size,9,none⟩=some (.int .u16 b.typ)
  c10:W.cell? ⟨w.heap.size,10,none⟩=some (.int .i64 b.size)
  c11:W.cell? ⟨w.heap.size,11,none⟩=some (.int .u32 b.hash)
  lt:w.heap.size<W.heap.size
  bel:Below w.heap.size w W
theorem BX.first (w:World) (b:Blk):BX w (BW w b) b:=by
  have h:=heap_alloc_new w (.cells #[.int .i64 b.tag,.int .i64 b.cls,.bool b.used,.int .i64 b.lab,.int .u32 b.name,.int .u32 b.next,.int .u32 b.prev,.int .u32 b.refs,.int .u64 b.exp,.int .u16 b.typ,.int .i64 b.size,.int .u32 b.hash] 85)
  exact⟨(cell_block h 0).trans rfl,(cell_block h 1).trans rfl,(cell_block h 2).trans rfl,(cell_block h 3).trans rfl,(cell_block h 4).trans rfl,(cell_block h 5).trans rfl,(cell_block h 6).trans rfl,(cell_block h 7).trans rfl,(cell_block h 8).trans rfl,(cell_block h 9).trans rfl,(cell_block h 10).trans rfl,(cell_block h 11).trans rfl,
    by unfold BW;exact(by simp:w.heap.size<(w.alloc _).heap.size),below_made _ _⟩
theorem BX.below {w W V:World} {b:Blk} (h:BX w W b) (hb:Below W.heap.size W V):BX w V b:=by
  have hc:∀ o u,W.cell? ⟨w.heap.size,o,none⟩=some u→V.cell? ⟨w.heap.size,o,none⟩=some u:=fun o u e=>(hb.cell (p:=⟨w.heap.size,o,none⟩) h.lt).trans e
  exact⟨hc _ _ h.c0,hc _ _ h.c1,hc _ _ h.c2,hc _ _ h.c3,hc _ _ h.c4,hc _ _ h.c5,hc _ _ h.c6,hc _ _ h.c7,hc _ _ h.c8,hc _ _ h.c9,hc _ _ h.c10,hc _ _ h.c11,Nat.lt_of_lt_of_le h.lt hb.size,h.bel.trans (hb.mono h.bel.size)⟩
end Go.Proofs.YtmgeiaglandedaaGreatDoor.Hea

namespace Go.Proofs.YtmgeiaglandedaaGreatDoor.Hea
open Go.RowKit Num
set_option linter.unusedVariables false
end Go.Proofs.YtmgeiaglandedaaGreatDoor.Hea

namespace Go.Proofs.YtmgeiaglandedaaGreatDoor.Hea
open Go.RowKit Num
set_option linter.unusedVariables false
theorem wh_fit {t:Int} (ht:0≤t∧t≤2) (k:Nat) (hk:k<12):0≤(whF t k).1∧0≤(whF t k).2∧(whF t k).2≤8∧(whF t k).1+(whF t k).2≤szF t:=by
  have h1:t=0∨t=1∨t=2:=by omega
  have h2:k=0∨k=1∨k=2∨k=3∨k=4∨k=5∨k=6∨k=7∨k=8∨k=9∨k=10∨k=11:=by omega
  rcases h1 with rfl | rfl | rfl<;>rcases h2 with rfl | rfl | rfl | rfl | rfl | rfl | rfl | rfl | rfl | rfl | rfl | rfl<;>decide
theorem sz_bd {t:Int} (ht:0≤t∧t≤2):8≤szF t∧szF t≤32:=by
  have h1:t=0∨t=1∨t=2:=by omega
  rcases h1 with rfl | rfl | rfl<;>decide
theorem stl_at (l:List Int) (a n:Nat) (v:Int) (i:Nat) (h:a+n≤l.length) (hn:n≤8):(stl l a n v).getD i 0=if a≤i∧i<a+n then (parts v).getD (i-a) 0 else l.getD i 0:=by
  unfold stl List.getD
  rw[List.getElem?_append,List.length_take,Nat.min_eq_left (by omega),List.getElem?_append,List.length_take,parts_length,Nat.min_eq_left hn]
  split
  · rw[if_neg (by omega),List.getElem?_take_of_lt (by omega)]
  · split
    · rw[if_pos (by omega),List.getElem?_take_of_lt (by omega)]
    · rw[if_neg (by omega),List.getElem?_drop,show a+n+(i-a-n)=i by omega]
theorem right_tag {b:Blk} (h:RightP b):0≤b.tag∧b.tag≤2:=by
  rcases h with h | h | h<;>omega
theorem frozen_block {w:World} {g:Nat} {c:Array Value} {e:TypeId} (h:w.heap[g]? = some (.cells c e (0,0))) (i:Nat):w.frozen? ⟨g,i,none⟩=false:=by simp[World.frozen?,h]
theorem heap_setCell_own {w:World} {g o:Nat} {c:Array Value} {t:TypeId} {fr:Nat×Nat} (hg:w.heap[g]? = some (.cells c t fr)) (u:Value):(w.setCell ⟨g,o,none⟩ u).heap[g]? = some (.cells (c.setIfInBounds o u) t fr):=by
  have hlt:g<w.heap.size:=(Array.getElem?_eq_some_iff.1 hg).1
  have hv:w.heap[g] = .cells c t fr:=(Array.getElem?_eq_some_iff.1 hg).2
  unfold World.setCell
  rw[Array.getElem?_eq_getElem (by simpa using hlt),Array.getElem_modify]
  simp[hv]
end Go.Proofs.YtmgeiaglandedaaGreatDoor.Hea

namespace Go.Proofs.YtmgeiaglandedaaGreatDoor.Hea
open Go.RowKit Num
set_option linter.unusedVariables false
end Go.Proofs.YtmgeiaglandedaaGreatDoor.Hea

namespace Go.Proofs.YtmgeiaglandedaaGreatDoor.Hea
open Go.RowKit Num
set_option linter.unusedVariables false
theorem rdF_one {l:List Int} (a:Nat) (h:a<l.length):rdF l a 1=l.getD a 0:=by
  unfold rdF
  rw[List.drop_eq_getElem_cons h,List.take_succ_cons,List.take_zero]
  simp[le,List.getD,h]
theorem w64 {v:Int} (h0:0≤v) (h1:v<4294967296):wrap64 v=v:=IntWalk.wrap64_in _ (by omega)
def cellsA (b:Blk):Array Value := #[.int .i64 b.tag,.int .i64 b.cls,.bool b.used,.int .i64 b.lab,.int .u32 b.name,.int .u32 b.next,.int .u32 b.prev,.int .u32 b.refs,.int .u64 b.exp,.int .u16 b.typ,.int .i64 b.size,.int .u32 b.hash]
theorem cells_of {w:World} {o:Nat} {b:Blk} {T:TypeId} (h:w.heap[o]? = some (.cells (cellsA b) T (0,0))) :
    w.cell? ⟨o,0,none⟩=some (.int .i64 b.tag)∧w.cell? ⟨o,1,none⟩=some (.int .i64 b.cls)∧w.cell? ⟨o,2,none⟩=some (.bool b.used)∧w.cell? ⟨o,3,none⟩=some (.int .i64 b.lab)∧w.cell? ⟨o,4,none⟩=some (.int .u32 b.name)∧w.cell? ⟨o,5,none⟩=some (.int .u32 b.next)∧w.cell? ⟨o,6,none⟩=some (.int .u32 b.prev)∧w.cell? ⟨o,7,none⟩=some (.int .u32 b.refs)∧w.cell? ⟨o,8,none⟩=some (.int .u64 b.exp)∧w.cell? ⟨o,9,none⟩=some (.int .u16 b.typ)∧w.cell? ⟨o,10,none⟩=some (.int .i64 b.size)∧w.cell? ⟨o,11,none⟩=some (.int .u32 b.hash) :=
  ⟨(cell_block h 0).trans rfl,(cell_block h 1).trans rfl,(cell_block h 2).trans rfl,(cell_block h 3).trans rfl,(cell_block h 4).trans rfl,(cell_block h 5).trans rfl,(cell_block h 6).trans rfl,(cell_block h 7).trans rfl,(cell_block h 8).trans rfl,(cell_block h 9).trans rfl,(cell_block h 10).trans rfl,(cell_block h 11).trans rfl⟩
theorem decF_rest {l:List Int} (hn:l ≠ []) (h:¬ 2<l.getD 0 0) (hs:¬ (l.length:Int)<szF (l.getD 0 0)):decF l=if 1<l.getD 2 0∨rightF (decB l)=false then (Blk.zero,4) else (decB l,0):=by rw[decF,if_neg hn,if_neg h,if_neg hs]
end Go.Proofs.YtmgeiaglandedaaGreatDoor.Hea

namespace Go.Proofs.YtmgeiaglandedaaGreatDoor.Hea
open Go.RowKit Num
set_option linter.unusedVariables false
end Go.Proofs.YtmgeiaglandedaaGreatDoor.Hea

namespace Go.Proofs.YtmgeiaglandedaaGreatDoor.Hea
open Go.RowKit Num
set_option linter.unusedVariables false
theorem dec_enc {b:Blk} (hb:b.Ok) (hr:RightP b):decF (encL b ++ [9,9])=(b,0)∧((encL b).length:Int)=szF b.tag:=by
  obtain⟨k1,k2,k3,k4,k5,k6,k7,k8,k9,k10,k11⟩:=hb
  simp only[i64,u32,u64,u16] at *
  have hrr:rightF b=true:=by unfold rightF;rw[decide_eq_true_eq];exact hr
  obtain⟨tag,cls,used,lab,name,next,prev,refs,exp,typ,size,hash⟩:=b
  simp only[] at *
  have key:decB (encL ⟨tag,cls,used,lab,name,next,prev,refs,exp,typ,size,hash⟩ ++ [9,9])=⟨tag,cls,used,lab,name,next,prev,refs,exp,typ,size,hash⟩:=by
    rcases hr with⟨h0,h1,h2,h3,h4,h5,h6,h7,h8,h9,h10⟩ | ⟨h0,h1,h2,h3,h4,h5,h6⟩ | ⟨h0,h1,h2,h3,h4,h5,h6,h7,h8,h9,h10⟩
    · simp only[] at h0 h1 h2 h3 h4 h5 h6 h7 h8 h9 h10
      subst h0 h1 h2 h3 h4 h5 h6 h7 h8 h9 h10
      simp[encL,decB,p1,p4,rdF,le]
      omega
    · simp only[] at h0 h1 h2 h3 h4 h5 h6
      subst h0 h3 h6
      cases used<;>simp[encL,decB,p1,p4,p8,p2,rdF,le]<;>omega
    · simp only[] at h0 h1 h2 h3 h4 h5 h6 h7 h8 h9 h10
      subst h0 h3 h6 h7 h8 h9 h10
      simp[encL,decB,p1,p4,rdF,le]
      omega
  have h0:(encL ⟨tag,cls,used,lab,name,next,prev,refs,exp,typ,size,hash⟩ ++ [9,9]).getD 0 0=tag:=by simp[encL,p1]
  have h2:(encL ⟨tag,cls,used,lab,name,next,prev,refs,exp,typ,size,hash⟩ ++ [9,9]).getD 2 0=if used then 1 else 0:=by simp[encL,p1]
  have hn:encL ⟨tag,cls,used,lab,name,next,prev,refs,exp,typ,size,hash⟩ ++ [9,9] ≠ []:=by simp
  have hl:((encL ⟨tag,cls,used,lab,name,next,prev,refs,exp,typ,size,hash⟩).length:Int)=szF tag:=by
    rcases hr with⟨e,-⟩ | ⟨e,-⟩ | ⟨e,-⟩
    · simp only[] at e
      subst e
      simp[encL,p1,p4,szF]
    · simp only[] at e
      subst e
      simp[encL,p1,p4,p8,p2,szF]
    · simp only[] at e
      subst e
      simp[encL,p1,p4,szF]
  have ht:tag≤2:=by
    rcases hr with⟨e,-⟩ | ⟨e,-⟩ | ⟨e,-⟩
    all_goals simp only[] at e
    all_goals omega
  refine⟨?_,hl⟩
  rw[decF_rest hn (by rw[h0];omega) (by rw[h0,List.length_append];simp only[List.length_cons,List.length_nil];omega),key,h2,hrr]
  rw[if_neg]
  rintro (h | h)
  · split at h<;>omega
  · cases h
end Go.Proofs.YtmgeiaglandedaaGreatDoor.Hea

namespace Go.Proofs.YtmgeiaglandedaaGreatDoor.Hea
open Go.RowKit Num
set_option linter.unusedVariables false
def ordI:List Int := [0,1,2,3,4,5,6,7,8,9,11,10]
structure Tab (w:World):Prop where
  ord:Lib.TabIs Tryz.prog w "columbarium/head.order" .i64 ordI
  pl:∀ p q,p<3→q<12→w.cell? ⟨3,p*24+q*2,none⟩=some (.int .i64 (whF (p:Int) (q:Int)).1)∧w.cell? ⟨3,p*24+q*2+1,none⟩=some (.int .i64 (whF (p:Int) (q:Int)).2)
theorem cell_keep {w w':World} {b o:Nat} {v:Value} (hb:Below w.heap.size w w') (h:w.cell? ⟨b,o,none⟩=some v):w'.cell? ⟨b,o,none⟩=some v:=by
  have hlt:b<w.heap.size:=by
    rcases Nat.lt_or_ge b w.heap.size with h1 | h1
    · exact h1
    · rw[World.cell?,Array.getElem?_eq_none h1] at h
      simp at h
  exact(hb.cell (p:=⟨b,o,none⟩) hlt).trans h
theorem Tab.keep {w w':World} (hb:Below w.heap.size w w') (h:Tab w):Tab w' :=
  ⟨tab_keep hb h.ord,fun p q hp hq=>⟨cell_keep hb (h.pl p q hp hq).1,cell_keep hb (h.pl p q hp hq).2⟩⟩
theorem Tab.at {w:World} (h:Tab w) (i:Nat) (hi:i<12):w.cell? ⟨2,i,none⟩=some (.int .i64 (ordI.getD i 0)) :=
  Lib.TabIs.cell h.ord (show Tryz.prog.globalNamed "columbarium/head.order" = some 2 by kernel_rfl) i hi
def plG (p q:Nat):List Int := [(whF (p:Int) (q:Int)).1,(whF (p:Int) (q:Int)).2]
theorem tab_of {l:List (String×DataW Unit)} {w:World} (hp:(l.all fun x=>x.2.handleName?.isNone)=true) (h1:("columbarium/head.places",Rows.laid_columbarium_head_places)∈l) (h2:("columbarium/head.order",Rows.laid_columbarium_head_order)∈l) (h:laidMetH Tryz.prog l w):Tab w:=by
  refine⟨tab_of_laid (g:=2) (n:=12) (t:=246) (e:=3) hp h2 (by kernel_rfl) (by kernel_rfl) (by kernel_rfl) (by kernel_rfl) (by kernel_rfl) (by kernel_rfl) h,fun p q h3 h4=>?_⟩
  have k:=fun a (ha:a<2)=>grid_of_laid (n:=3) (m:=12) (s:=2) (G:=plG) (k:=.i64) (g:=3) (t:=270) (t1:=269) (t2:=248) (e:=3) hp h1 (by kernel_rfl) (by kernel_rfl) (by kernel_rfl) (by kernel_rfl) (by kernel_rfl) (by kernel_rfl) (by kernel_rfl) (by kernel_rfl) (by kernel_rfl) (by kernel_rfl) h p q a h3 h4 ha rfl
  exact⟨k 0 (by omega),k 1 (by omega)⟩
theorem isTag_any (t:Int) (w:World):Calls Tryz.prog 191 #[.int .i64 t] w fun e w'=>e = .returned (.bool (decide (0≤t∧t≤2)))∧w=w':=by
  by_cases h0:0≤t
  · by_cases h2 : t < 3
    · go_enter Tryz.func191,Tryz.ntmps191
      go_wp2
      go_ret
      exact⟨ret_bool (by simp<;>omega),rfl⟩
    · have h2':decide (t<3)=false:=decide_eq_false h2
      go_enter Tryz.func191,Tryz.ntmps191
      go_wp2
      go_ret
      exact⟨ret_bool (by simp<;>omega),rfl⟩
  · have h0':decide (0≤t)=false:=decide_eq_false h0
    go_enter Tryz.func191,Tryz.ntmps191
    go_wp2
    go_ret
    exact⟨ret_bool (by simp<;>omega),rfl⟩
theorem between_any (a n b:Int) (w:World):Calls Tryz.prog 226 #[.int .i64 a,.int .i64 n,.int .i64 b] w fun e w'=>e = .returned (.bool (decide (a≤n∧n≤b)))∧w=w':=by
  by_cases h0:a≤n
  · by_cases h2 : n ≤ b
    · go_enter Tryz.func226,Tryz.ntmps226
      go_wp2
      go_ret
      exact⟨ret_bool (by simp<;>omega),rfl⟩
    · have h2':decide (n≤b)=false:=decide_eq_false h2
      go_enter Tryz.func226,Tryz.ntmps226
      go_wp2
      go_ret
      exact⟨ret_bool (by simp<;>omega),rfl⟩
  · have h0':decide (a≤n)=false:=decide_eq_false h0
    go_enter Tryz.func226,Tryz.ntmps226
    go_wp2
    go_ret
    exact⟨ret_bool (by simp<;>omega),rfl⟩
theorem size_any (t:Int) (w:World):Calls Tryz.prog 202 #[.int .i64 t] w fun e w'=>e = .returned (.int .i64 (szF t))∧w=w':=by
  by_cases h0:t=0
  · subst h0
    go_enter Tryz.func202,Tryz.ntmps202
    go_wp2
    go_ret
    exact⟨rfl,rfl⟩
  by_cases h1:t=1
  · subst h1
    go_enter Tryz.func202,Tryz.ntmps202
    go_wp2
    go_ret
    exact⟨rfl,rfl⟩
  by_cases h2:t=2
  · subst h2
    go_enter Tryz.func202,Tryz.ntmps202
    go_wp2
    go_ret
    exact⟨rfl,rfl⟩
  have e0:(t == 0)=false:=by simpa using h0
  have e1:(t == 1)=false:=by simpa using h1
  have e2:(t == 2)=false:=by simpa using h2
  have H:=Lib.hid (show szF t=0 by rw[szF,if_neg h0,if_neg h1,if_neg h2])
  clear h0 h1 h2
  go_enter Tryz.func202,Tryz.ntmps202
  go_wp2
  go_ret
  exact⟨ret_int H.out.symm,rfl⟩
theorem placeOf_any (t f:Int) (w:World) (ht:Tab w):Calls Tryz.prog 228 #[.int .i64 t,.int .i64 f] w fun e w'=>e = .returned (.agg #[.int .i64 (whF t f).1,.int .i64 (whF t f).2])∧Below w.heap.size w w':=by
  have HT:=Lib.hid (fun W=>isTag_any t W)
  have hb:=below_made w (.cells #[.int .i64 0,.int .i64 0] 248)
  have HB:=Lib.hid hb
  by_cases h:(0≤t∧t≤2)∧0≤f∧f<12
  · obtain⟨⟨h1,h2⟩,h3,h4⟩:=h
    obtain⟨p,rfl⟩:∃ p:Nat,t=p:=⟨t.toNat,by omega⟩
    obtain⟨q,rfl⟩:∃ q:Nat,f=q:=⟨f.toNat,by omega⟩
    obtain⟨c0,c1⟩:=(ht.keep hb).pl p q (by omega) (by omega)
    rw[show decide (0≤(p:Int)∧(p:Int)≤2)=true by simp;omega] at HT
    have hp3:(p:Int)<3:=by omega
    have hq0:decide ((q:Int)<0)=false:=by simp
    have hq1:decide ((12:Int)≤(q:Int))=false:=by simp;omega
    have hblk:=heap_alloc_new w (.cells #[.int .i64 (whF (p:Int) (q:Int)).1,.int .i64 (whF (p:Int) (q:Int)).2] 248)
    have q0:(w.alloc (.cells #[.int .i64 (whF (p:Int) (q:Int)).1,.int .i64 (whF (p:Int) (q:Int)).2] 248)).cell? ⟨w.heap.size,0,none⟩=some (.int .i64 (whF (p:Int) (q:Int)).1):=(cell_block hblk 0).trans rfl
    have q1:(w.alloc (.cells #[.int .i64 (whF (p:Int) (q:Int)).1,.int .i64 (whF (p:Int) (q:Int)).2] 248)).cell? ⟨w.heap.size,1,none⟩=some (.int .i64 (whF (p:Int) (q:Int)).2):=(cell_block hblk 1).trans rfl
    obtain⟨x,y,hxy⟩:∃ x y,whF (p:Int) (q:Int)=(x,y):=⟨_,_,rfl⟩
    rw[hxy] at c0 c1 q0 q1 ⊢
    clear hxy ht hb hblk
    go_enter Tryz.func228,Tryz.ntmps228
    go_wp2_with fail
    refine(HT.out _).mono ?_
    rintro e w' ⟨rfl,rfl⟩
    go_wp2
    refine bodyPost_ret (v:=.agg #[.int .i64 x,.int .i64 y]) (by simp[results,Tryz.results228,go_sem,q0,q1]) rfl ⟨rfl,below_made _ _⟩
  · have hz:whF t f=(0,0):=by rw[whF,if_pos (by omega)]
    have hblk:=heap_alloc_new w (.cells #[.int .i64 0,.int .i64 0] 248)
    have q0:(w.alloc (.cells #[.int .i64 0,.int .i64 0] 248)).cell? ⟨w.heap.size,0,none⟩=some (.int .i64 0):=(cell_block hblk 0).trans rfl
    have q1:(w.alloc (.cells #[.int .i64 0,.int .i64 0] 248)).cell? ⟨w.heap.size,1,none⟩=some (.int .i64 0):=(cell_block hblk 1).trans rfl
    rw[hz]
    clear hz ht hb hblk
    by_cases h1:0≤t∧t≤2
    · rw[show decide (0≤t∧t≤2)=true by simpa using h1] at HT
      by_cases h2:f<0
      · clear h h1
        go_enter Tryz.func228,Tryz.ntmps228
        go_wp2_with fail
        refine(HT.out _).mono ?_
        rintro e w' ⟨rfl,rfl⟩
        go_wp2
        refine bodyPost_ret (v:=.agg #[.int .i64 0,.int .i64 0]) (by simp[results,Tryz.results228,go_sem,q0,q1]) rfl ⟨rfl,HB.out⟩
      · have h2':decide (f<0)=false:=decide_eq_false h2
        have h3:(12:Int)≤f:=by omega
        clear h h1
        go_enter Tryz.func228,Tryz.ntmps228
        go_wp2_with fail
        refine(HT.out _).mono ?_
        rintro e w' ⟨rfl,rfl⟩
        go_wp2
        refine bodyPost_ret (v:=.agg #[.int .i64 0,.int .i64 0]) (by simp[results,Tryz.results228,go_sem,q0,q1]) rfl ⟨rfl,HB.out⟩
    · rw[show decide (0≤t∧t≤2)=false by simpa using h1] at HT
      clear h h1
      go_enter Tryz.func228,Tryz.ntmps228
      go_wp2_with fail
      refine(HT.out _).mono ?_
      rintro e w' ⟨rfl,rfl⟩
      go_wp2
      refine bodyPost_ret (v:=.agg #[.int .i64 0,.int .i64 0]) (by simp[results,Tryz.results228,go_sem,q0,q1]) rfl ⟨rfl,HB.out⟩
theorem where_any (t f:Int) (w:World) (ht:Tab w):Calls Tryz.prog 172 #[.int .i64 t,.int .i64 f] w fun e w'=>e = .returned (.tuple #[.int .i64 (whF t f).1,.int .i64 (whF t f).2])∧Below w.heap.size w w':=by
  have HP:=Lib.hid (placeOf_any t f w ht)
  obtain⟨x,y,hxy⟩:∃ x y,whF t f=(x,y):=⟨_,_,rfl⟩
  rw[hxy] at HP ⊢
  clear hxy ht
  go_enter Tryz.func172,Tryz.ntmps172
  go_wp2_with fail
  refine HP.out.mono ?_
  rintro e w1 ⟨rfl,hb1⟩
  have hblk:=heap_alloc_new w1 (.cells #[.int .i64 x,.int .i64 y] 248)
  have q0:(w1.alloc (.cells #[.int .i64 x,.int .i64 y] 248)).cell? ⟨w1.heap.size,0,none⟩=some (.int .i64 x):=(cell_block hblk 0).trans rfl
  have q1:(w1.alloc (.cells #[.int .i64 x,.int .i64 y] 248)).cell? ⟨w1.heap.size,1,none⟩=some (.int .i64 y):=(cell_block hblk 1).trans rfl
  have HB:=Lib.hid (hb1.trans ((below_made w1 (.cells #[.int .i64 x,.int .i64 y] 248)).mono hb1.size))
  clear hblk hb1
  go_wp2_with fail
  generalize w1.alloc (.cells #[.int .i64 x,.int .i64 y] 248)=W at q0 q1 HB ⊢
  go_quiet (fail)
  go_wp2
  go_ret2
  exact⟨rfl,below_drewN HB.out _⟩
end Go.Proofs.YtmgeiaglandedaaGreatDoor.Hea

namespace Go.Proofs.YtmgeiaglandedaaGreatDoor.Hea
open Go.RowKit Num
set_option linter.unusedVariables false
def eqB (a b:Blk):Bool:=a.tag == b.tag && (a.cls == b.cls && (a.used == b.used && (a.lab == b.lab && (a.name == b.name && (a.next == b.next && (a.prev == b.prev && (a.refs == b.refs && (a.exp == b.exp && (a.typ == b.typ && (a.size == b.size && a.hash == b.hash))))))))))
theorem eq_blk (a b:Blk) (w:World):(Op.equalIn 10000 85 a.agg b.agg).run Tryz.prog w = .ok (eqB a b) w:=by
  obtain⟨a0,a1,a2,a3,a4,a5,a6,a7,a8,a9,a10,a11⟩:=a
  obtain⟨b0,b1,b2,b3,b4,b5,b6,b7,b8,b9,b10,b11⟩:=b
  unfold Blk.agg eqB
  simp only[]
  rw[show (10000:Nat)=9999+1 from rfl,run_equalIn_struct w 9999 85 _ _ (by kernel_rfl) (by kernel_rfl)]
  go_simp
  by_cases h0:a0=b0
  case neg=>simp[h0]
  subst h0
  by_cases h1:a1=b1
  case neg=>simp[h1]
  subst h1
  by_cases h2:a2=b2
  case neg=>simp[h2]
  subst h2
  by_cases h3:a3=b3
  case neg=>simp[h3]
  subst h3
  by_cases h4:a4=b4
  case neg=>simp[h4]
  subst h4
  by_cases h5:a5=b5
  case neg=>simp[h5]
  subst h5
  by_cases h6:a6=b6
  case neg=>simp[h6]
  subst h6
  by_cases h7:a7=b7
  case neg=>simp[h7]
  subst h7
  by_cases h8:a8=b8
  case neg=>simp[h8]
  subst h8
  by_cases h9:a9=b9
  case neg=>simp[h9]
  subst h9
  by_cases h10:a10=b10
  case neg=>simp[h10]
  subst h10
  by_cases h11:a11=b11
  case neg=>simp[h11]
  subst h11
  simp
theorem right_f0 {b:Blk} (h:b.tag=0):rightF b=eqB b ⟨0,0,false,0,b.name,0,0,0,0,0,0,0⟩:=by
  unfold rightF eqB
  rw[Bool.eq_iff_iff,decide_eq_true_iff]
  unfold RightP
  cases b.used<;>simp[h]<;>omega
theorem right_f1 {b:Blk} (h:b.tag=1):rightF b=(decide (1≤b.cls∧b.cls≤9) && (decide (0≤b.size∧b.size≤480) && (b.lab == 0 && b.refs == 0))):=by
  unfold rightF
  rw[Bool.eq_iff_iff,decide_eq_true_iff]
  unfold RightP
  simp[h]
  omega
theorem right_f2 {b:Blk} (h:b.tag=2):rightF b=(decide (1≤b.cls∧b.cls≤9) && (decide (1≤b.lab∧b.lab≤63) && eqB b ⟨2,b.cls,false,b.lab,b.name,0,0,b.refs,0,0,0,b.hash⟩)):=by
  unfold rightF eqB
  rw[Bool.eq_iff_iff,decide_eq_true_iff]
  unfold RightP
  cases b.used<;>simp[h]<;>omega
theorem right_f3 {b:Blk} (h0:b.tag≠0) (h1:b.tag≠1) (h2:b.tag≠2):rightF b=false:=by
  unfold rightF
  rw[decide_eq_false_iff_not]
  unfold RightP
  omega
set_option maxRecDepth 100000 in
set_option maxHeartbeats 4000000 in
theorem right_any (b:Blk) (w:World):Calls Tryz.prog 169 #[b.agg] w fun e w'=>e = .returned (.bool (rightF b))∧Below w.heap.size w w':=by
  obtain⟨c0,c1,c2,c3,c4,c5,c6,c7,c8,c9,c10,c11,-,hbel⟩:=BX.first w b
  unfold BW at c0 c1 c2 c3 c4 c5 c6 c7 c8 c9 c10 c11 hbel
  have HB:=Lib.hid hbel
  have HC1:=Lib.hid (fun W=>between_any 1 b.cls 9 W)
  have HC2:=Lib.hid (fun W=>between_any 0 b.size 480 W)
  have HC3:=Lib.hid (fun W=>between_any 1 b.lab 63 W)
  have hq0:=fun W=>eq_blk b ⟨0,0,false,0,b.name,0,0,0,0,0,0,0⟩ W
  have hq2:=fun W=>eq_blk b ⟨2,b.cls,false,b.lab,b.name,0,0,b.refs,0,0,0,b.hash⟩ W
  have hr0:=@right_f0 b
  have hr1:=@right_f1 b
  have hr2:=@right_f2 b
  have hr3:=@right_f3 b
  obtain⟨R,hR⟩:∃ R,R=rightF b:=⟨_,rfl⟩
  rw[←hR] at hr0 hr1 hr2 hr3 ⊢
  generalize eqB b ⟨0,0,false,0,b.name,0,0,0,0,0,0,0⟩=Q0 at hq0 hr0
  generalize eqB b ⟨2,b.cls,false,b.lab,b.name,0,0,b.refs,0,0,0,b.hash⟩=Q2 at hq2 hr2
  generalize decide (1≤b.cls∧b.cls≤9)=d1 at HC1 hr1 hr2
  generalize decide (0≤b.size∧b.size≤480)=d2 at HC2 hr1
  generalize decide (1≤b.lab∧b.lab≤63)=d3 at HC3 hr2
  have HR0:=Lib.hid hr0
  have HR1:=Lib.hid hr1
  have HR2:=Lib.hid hr2
  have HR3:=Lib.hid hr3
  clear hbel hR hr0 hr1 hr2 hr3
  unfold Blk.agg at hq0 hq2 ⊢
  obtain⟨tag,cls,used,lab,name,next,prev,refs,exp,typ,size,hash⟩:=b
  simp only[] at c0 c1 c2 c3 c4 c5 c6 c7 c8 c9 c10 c11 hq0 hq2 HC1 HC2 HC3 HR0 HR1 HR2 HR3 HB ⊢
  by_cases t0:tag=0
  · subst t0
    have HR:=Lib.hid (HR0.out rfl)
    clear HR0 HR1 HR2 HR3 HC1 HC2 HC3 hq2
    go_enter Tryz.func169,Tryz.ntmps169
    go_wp2
    go_ret
    exact⟨ret_bool HR.out.symm,HB.out⟩
  by_cases t1:tag=1
  · subst t1
    have HR:=Lib.hid (HR1.out rfl)
    clear HR0 HR1 HR2 HR3 HC3 hq0 hq2 t0
    cases d1
    · go_enter Tryz.func169,Tryz.ntmps169
      go_wp2_with fail
      refine(HC1.out _).mono ?_
      rintro e w1 ⟨rfl,rfl⟩
      go_wp2
      go_ret
      exact⟨ret_bool HR.out.symm,HB.out⟩
    cases d2
    · go_enter Tryz.func169,Tryz.ntmps169
      go_wp2_with fail
      refine(HC1.out _).mono ?_
      rintro e w1 ⟨rfl,rfl⟩
      go_wp2_with fail
      refine(HC2.out _).mono ?_
      rintro e w1 ⟨rfl,rfl⟩
      go_wp2
      go_ret
      exact⟨ret_bool HR.out.symm,HB.out⟩
    obtain⟨l0,hl0⟩:∃ l0,(lab == 0)=l0:=⟨_,rfl⟩
    rw[hl0] at HR
    cases l0
    · go_enter Tryz.func169,Tryz.ntmps169
      go_wp2_with fail
      refine(HC1.out _).mono ?_
      rintro e w1 ⟨rfl,rfl⟩
      go_wp2_with fail
      refine(HC2.out _).mono ?_
      rintro e w1 ⟨rfl,rfl⟩
      go_wp2
      go_ret
      exact⟨ret_bool HR.out.symm,HB.out⟩
    · go_enter Tryz.func169,Tryz.ntmps169
      go_wp2_with fail
      refine(HC1.out _).mono ?_
      rintro e w1 ⟨rfl,rfl⟩
      go_wp2_with fail
      refine(HC2.out _).mono ?_
      rintro e w1 ⟨rfl,rfl⟩
      go_wp2
      go_ret
      exact⟨ret_bool (by rw[HR.out];simp),HB.out⟩
  by_cases t2:tag=2
  · subst t2
    have HR:=Lib.hid (HR2.out rfl)
    clear HR0 HR1 HR2 HR3 HC2 hq0 t0 t1
    cases d1
    · go_enter Tryz.func169,Tryz.ntmps169
      go_wp2_with fail
      refine(HC1.out _).mono ?_
      rintro e w1 ⟨rfl,rfl⟩
      go_wp2
      go_ret
      exact⟨ret_bool HR.out.symm,HB.out⟩
    cases d3
    · go_enter Tryz.func169,Tryz.ntmps169
      go_wp2_with fail
      refine(HC1.out _).mono ?_
      rintro e w1 ⟨rfl,rfl⟩
      go_wp2_with fail
      refine(HC3.out _).mono ?_
      rintro e w1 ⟨rfl,rfl⟩
      go_wp2
      go_ret
      exact⟨ret_bool HR.out.symm,HB.out⟩
    · go_enter Tryz.func169,Tryz.ntmps169
      go_wp2_with fail
      refine(HC1.out _).mono ?_
      rintro e w1 ⟨rfl,rfl⟩
      go_wp2_with fail
      refine(HC3.out _).mono ?_
      rintro e w1 ⟨rfl,rfl⟩
      go_wp2
      go_ret
      exact⟨ret_bool (by rw[HR.out];simp),HB.out⟩
  · have HR:=Lib.hid (HR3.out t0 t1 t2)
    have e0:(tag == 0)=false:=by simpa using t0
    have e1:(tag == 1)=false:=by simpa using t1
    have e2:(tag == 2)=false:=by simpa using t2
    clear HR0 HR1 HR2 HR3 HC1 HC2 HC3 hq0 hq2 t0 t1 t2
    go_enter Tryz.func169,Tryz.ntmps169
    go_wp2
    go_ret
    exact⟨ret_bool HR.out.symm,HB.out⟩
end Go.Proofs.YtmgeiaglandedaaGreatDoor.Hea

namespace Go.Proofs.YtmgeiaglandedaaGreatDoor.Hea
open Go.RowKit Num
set_option linter.unusedVariables false
theorem wh_all {t:Int} (ht:0≤t∧t≤2) (f:Nat) (hf:f<12) (h1:(whF t f).2≠0):isW (whF t f).2=true∧(whF t f).1 % (whF t f).2=0:=by
  have k1:t=0∨t=1∨t=2:=by omega
  have all:∀ t:Fin 3,∀ f:Fin 12,(whF (t.val:Int) (f.val:Int)).2≠0→isW (whF (t.val:Int) (f.val:Int)).2=true∧(whF (t.val:Int) (f.val:Int)).1 % (whF (t.val:Int) (f.val:Int)).2=0:=by
    decide +kernel
  rcases k1 with rfl | rfl | rfl
  · exact all 0 ⟨f,hf⟩ h1
  · exact all 1 ⟨f,hf⟩ h1
  · exact all 2 ⟨f,hf⟩ h1
end Go.Proofs.YtmgeiaglandedaaGreatDoor.Hea

namespace Go.Proofs.YtmgeiaglandedaaGreatDoor.Hea
open Go.RowKit Num
set_option linter.unusedVariables false
end Go.Proofs.YtmgeiaglandedaaGreatDoor.Hea
