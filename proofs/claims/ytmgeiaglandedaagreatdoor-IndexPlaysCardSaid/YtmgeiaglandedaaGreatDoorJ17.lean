/- Plain mathematics of lists of slabs: who is next, who is ahead, who is first; what an insertion and a removal change. The landed lists: what they stand on; the parts of a header. The landed lists: what is read of a header, and what is written into one. The landed lists: what is written into a header. The landed lists: small functions; links. The landed lists: links; Set, Get. The landed lists: Set, Get. The landed lists: the iterator over a list. The landed lists: a place in a list. The landed lists: all of a list. Plain mathematics of lists of slabs: which bytes say which heads and lists, and what a link and a removal make of them. Plain mathematics of lists of slabs: what the bytes of a memory say of them; insertion and removal. Plain mathematics of lists of slabs: removal, Set, Begin; bytes that say the same are the same. The landed lists: Insert, Remove, Begin. The landed lists: Begin. The statements on lists: the page's example. Acts on lists, as they come in as arguments. The document's lists: what they say, All, First, Same. Get, of the landed lists and of the document's: the same header. -/
import Derived.Test.YtmgeiaglandedaaGreatDoorJ4
import Derived.Test.YtmgeiaglandedaaGreatDoorJ0
import Derived.Test.YtmgeiaglandedaaGreatDoorJ14
import Derived.Test.YtmgeiaglandedaaGreatDoorJ9
import Derived.Deep.RegionHeld3
import Derived.Laws.EntriesVeiled
import Derived.Deep.WholeRow
import Derived.RangeFuncNested
import Derived.RangeFuncBound
import Derived.RangeFuncCalls
import Derived.RangeFuncLeaves
import Derived.Shelf.Abstract
import Derived.Shelf.RegionOpen
import Derived.WalkKit
import Derived.OwnWalkIn
import Derived.TacticsInMore
import Derived.LoopNIn
import Derived.LoopIn
import Derived.Stop.RegionWithIn
import Derived.Scope
import Derived.Maps.AppendAt
import Derived.Test.YtmgeiaglandedaaGreatDoorJ6
namespace Go.Proofs.YtmgeiaglandedaaGreatDoor.Lis
set_option linter.unusedVariables false
def at_ (L:List Int) (j:Nat):Int:=L.getD j (-1)
def Nx (L:List Int) (c:Int) (k v:Nat):Prop :=
  (v=0∧∀ j,k≤j→j<L.length→at_ L j≠c)∨∃ j,v=j+1∧k≤j∧j<L.length∧at_ L j=c∧∀ i,k≤i→i<j→at_ L i≠c
def Pv (L:List Int) (c:Int) (k v:Nat):Prop :=
  (v=0∧∀ j,j<k→at_ L j≠c)∨∃ j,v=j+1∧j<k∧at_ L j=c∧∀ i,j<i→i<k→at_ L i≠c
def allL (L:List Int) (c:Int) (k:Nat):List Nat:=(List.range' k (L.length-k)).filter fun j=>at_ L j == c
theorem at_set {L:List Int} {s:Nat} (h:s<L.length) (c:Int) (j:Nat):at_ (L.set s c) j=if j=s then c else at_ L j:=by
  unfold at_ List.getD
  rw[List.getElem?_set]
  by_cases e:s=j
  · subst e
    simp[h]
  · rw[if_neg e,if_neg (fun h=>e h.symm)]
theorem nx_one {L:List Int} {c:Int} {k v u:Nat} (h:Nx L c k v) (g:Nx L c k u):v=u:=by
  rcases h with⟨rfl,h⟩ | ⟨j,rfl,h1,h2,h3,h4⟩<;>rcases g with⟨rfl,g⟩ | ⟨i,rfl,g1,g2,g3,g4⟩
  · rfl
  · exact absurd g3 (h i g1 g2)
  · exact absurd h3 (g j h1 h2)
  · rcases Nat.lt_trichotomy j i with e | e | e
    · exact absurd h3 (g4 j h1 e)
    · rw[e]
    · exact absurd g3 (h4 i g1 e)
theorem pv_one {L:List Int} {c:Int} {k v u:Nat} (h:Pv L c k v) (g:Pv L c k u):v=u:=by
  rcases h with⟨rfl,h⟩ | ⟨j,rfl,h1,h3,h4⟩<;>rcases g with⟨rfl,g⟩ | ⟨i,rfl,g1,g3,g4⟩
  · rfl
  · exact absurd g3 (h i g1)
  · exact absurd h3 (g j h1)
  · rcases Nat.lt_trichotomy j i with e | e | e
    · exact absurd g3 (h4 i e g1)
    · rw[e]
    · exact absurd h3 (g4 j e h1)
theorem nx_le {L:List Int} {c:Int} {k v:Nat} (h:Nx L c k v):v≤L.length:=by
  rcases h with⟨rfl,-⟩ | ⟨j,rfl,-,h2,-⟩<;>omega
theorem nx_here {L:List Int} {c:Int} {k:Nat} (h:k<L.length) (hk:at_ L k=c):Nx L c k (k+1):=.inr ⟨k,rfl,Nat.le_refl _,h,hk,fun i h1 h2=>by omega⟩
theorem nx_end {L:List Int} {c:Int} {k:Nat} (h:L.length≤k):Nx L c k 0:=.inl ⟨rfl,fun j h1 h2=>by omega⟩
theorem all_nil {L:List Int} {c:Int} {k:Nat} (h:Nx L c k 0):allL L c k = []:=by
  rcases h with⟨-,h⟩ | ⟨j,h,-⟩
  · unfold allL
    rw[List.filter_eq_nil_iff]
    intro j hj
    rw[List.mem_range'_1] at hj
    simpa using h j hj.1 (by omega)
  · cases h
theorem range_split (k j n:Nat) (h1:k≤j) (h2:j<n):List.range' k (n-k)=List.range' k (j-k)++(j::List.range' (j+1) (n-(j+1))):=by
  have e1:n-k=(j-k)+(n-j):=by omega
  have e2:n-j=(n-(j+1))+1:=by omega
  rw[e1,←List.range'_append_1,e2,List.range'_succ,show k+(j-k)=j by omega]
theorem all_cons {L:List Int} {c:Int} {k j:Nat} (h:Nx L c k (j+1)):allL L c k=j::allL L c (j+1):=by
  rcases h with⟨h,-⟩ | ⟨i,h,h1,h2,h3,h4⟩
  · cases h
  · obtain rfl:i=j:=by omega
    unfold allL
    rw[range_split k i L.length h1 h2,List.filter_append,List.filter_cons_of_pos (by simpa using h3)]
    rw[List.filter_eq_nil_iff.2,List.nil_append]
    intro x hx
    rw[List.mem_range'_1] at hx
    simpa using h4 x hx.1 (by omega)
theorem nx_other {L:List Int} {s:Nat} (hs:s<L.length) {c d:Int} (h1:at_ L s≠d) (h2:c≠d) {k v:Nat} : Nx (L.set s c) d k v↔Nx L d k v:=by
  have key:∀ j,at_ (L.set s c) j=d↔at_ L j=d:=fun j=>by
    rw[at_set hs]
    split
    · rename_i e
      subst e
      exact⟨fun h=>absurd h h2,fun h=>absurd h h1⟩
    · exact Iff.rfl
  unfold Nx
  simp only[List.length_set,ne_eq,key]
theorem pv_other {L:List Int} {s:Nat} (hs:s<L.length) {c d:Int} (h1:at_ L s≠d) (h2:c≠d) {k v:Nat} : Pv (L.set s c) d k v↔Pv L d k v:=by
  have key:∀ j,at_ (L.set s c) j=d↔at_ L j=d:=fun j=>by
    rw[at_set hs]
    split
    · rename_i e
      subst e
      exact⟨fun h=>absurd h h2,fun h=>absurd h h1⟩
    · exact Iff.rfl
  unfold Pv
  simp only[ne_eq,key]
theorem nx_ins {L:List Int} {s:Nat} (hs:s<L.length) {c:Int} (h0:at_ L s≠c) {k v:Nat} (h:Nx L c k v):Nx (L.set s c) c k (if k≤s∧(v=0∨s+1<v) then s+1 else v):=by
  have hat:=at_set hs c
  rcases h with⟨rfl,h⟩ | ⟨j,rfl,h1,h2,h3,h4⟩
  · by_cases hk : k ≤ s
    · rw[if_pos ⟨hk,.inl rfl⟩]
      refine .inr ⟨s,rfl,hk,by simpa using hs,by rw[hat,if_pos rfl],fun i h1 h2=>?_⟩
      rw[hat,if_neg (by omega)]
      exact h i h1 (by omega)
    · rw[if_neg (fun e=>hk e.1)]
      refine .inl ⟨rfl,fun j h1 h2=>?_⟩
      rw[hat,if_neg (by omega)]
      exact h j h1 (by simpa using h2)
  · have hne:j≠s:=by rintro rfl;exact h0 h3
    by_cases hk:k≤s∧s<j
    · rw[if_pos ⟨hk.1,.inr (by omega)⟩]
      refine .inr ⟨s,rfl,hk.1,by simpa using hs,by rw[hat,if_pos rfl],fun i g1 g2=>?_⟩
      rw[hat,if_neg (by omega)]
      exact h4 i g1 (by omega)
    · rw[if_neg (fun e=>hk ⟨e.1,by omega⟩)]
      refine .inr ⟨j,rfl,h1,by simpa using h2,by rw[hat,if_neg hne];exact h3,fun i g1 g2=>?_⟩
      rw[hat,if_neg (by omega)]
      exact h4 i g1 g2
theorem pv_ins {L:List Int} {s:Nat} (hs:s<L.length) {c:Int} (h0:at_ L s≠c) {k v:Nat} (h:Pv L c k v):Pv (L.set s c) c k (if s<k∧v<s+1 then s+1 else v):=by
  have hat:=at_set hs c
  rcases h with⟨rfl,h⟩ | ⟨j,rfl,h1,h3,h4⟩
  · by_cases hk : s < k
    · rw[if_pos ⟨hk,by omega⟩]
      refine .inr ⟨s,rfl,hk,by rw[hat,if_pos rfl],fun i h1 h2=>?_⟩
      rw[hat,if_neg (by omega)]
      exact h i h2
    · rw[if_neg (fun e=>hk e.1)]
      refine .inl ⟨rfl,fun j h1=>?_⟩
      rw[hat,if_neg (by omega)]
      exact h j h1
  · have hne:j≠s:=by rintro rfl;exact h0 h3
    by_cases hk:s<k∧j<s
    · rw[if_pos ⟨hk.1,by omega⟩]
      refine .inr ⟨s,rfl,hk.1,by rw[hat,if_pos rfl],fun i g1 g2=>?_⟩
      rw[hat,if_neg (by omega)]
      exact h4 i (by omega) g2
    · rw[if_neg (fun e=>hk ⟨e.1,by omega⟩)]
      refine .inr ⟨j,rfl,h1,by rw[hat,if_neg hne];exact h3,fun i g1 g2=>?_⟩
      rw[hat,if_neg (by omega)]
      exact h4 i g1 g2
theorem nx_rem {L:List Int} {s:Nat} (hs:s<L.length) {c d:Int} (h0:at_ L s=c) (hd:d≠c) {k v u:Nat} (h:Nx L c k v) (hu:Nx L c (s+1) u):Nx (L.set s d) c k (if v=s+1 then u else v):=by
  have hat:=at_set hs d
  by_cases e:v=s+1
  · rw [if_pos e]
    rcases h with⟨rfl,-⟩ | ⟨j,e2,h1,h2,h3,h4⟩
    · omega
    · obtain rfl:j=s:=by omega
      rcases hu with⟨rfl,hu⟩ | ⟨i,rfl,g1,g2,g3,g4⟩
      · refine .inl ⟨rfl,fun i g1 g2=>?_⟩
        rw[hat]
        split
        · exact hd
        · by_cases g3:i<j
          · exact h4 i g1 g3
          · exact hu i (by omega) (by simpa using g2)
      · refine .inr ⟨i,rfl,by omega,by simpa using g2,by rw[hat,if_neg (by omega)];exact g3,fun x x1 x2=>?_⟩
        rw[hat]
        split
        · exact hd
        · by_cases x3:x<j
          · exact h4 x x1 x3
          · exact g4 x (by omega) x2
  · rw[if_neg e]
    rcases h with⟨rfl,h⟩ | ⟨j,rfl,h1,h2,h3,h4⟩
    · refine .inl ⟨rfl,fun i g1 g2=>?_⟩
      rw[hat]
      split
      · exact hd
      · exact h i g1 (by simpa using g2)
    · refine .inr ⟨j,rfl,h1,by simpa using h2,by rw[hat,if_neg (by omega)];exact h3,fun i g1 g2=>?_⟩
      rw[hat]
      split
      · exact hd
      · exact h4 i g1 g2
theorem pv_rem {L:List Int} {s:Nat} (hs:s<L.length) {c d:Int} (h0:at_ L s=c) (hd:d≠c) {k v u:Nat} (h:Pv L c k v) (hu:Pv L c s u):Pv (L.set s d) c k (if v=s+1 then u else v):=by
  have hat:=at_set hs d
  by_cases e:v=s+1
  · rw [if_pos e]
    rcases h with⟨rfl,-⟩ | ⟨j,e2,h1,h3,h4⟩
    · omega
    · obtain rfl:j=s:=by omega
      rcases hu with⟨rfl,hu⟩ | ⟨i,rfl,g1,g3,g4⟩
      · refine .inl ⟨rfl,fun i g1=>?_⟩
        rw[hat]
        split
        · exact hd
        · by_cases g3:i<j
          · exact hu i g3
          · exact h4 i (by omega) g1
      · refine .inr ⟨i,rfl,by omega,by rw[hat,if_neg (by omega)];exact g3,fun x x1 x2=>?_⟩
        rw[hat]
        split
        · exact hd
        · by_cases x3:x<j
          · exact g4 x x1 x3
          · exact h4 x (by omega) x2
  · rw[if_neg e]
    rcases h with⟨rfl,h⟩ | ⟨j,rfl,h1,h3,h4⟩
    · refine .inl ⟨rfl,fun i g1=>?_⟩
      rw[hat]
      split
      · exact hd
      · exact h i g1
    · refine .inr ⟨j,rfl,h1,by rw[hat,if_neg (by omega)];exact h3,fun i g1 g2=>?_⟩
      rw[hat]
      split
      · exact hd
      · exact h4 i g1 g2
end Go.Proofs.YtmgeiaglandedaaGreatDoor.Lis

namespace Go.Proofs.YtmgeiaglandedaaGreatDoor.Lis
open Go.RowKit Num
open Mem (Mm MemC MRet Hm rd blkM)
set_option linter.unusedVariables false
theorem tab_same {P:Program} {name:String} {k:IntKind} {zs:List Int} {w w':World} {g:Nat} (hg:P.globalNamed name=some g) (hb:w'.heap[g]? = w.heap[g]?) (h:Lib.TabIs P w name k zs):Lib.TabIs P w' name k zs:=by
  unfold Lib.TabIs World.var? at h ⊢
  rw[hg,Option.bind_some] at h ⊢
  rw[hb]
  exact h
structure Tb (w:World):Prop where
  p:Mem.TabP w
  c:Cls.Tab w
theorem Tb.keep {w w':World} (hb:Below w.heap.size w w') (h:Tb w):Tb w':=⟨tab_keep hb h.p,tab_keep hb h.c⟩
theorem not_blk {h:Hm} {w:World} {v:Value} {M:Mm} {k:Nat} {c:Int} (hm:MemC h w v M) (hc:w.cell? ⟨k,0,none⟩=some (.int .i64 c)):¬ blkM h k:=by
  have nb:∀ (l:List Int) (T:TypeId),w.heap[k]? = some (.cells (vals l).toArray T (0,0))→False:=fun l T hb=>by
    have h1:=cell_block hb 0
    rw[hc] at h1
    cases l with
    | nil=>simp[vals] at h1
    | cons y l=>simp[vals] at h1
  rintro (rfl | (rfl | rfl) | (rfl | rfl))
  · have:=hc.symm.trans ((cell_block hm.blk 0).trans rfl)
    cases this
  · have:=hc.symm.trans ((cell_block hm.wa.2.1 0).trans rfl)
    cases this
  · exact nb _ _ hm.wa.2.2.1
  · have:=hc.symm.trans ((cell_block hm.ar.2.1 0).trans rfl)
    cases this
  · exact nb _ _ hm.ar.2.2.1
theorem cell_lt {w:World} {b o:Nat} {v:Value} (h:w.cell? ⟨b,o,none⟩=some v):b<w.heap.size:=World.block_lt_of_cell? w _ h
theorem Tb.fr {h:Hm} {w w':World} {v:Value} {M:Mm} (htb:Tb w) (hm:MemC h w v M) (hf:Fr w.heap.size (blkM h) w w'):Tb w':=by
  have c1:=htb.p.cell 0 (by omega)
  have c2:=htb.c.cell 0 (by omega)
  exact⟨tab_same (show Tryz.prog.globalNamed "columbarium/memory.places" = some 0 by kernel_rfl) (hf.block _ (cell_lt c1) (not_blk hm c1)) htb.p,
    tab_same (show Tryz.prog.globalNamed "columbarium/class.sizes" = some 1 by kernel_rfl) (hf.block _ (cell_lt c2) (not_blk hm c2)) htb.c⟩
structure Cf where
  s:Nat
  n:Nat
  x:List Int
  ft:Int
def Cf.mm (C:Cf) (l:List Int) (lk:Int):Mm:=⟨C.s,C.n,l,C.x,lk,C.ft⟩
structure Cf.Ok (C:Cf):Prop where
  lo:7≤C.s
  hi:C.s≤64
  right:Lay.rightC C.s C.n=true
  len:128+16*C.s≤C.x.length
  big:C.x.length≤1048576
  root:∀ j,8≤j→j<128→C.x.getD j 0=2
  head:∀ j,128≤j→j<128+16*C.s→C.x.getD j 0=3
def LM (h:Hm) (C:Cf) (l:List Int) (w:World):Prop:=Tb w∧∃ lk,MemC h w (.pointer (some ⟨h.g,0,none⟩)) (C.mm l lk)
def LR (h:Hm) (C:Cf) (l:List Int) (r:Value) (w:World) (e:Ending) (w':World):Prop:=e = .returned r∧LM h C l w'∧Fr w.heap.size (blkM h) w w'
theorem LM.lt {h:Hm} {C:Cf} {l:List Int} {w:World} (hs:LM h C l w):∀ k,blkM h k→k<w.heap.size:=by
  obtain⟨-,lk,hm⟩:=hs
  exact hm.lt
theorem LM.below {h:Hm} {C:Cf} {l:List Int} {w w':World} (hs:LM h C l w) (hb:Below w.heap.size w w'):LM h C l w':=by
  obtain⟨ht,lk,hm⟩:=hs
  exact⟨ht.keep hb,lk,hm.below hb⟩
theorem LM.drew {h:Hm} {C:Cf} {l:List Int} {w:World} (hs:LM h C l w):LM h C l w.drew:=hs.below (Below.refl _ _).drew
theorem LM.len {h:Hm} {C:Cf} {l:List Int} {w:World} (hs:LM h C l w):l.length=C.x.length:=by
  obtain⟨-,lk,hm⟩:=hs
  exact hm.lenx.symm
theorem LM.bytes {h:Hm} {C:Cf} {l:List Int} {w:World} (hs:LM h C l w):Arn.IsBytes l:=by
  obtain⟨-,lk,hm⟩:=hs
  exact hm.ar.2.2.2.2.1
theorem LM.notInt {h:Hm} {C:Cf} {l:List Int} {w:World} (hs:LM h C l w) {k:Nat} {c:Int} (hc:w.cell? ⟨k,0,none⟩=some (.int .i64 c)):¬ blkM h k:=by
  obtain⟨-,lk,hm⟩:=hs
  exact not_blk hm hc
theorem LM.mret {h:Hm} {C:Cf} {l l':List Int} {w w':World} {lk:Int} {r:Value} {e:Ending} (hs:LM h C l w) (hr:MRet h w (.pointer (some ⟨h.g,0,none⟩)) (C.mm l' lk) r e w'):LR h C l' r w e w':=by
  obtain⟨ht,lk0,hm⟩:=hs
  exact⟨hr.1,⟨ht.fr hm hr.2.2,lk,hr.2.1⟩,hr.2.2⟩
theorem LM.only {h:Hm} {C:Cf} {l:List Int} {w w':World} (hs:LM h C l w) (hb:Below w.heap.size w w') (r:Value):LR h C l r w (.returned r) w':=⟨rfl,hs.below hb,Fr.of_below hb⟩
theorem LM.stay {h:Hm} {C:Cf} {l:List Int} {w w':World} {S:Nat→Prop} (hs:LM h C l w) (hf:Fr w.heap.size S w w') (hS:∀ k,S k→¬ blkM h k∧k≠0∧k≠1):LM h C l w':=by
  obtain⟨ht,lk,hm⟩:=hs
  have c1:=ht.p.cell 0 (by omega)
  have c2:=ht.c.cell 0 (by omega)
  exact⟨⟨tab_same (show Tryz.prog.globalNamed "columbarium/memory.places" = some 0 by kernel_rfl) (hf.block _ (cell_lt c1) (fun q=>(hS _ q).2.1 rfl)) ht.p,
    tab_same (show Tryz.prog.globalNamed "columbarium/class.sizes" = some 1 by kernel_rfl) (hf.block _ (cell_lt c2) (fun q=>(hS _ q).2.2 rfl)) ht.c⟩,lk,hm.stay hf (fun k hk=>⟨hm.lt k hk,fun q=>(hS k q).1 hk⟩)⟩
theorem LM.tabs {h:Hm} {C:Cf} {l:List Int} {w:World} (hs:LM h C l w):0<w.heap.size∧1<w.heap.size:=⟨cell_lt (hs.1.p.cell 0 (by omega)),cell_lt (hs.1.c.cell 0 (by omega))⟩
theorem LM.stayN {h:Hm} {C:Cf} {l l0:List Int} {w0 w w':World} {S:Nat→Prop} (h0:LM h C l0 w0) (hs:LM h C l w) (hf:Fr w.heap.size S w w') (hS:∀ k,S k→w0.heap.size≤k):LM h C l w' :=
  hs.stay hf (fun k hk=>by
    have:=hS k hk
    have h1:=h0.tabs
    exact⟨fun q=>by have:=h0.lt k q;omega,by omega,by omega⟩)
theorem LR.then {h:Hm} {C:Cf} {l l':List Int} {r r':Value} {w w1 w2:World} {e e':Ending} (h1:LR h C l r w e w1) (h2:LR h C l' r' w1 e' w2):LR h C l' r' w e' w2:=⟨h2.1,h2.2.1,h1.2.2.trans (h2.2.2.mono h1.2.2.size (fun _ _ hk=>hk))⟩
theorem LR.of_fr {h:Hm} {C:Cf} {l l':List Int} {r:Value} {w w1 w2:World} {e:Ending} (hb:Below w.heap.size w w1) (h2:LR h C l' r w1 e w2):LR h C l' r w e w2:=⟨h2.1,h2.2.1,(Fr.of_below hb).trans (h2.2.2.mono hb.size (fun _ _ hk=>hk))⟩
theorem LM.load {h:Hm} {C:Cf} {l:List Int} {w:World} (hs:LM h C l w) (a n:Nat) (k:Int) (hl:Wat.lookA C.x a n k=true) (ha:a≤2000000) :
    Calls Tryz.prog 128 #[.pointer (some ⟨h.g,0,none⟩),.int .i64 (a:Int),.int .i64 (n:Int),.int .i64 k] w (LR h C l (.int .u64 (rd l a n)) w):=by
  obtain⟨ht,lk,hm⟩:=id hs
  refine(Mem.load_any h _ (C.mm l lk) a n k w hm (by unfold Arn.is64;omega)).mono ?_
  intro e w' hq
  rw[Mem.load_ok hl hm.lenx] at hq
  exact hs.mret (lk:=wrap64 (lk+1)) hq
theorem LM.store {h:Hm} {C:Cf} {l:List Int} {w:World} (hs:LM h C l w) (a n:Nat) (k y:Int) (hl:Wat.lookA C.x a n k=true) (ha:a≤2000000) (h0:0≤y) (hf:fits y n=true) (h1:y<18446744073709551616) :
    Calls Tryz.prog 166 #[.pointer (some ⟨h.g,0,none⟩),.int .i64 (a:Int),.int .i64 (n:Int),.int .i64 k,.int .u64 y] w (LR h C (stl l a n y) (.bool true) w):=by
  obtain⟨ht,lk,hm⟩:=id hs
  refine(Mem.store_any h _ (C.mm l lk) a n k y w hm (by unfold Arn.is64;omega) h0 h1).mono ?_
  intro e w' hq
  rw[Mem.store_ok hl hm.lenx hf] at hq
  exact hs.mret (lk:=wrap64 (lk+1)) hq
theorem Cf.Ok.rootLook {C:Cf} (hC:C.Ok) (c:Nat) (hc:c<10):Wat.lookA C.x ((20+4*c:Nat):Int) ((4:Nat):Int) 2=true:=by
  have:=hC.len
  have:=hC.lo
  exact Mem.look_iff.2 ⟨by decide,by omega,by omega,by decide,fun j hj=>hC.root _ (by omega) (by omega)⟩
theorem Cf.Ok.headLook {C:Cf} (hC:C.Ok) (s o n:Nat) (hs:s<C.s) (hn:isW (n:Int)=true) (ho:o+n≤16) (hal:o % n=0):Wat.lookA C.x ((128+16*s+o:Nat):Int) (n:Int) 3=true:=by
  have h1:=hC.len
  refine Mem.look_iff.2 ⟨hn,by omega,?_,by decide,fun j hj=>hC.head _ (by omega) (by omega)⟩
  rcases isW_cases hn with e | e | e | e
  · obtain rfl:n=1:=by omega
    omega
  · obtain rfl:n=2:=by omega
    omega
  · obtain rfl:n=4:=by omega
    omega
  · obtain rfl:n=8:=by omega
    omega
theorem fld_root:∀ c:Nat,c<10→Mem.fldM (3+(c:Int))=true∧Mem.fatM (3+(c:Int))=((20+4*c:Nat):Int)∧Mem.fwdM (3+(c:Int))=((4:Nat):Int):=by decide
theorem LM.root {h:Hm} {C:Cf} {l:List Int} {w:World} (hC:C.Ok) (hs:LM h C l w) (c:Nat) (hc:c<10) :
    Calls Tryz.prog 53 #[.pointer (some ⟨h.g,0,none⟩),.int .i64 (3+(c:Int))] w (LR h C l (.int .u64 (rd l (20+4*c) 4)) w):=by
  obtain⟨ht,lk,hm⟩:=id hs
  obtain⟨f1,f2,f3⟩:=fld_root c hc
  refine(Mem.root_any h _ (C.mm l lk) _ w hm ht.p).mono ?_
  intro e w' hq
  rw[Mem.Mm.root,if_pos f1,f2,f3,Mem.load_ok (hC.rootLook c hc) hm.lenx] at hq
  exact hs.mret (lk:=wrap64 (lk+1)) hq
theorem LM.setRoot {h:Hm} {C:Cf} {l:List Int} {w:World} (hC:C.Ok) (hs:LM h C l w) (c:Nat) (hc:c<10) (y:Int) (h0:0≤y) (h1:y<4294967296) :
    Calls Tryz.prog 100 #[.pointer (some ⟨h.g,0,none⟩),.int .i64 (3+(c:Int)),.int .u64 y] w (LR h C (stl l (20+4*c) 4 y) (.bool true) w):=by
  obtain⟨ht,lk,hm⟩:=id hs
  obtain⟨f1,f2,f3⟩:=fld_root c hc
  have hf:fits y ((4:Nat):Int)=true:=by simp[fits,isW];omega
  refine(Mem.setRoot_any h _ (C.mm l lk) _ y w hm ht.p h0 (by omega)).mono ?_
  intro e w' hq
  rw[Mem.Mm.setRoot,if_pos f1,f2,f3,Mem.store_ok (hC.rootLook c hc) hm.lenx hf] at hq
  exact hs.mret (lk:=wrap64 (lk+1)) hq
theorem LM.config {h:Hm} {C:Cf} {l:List Int} {w:World} (hs:LM h C l w) :
    Calls Tryz.prog 147 #[.pointer (some ⟨h.g,0,none⟩)] w fun e w'=>e = .returned (.agg #[.int .i64 (C.s:Int),.int .i64 (C.n:Int)])∧Below w.heap.size w w':=by
  obtain⟨ht,lk,hm⟩:=id hs
  exact Mem.config_any h _ (C.mm l lk) w hm
theorem LM.headAt {h:Hm} {C:Cf} {l:List Int} {w:World} (hC:C.Ok) (hs:LM h C l w) (s:Nat) (hlt:s<C.s) :
    Calls Tryz.prog 236 #[.agg #[.int .i64 (C.s:Int),.int .i64 (C.n:Int)],.int .i64 (s:Int)] w fun e w'=>e = .returned (.int .i64 ((128+16*s:Nat):Int))∧Below w.heap.size w w':=by
  have h1:=hC.hi
  obtain⟨q1,q2,q3,q4,q5⟩:=Lay.right_out hC.right
  refine(Lay.headAt_any C.s C.n s w hs.1.c (by omega) (by omega) (by omega) (by omega) (by omega) (by omega)).mono ?_
  rintro e w' ⟨rfl,hb⟩
  refine⟨?_,hb⟩
  rw[Lay.headC,if_pos ⟨hC.right,by omega,by omega⟩,Int.toNat_natCast]
structure Hd where
  c:Int
  l:Int
  f:Int
  x:Int
  p:Int
def Hd.zero:Hd:=⟨0,0,0,0,0⟩
def Hd.at (d:Hd):Nat→Int
  | 0=>d.c
  | 1=>d.l
  | 2=>d.f
  | 3=>d.x
  | _=>d.p
def Hd.set (d:Hd) (i:Nat) (v:Int):Hd:=match i with
  | 0 => { d with c:=v }
  | 1 => { d with l:=v }
  | 2 => { d with f:=v }
  | 3 => { d with x:=v }
  | _ => { d with p:=v }
def Hd.cells (d:Hd):Array Value := #[.int .i64 d.c,.int .i64 d.l,.int .u32 d.f,.int .i64 d.x,.int .i64 d.p]
def Hd.agg (d:Hd):Value:=.agg d.cells
def pat:Nat→Nat
  | 0=>0
  | 1=>2
  | 2=>4
  | 3=>8
  | _=>12
def pwd:Nat→Nat
  | 0=>2
  | 1=>2
  | _=>4
def fw:Nat→Nat
  | 0=>253
  | 1=>255
  | 2=>257
  | 3=>259
  | _=>261
def fr:Nat→Nat
  | 0=>254
  | 1=>256
  | 2=>258
  | 3=>260
  | _=>262
theorem part_bd {i:Nat} (hi:i<5):isW (pwd i:Int)=true∧pat i+pwd i≤16∧pat i % pwd i=0∧pwd i≤4:=by
  rcases(show i=0∨i=1∨i=2∨i=3∨i=4 by omega) with rfl | rfl | rfl | rfl | rfl<;>decide
theorem u64_id {n:Int} (h0:0≤n) (h1:n<18446744073709551616):IntKind.u64.wrap n=n:=by
  simp[IntKind.wrap,IntKind.bits,IntKind.signed]
  omega
theorem u32_id {n:Int} (h0:0≤n) (h1:n<4294967296):IntKind.u32.wrap n=n:=by
  simp[IntKind.wrap,IntKind.bits,IntKind.signed]
  omega
theorem written_any (i:Nat) (hi:i<5) (d:Hd) (w:World) (h0:0≤d.at i) (h1:d.at i<4294967296):Calls Tryz.prog (fw i) #[d.agg] w fun e w'=>e = .returned (.int .u64 (d.at i))∧Below w.heap.size w w':=by
  obtain⟨c,l,f,x,p⟩:=d
  have hblk:=heap_alloc_new w (.cells #[.int .i64 c,.int .i64 l,.int .u32 f,.int .i64 x,.int .i64 p] 160)
  have q0:=(cell_block hblk 0).trans rfl
  have q1:=(cell_block hblk 1).trans rfl
  have q2:=(cell_block hblk 2).trans rfl
  have q3:=(cell_block hblk 3).trans rfl
  have q4:=(cell_block hblk 4).trans rfl
  clear hblk
  unfold Hd.agg Hd.cells
  rcases(show i=0∨i=1∨i=2∨i=3∨i=4 by omega) with rfl | rfl | rfl | rfl | rfl
  · simp only[Hd.at] at h0 h1 ⊢
    have hw:=Lib.hid (u64_id h0 (by omega))
    show Calls Tryz.prog 253 _ _ _
    clear hi h0 h1
    go_enter Tryz.func253,Tryz.ntmps253
    go_wp2
    go_ret
    exact⟨ret_int hw.out,below_made _ _⟩
  · simp only[Hd.at] at h0 h1 ⊢
    have hw:=Lib.hid (u64_id h0 (by omega))
    show Calls Tryz.prog 255 _ _ _
    clear hi h0 h1
    go_enter Tryz.func255,Tryz.ntmps255
    go_wp2
    go_ret
    exact⟨ret_int hw.out,below_made _ _⟩
  · simp only[Hd.at] at h0 h1 ⊢
    have hw:=Lib.hid (u64_id h0 (by omega))
    show Calls Tryz.prog 257 _ _ _
    clear hi h0 h1
    go_enter Tryz.func257,Tryz.ntmps257
    go_wp2
    go_ret
    exact⟨ret_int hw.out,below_made _ _⟩
  · simp only[Hd.at] at h0 h1 ⊢
    have hw:=Lib.hid (u64_id h0 (by omega))
    show Calls Tryz.prog 259 _ _ _
    clear hi h0 h1
    go_enter Tryz.func259,Tryz.ntmps259
    go_wp2
    go_ret
    exact⟨ret_int hw.out,below_made _ _⟩
  · simp only[Hd.at] at h0 h1 ⊢
    have hw:=Lib.hid (u64_id h0 (by omega))
    show Calls Tryz.prog 261 _ _ _
    clear hi h0 h1
    go_enter Tryz.func261,Tryz.ntmps261
    go_wp2
    go_ret
    exact⟨ret_int hw.out,below_made _ _⟩
end Go.Proofs.YtmgeiaglandedaaGreatDoor.Lis

namespace Go.Proofs.YtmgeiaglandedaaGreatDoor.Lis
open Go.RowKit Num
open Mem (Mm MemC MRet Hm rd blkM)
set_option linter.unusedVariables false
theorem i64_id {n:Int} (h0:0≤n) (h1:n<4294967296):IntKind.i64.wrap n=n:=by
  simp[IntKind.wrap,IntKind.bits,IntKind.signed]
  omega
theorem wrap64_id {n:Int} (h0:0≤n) (h1:n<4294967296):wrap64 n=n:=IntWalk.wrap64_in _ (by omega)
theorem Hd.blk_set {w:World} {B i:Nat} {d:Hd} {T:TypeId} (hi:i<5) (h:w.heap[B]? = some (.cells d.cells T (0,0))) (v:Int) :
    (w.setCell ⟨B,i,none⟩ (if i=2 then .int .u32 v else .int .i64 v)).heap[B]? = some (.cells (d.set i v).cells T (0,0)):=by
  refine(Arn.heap_setCell_own h _).trans ?_
  rcases(show i=0∨i=1∨i=2∨i=3∨i=4 by omega) with rfl | rfl | rfl | rfl | rfl<;>simp[Hd.cells,Hd.set]
theorem Hd.put {w:World} {B:Nat} {d:Hd} {T:TypeId} (h:w.heap[B]? = some (.cells d.cells T (0,0))) (v:Int) (i:Nat) (hi:i<5) :
    (w.setCell ⟨B,i,none⟩ (if i=2 then .int .u32 v else .int .i64 v)).heap[B]? = some (.cells (d.set i v).cells T (0,0))∧Fr w.heap.size (fun k=>k=B) w (w.setCell ⟨B,i,none⟩ (if i=2 then .int .u32 v else .int .i64 v)) :=
  ⟨Hd.blk_set hi h v,(Fr.refl w.heap.size (fun k=>k=B) w).setCell (p:=⟨B,i,none⟩) (.inr rfl) _⟩
theorem readfn_any (i:Nat) (hi:i<5) (d:Hd) (B:Nat) (v:Int) (w:World) (hb:w.heap[B]? = some (.cells d.cells 160 (0,0))) (h0:0≤v) (h1:v<4294967296) :
    Calls Tryz.prog (fr i) #[.pointer (some ⟨B,0,none⟩),.int .u64 v] w fun e w'=>e = .returned (.tuple #[])∧w'.heap[B]? = some (.cells (d.set i v).cells 160 (0,0))∧Fr w.heap.size (fun k=>k=B) w w':=by
  have q0:w.cell? ⟨B,0,none⟩=some (.int .i64 d.c):=(cell_block hb 0).trans rfl
  have q1:w.cell? ⟨B,1,none⟩=some (.int .i64 d.l):=(cell_block hb 1).trans rfl
  have q2:w.cell? ⟨B,2,none⟩=some (.int .u32 d.f):=(cell_block hb 2).trans rfl
  have q3:w.cell? ⟨B,3,none⟩=some (.int .i64 d.x):=(cell_block hb 3).trans rfl
  have q4:w.cell? ⟨B,4,none⟩=some (.int .i64 d.p):=(cell_block hb 4).trans rfl
  have f0:=Wat.frozen_block hb 0
  have f1:=Wat.frozen_block hb 1
  have f2:=Wat.frozen_block hb 2
  have f3:=Wat.frozen_block hb 3
  have f4:=Wat.frozen_block hb 4
  have HS:=Lib.hid (Hd.put hb v)
  have w32:=u32_id h0 h1
  have w64:=i64_id h0 h1
  have w64':=wrap64_id h0 h1
  clear hb h0 h1
  rcases(show i=0∨i=1∨i=2∨i=3∨i=4 by omega) with rfl | rfl | rfl | rfl | rfl
  · show Calls Tryz.prog 254 _ _ _
    have HX:=HS.out 0 hi
    simp only[Nat.reduceEqDiff,if_false] at HX
    go_enter Tryz.func254,Tryz.ntmps254
    go_wp2
    refine bodyPost_end (results_none rfl _ _ _) rfl ⟨rfl,HX⟩
  · show Calls Tryz.prog 256 _ _ _
    have HX:=HS.out 1 hi
    simp only[Nat.reduceEqDiff,if_false] at HX
    go_enter Tryz.func256,Tryz.ntmps256
    go_wp2
    refine bodyPost_end (results_none rfl _ _ _) rfl ⟨rfl,HX⟩
  · show Calls Tryz.prog 258 _ _ _
    have HX:=HS.out 2 hi
    simp only[if_true] at HX
    go_enter Tryz.func258,Tryz.ntmps258
    go_wp2
    refine bodyPost_end (results_none rfl _ _ _) rfl ⟨rfl,HX⟩
  · show Calls Tryz.prog 260 _ _ _
    have HX:=HS.out 3 hi
    simp only[Nat.reduceEqDiff,if_false] at HX
    go_enter Tryz.func260,Tryz.ntmps260
    go_wp2
    refine bodyPost_end (results_none rfl _ _ _) rfl ⟨rfl,HX⟩
  · show Calls Tryz.prog 262 _ _ _
    have HX:=HS.out 4 hi
    simp only[Nat.reduceEqDiff,if_false] at HX
    go_enter Tryz.func262,Tryz.ntmps262
    go_wp2
    refine bodyPost_end (results_none rfl _ _ _) rfl ⟨rfl,HX⟩
theorem enters_fr (i:Nat) (hi:i<5):∀ args w,(callFunc (fr i) args).run Tryz.prog w = .ok (.enter (fr i) args) w:=by
  rcases(show i=0∨i=1∨i=2∨i=3∨i=4 by omega) with rfl | rfl | rfl | rfl | rfl
  · exact enters_of Tryz.func254 (by kernel_rfl) rfl
  · exact enters_of Tryz.func256 (by kernel_rfl) rfl
  · exact enters_of Tryz.func258 (by kernel_rfl) rfl
  · exact enters_of Tryz.func260 (by kernel_rfl) rfl
  · exact enters_of Tryz.func262 (by kernel_rfl) rfl
theorem enters_fw (i:Nat) (hi:i<5):∀ args w,(callFunc (fw i) args).run Tryz.prog w = .ok (.enter (fw i) args) w:=by
  rcases(show i=0∨i=1∨i=2∨i=3∨i=4 by omega) with rfl | rfl | rfl | rfl | rfl
  · exact enters_of Tryz.func253 (by kernel_rfl) rfl
  · exact enters_of Tryz.func255 (by kernel_rfl) rfl
  · exact enters_of Tryz.func257 (by kernel_rfl) rfl
  · exact enters_of Tryz.func259 (by kernel_rfl) rfl
  · exact enters_of Tryz.func261 (by kernel_rfl) rfl
def partCells (i:Nat):List Value := [.int .i64 (pat i:Int),.int .i64 (pwd i:Int),.func (.func (fw i)) #[] #[],.func (.func (fr i)) #[] #[]]
def tabCells:Array Value:=(partCells 0++partCells 1++partCells 2++partCells 3++partCells 4).toArray
theorem tab_at:∀ i:Nat,i<5→∀ j:Nat,j<4→tabCells[i*4+j]? = (partCells i)[j]?:=by
  intro i hi j hj
  rcases(show i=0∨i=1∨i=2∨i=3∨i=4 by omega) with rfl | rfl | rfl | rfl | rfl<;>rcases(show j=0∨j=1∨j=2∨j=3 by omega) with rfl | rfl | rfl | rfl<;>rfl
theorem tab_four (i:Nat) (hi:i<5):tabCells[i*4]? = some (.int .i64 (pat i:Int))∧tabCells[i*4+1]? = some (.int .i64 (pwd i:Int))∧tabCells[i*4+2]? = some (.func (.func (fw i)) #[] #[])∧tabCells[i*4+3]? = some (.func (.func (fr i)) #[] #[]) :=
  ⟨tab_at i hi 0 (by omega),tab_at i hi 1 (by omega),tab_at i hi 2 (by omega),tab_at i hi 3 (by omega)⟩
theorem Fr.undrew {N:Nat} {S:Nat→Prop} {a w:World} (h:Fr N S a.drew w):Fr N S a w:=⟨h.os,h.tape,h.output,h.size,h.block⟩
def S5 (w:World) (o:Nat) (d:Hd):World :=
  ((((w.setCell ⟨o,0,none⟩ (.int .i64 d.c)).setCell ⟨o,1,none⟩ (.int .i64 d.l)).setCell ⟨o,2,none⟩ (.int .u32 d.f)).setCell ⟨o,3,none⟩ (.int .i64 d.x)).setCell ⟨o,4,none⟩ (.int .i64 d.p)
theorem s5_block {w:World} {o:Nat} {d0:Hd} {T:TypeId} (h:w.heap[o]? = some (.cells d0.cells T (0,0))) (d:Hd):(S5 w o d).heap[o]? = some (.cells d.cells T (0,0)):=by
  unfold S5
  have h1:=Arn.heap_setCell_own (o:=0) h (.int .i64 d.c)
  have h2:=Arn.heap_setCell_own (o:=1) h1 (.int .i64 d.l)
  have h3:=Arn.heap_setCell_own (o:=2) h2 (.int .u32 d.f)
  have h4:=Arn.heap_setCell_own (o:=3) h3 (.int .i64 d.x)
  have h5:=Arn.heap_setCell_own (o:=4) h4 (.int .i64 d.p)
  refine h5.trans ?_
  simp[Hd.cells]
theorem s5_fr {N:Nat} {S:Nat→Prop} {a w:World} {o:Nat} (h:Fr N S a w) (ho:N≤o∨S o) (d:Hd):Fr N S a (S5 w o d):=by
  unfold S5
  exact((((h.setCell (p:=⟨o,0,none⟩) ho _).setCell (p:=⟨o,1,none⟩) ho _).setCell (p:=⟨o,2,none⟩) ho _).setCell (p:=⟨o,3,none⟩) ho _).setCell (p:=⟨o,4,none⟩) ho _
theorem Hd.five {w:World} {B:Nat} {d:Hd} {T:TypeId} (h:w.heap[B]? = some (.cells d.cells T (0,0))) :
    w.cell? ⟨B,0,none⟩=some (.int .i64 d.c)∧w.cell? ⟨B,1,none⟩=some (.int .i64 d.l)∧w.cell? ⟨B,2,none⟩=some (.int .u32 d.f)∧w.cell? ⟨B,3,none⟩=some (.int .i64 d.x)∧w.cell? ⟨B,4,none⟩=some (.int .i64 d.p) :=
  ⟨(cell_block h 0).trans rfl,(cell_block h 1).trans rfl,(cell_block h 2).trans rfl,(cell_block h 3).trans rfl,(cell_block h 4).trans rfl⟩
theorem wpList_build_is {P:Program} {ops:Array Oper} {rest:List Oper} {o:Oper} {a:Act} {w:World} {Q:Exit→Act→World→Prop} (cells:Array Value) (hg:o.guard=none) (t:TypeId) (parts:Array (Nat×Operand)) (ho:o.op = .build t parts)
    (hf:P.built t (parts.map fun(i,x)=>(i,a.eval x)).toList=some cells)
    (h:wpList P ops Q rest (a.put o.dst (.agg cells)) w):wpList P ops Q (o::rest) a w :=
  wpList_build hg t parts ho (by rw[hf];rfl) (by rw[hf];exact h)
theorem results_cell_var {P:Program} {fn:Func} {p:Tmp} {ty:TypeId} (h:fn.results = #[.cell p ty]) (tmps:Array Value) (w:World) (b:Nat) (v:Value) (hp:tmps.getD p undef = .pointer (some ⟨b,0,none⟩))
    (hl:(loadVar ty ⟨b,0,none⟩).run P w = .ok v w):(results fn tmps).run P w = .ok v w:=by
  have hp':tmps[p]?.getD undef = .pointer (some ⟨b,0,none⟩):=by simpa using hp
  simp[results,h,hp',asAddr,hl]
theorem infoTab:(Tryz.prog.info? 259).map (·.size)=some 20:=by kernel_rfl
theorem tab_size:tabCells.size=20:=rfl
theorem tab_one:tabCells.all (·.oneCell')=true:=by kernel_rfl
set_option maxRecDepth 100000 in
theorem parts_any (w:World):Calls Tryz.prog 237 #[] w fun e w'=>e = .returned (.agg tabCells)∧Below w.heap.size w w':=by
  have HL:=Lib.hid (run_loadVar_new (P:=Tryz.prog) w 259 tabCells 5 258 (by kernel_rfl) infoTab)
  have hst:=fun(c:Array Value) (hc:c.size=20)=>run_storeCells_new (P:=Tryz.prog) w 259 c tabCells infoTab hc tab_one
  have hts:=tab_size
  go_enter Tryz.func237,Tryz.ntmps237
  go_wp2_with (first | (refine wpList_build_is (partCells 0).toArray rfl _ _ (show _=Op.build 258 #[(0,_),(1,_),(2,.func 253),(3,.func 254)] from rfl) (by kernel_rfl) ?_) | (refine wpList_build_is (partCells 1).toArray rfl _ _ (show _=Op.build 258 #[(0,_),(1,_),(2,.func 255),(3,.func 256)] from rfl) (by kernel_rfl) ?_) | (refine wpList_build_is (partCells 2).toArray rfl _ _ (show _=Op.build 258 #[(0,_),(1,_),(2,.func 257),(3,.func 258)] from rfl) (by kernel_rfl) ?_) | (refine wpList_build_is (partCells 3).toArray rfl _ _ (show _=Op.build 258 #[(0,_),(1,_),(2,.func 259),(3,.func 260)] from rfl) (by kernel_rfl) ?_) | (refine wpList_build_is (partCells 4).toArray rfl _ _ (show _=Op.build 258 #[(0,_),(1,_),(2,.func 261),(3,.func 262)] from rfl) (by kernel_rfl) ?_) | (refine wpList_build_is tabCells rfl _ _ (show _=Op.build 259 _ from rfl) (by kernel_rfl) ?_))
  exact bodyPost_ret (results_cell_var rfl _ _ _ _ rfl HL.out) rfl ⟨rfl,below_made _ _⟩
def hdF (l:List Int) (s:Nat) (ws:List Nat):Hd:=ws.foldl (fun d i=>d.set i (rd l (128+16*s+pat i) (pwd i))) Hd.zero
def wrF (l:List Int) (s:Nat) (d:Hd) (ws:List Nat):List Int:=ws.foldl (fun l i=>stl l (128+16*s+pat i) (pwd i) (d.at i)) l
def numCells (ws:List Nat):Array Value:=(ws.map fun(i:Nat)=>Value.int .i64 (i:Int)).toArray
theorem numCells_at (ws:List Nat) (k:Nat) (hk:k<ws.length):(numCells ws)[k]? = some (.int .i64 ((ws.getD k 0:Nat):Int)):=by
  simp[numCells,hk,List.getD]
theorem take_getD_snoc (ws:List Nat) (k:Nat) (hk:k<ws.length):ws.take (k+1)=ws.take k ++ [ws.getD k 0]:=by
  rw[List.take_succ_eq_append_getElem hk]
  simp[List.getD,hk]
theorem rd4_bd {l:List Int} (hl:Arn.IsBytes l) (a n:Nat) (hn:n≤4):0≤rd l a n∧rd l a n<4294967296:=by
  have h:=Mem.rd_bd hl a n
  refine⟨h.1,Int.lt_of_lt_of_le h.2 ?_⟩
  rcases(show n=0∨n=1∨n=2∨n=3∨n=4 by omega) with rfl | rfl | rfl | rfl | rfl<;>decide
set_option maxRecDepth 100000 in
set_option maxHeartbeats 4000000 in
theorem read_any (h:Hm) (C:Cf) (l:List Int) (s:Nat) (ws:List Nat) (B:Nat) (w:World) (hC:C.Ok) (hs:LM h C l w) (hlt:s<C.s) (hne:ws ≠ []) (hws:∀ k,ws.getD k 0<5) (hlen:ws.length≤100) {T:TypeId} (hB:w.heap[B]? = some (.cells (numCells ws) T (0,0))) :
    Calls Tryz.prog 211 #[.pointer (some ⟨h.g,0,none⟩),.int .i64 (s:Int),.slice (some ⟨B,0,none⟩) ws.length ws.length] w (LR h C l (hdF l s ws).agg w):=by
  have HC0:=Lib.hid (fun W (hb:Below w.heap.size w W)=>(hs.below hb).config)
  have hhd:=(fun W (hb:Below w.heap.size w W)=>(hs.below hb).headAt hC s hlt)
  have HP:=Lib.hid parts_any
  obtain⟨a0,ha0⟩:∃ a0,a0=128+16*s:=⟨_,rfl⟩
  rw[←ha0] at hhd
  have HH:=Lib.hid hhd
  have HA:=Lib.hid ha0
  clear hhd ha0
  have hB0:=hs.notInt ((cell_block hB 0).trans (by rw[numCells_at ws 0 (List.length_pos_iff.2 hne)]))
  have hBlt:B<w.heap.size:=(Array.getElem?_eq_some_iff.1 hB).1
  have hlo:=hC.lo
  have hhi:=hC.hi
  go_enter Tryz.func211,Tryz.ntmps211
  go_wp2_with fail
  obtain⟨W0,hW0⟩:∃ W0,(w.alloc (.cells #[.int .i64 0,.int .i64 0,.int .u32 0,.int .i64 0,.int .i64 0] 160)).alloc (.cells #[.int .i64 0,.int .i64 0,.int .u32 0,.int .i64 0,.int .i64 0] 160)=W0:=⟨_,rfl⟩
  have hb0:Below w.heap.size w W0:=by rw[←hW0];exact((Below.refl _ w).alloc (Nat.le_refl _) _).alloc (by simp) _
  have hz0:W0.heap.size=w.heap.size+2:=by rw[←hW0];simp
  have ha0:W0.heap[w.heap.size]? = some (.cells Hd.zero.cells 160 (0,0)):=by rw[←hW0];exact(Below.heap_alloc _ _ _ (by simp)).trans (heap_alloc_new w _)
  have ha1:W0.heap[w.heap.size+1]? = some (.cells Hd.zero.cells 160 (0,0)):=by
    rw[←hW0]
    have:=heap_alloc_new (w.alloc (.cells #[.int .i64 0,.int .i64 0,.int .u32 0,.int .i64 0,.int .i64 0] 160)) (.cells #[.int .i64 0,.int .i64 0,.int .u32 0,.int .i64 0,.int .i64 0] 160)
    rw[World.size_alloc] at this
    exact this
  rw[hW0]
  clear hW0
  refine(HC0.out _ hb0).mono ?_
  rintro e w1 ⟨rfl,hb1⟩
  have hb01:=hb0.trans (hb1.mono hb0.size)
  go_wp2_with fail
  refine(HH.out _ hb01).mono ?_
  rintro e w2 ⟨rfl,hb2⟩
  have hb02:=hb01.trans (hb2.mono hb01.size)
  have hs1:=hb1.size
  have hs2:=hb2.size
  go_wp2_with fail
  refine(HP.out _).mono ?_
  rintro e w3 ⟨rfl,hb3⟩
  have hs3:=hb3.size
  have HB3:=Lib.hid (hb02.trans (hb3.mono hb02.size))
  have ha03:=(hb3.block _ (by omega)).trans ((hb2.block _ (by omega)).trans ((hb1.block _ (by omega)).trans ha0))
  have ha13:=(hb3.block _ (by omega)).trans ((hb2.block _ (by omega)).trans ((hb1.block _ (by omega)).trans ha1))
  clear hb1 hb2 hb01 hb02 hb3 ha0 ha1 HC0 HH HP hb0
  have HA0:=Lib.hid ha03
  have HA1:=Lib.hid ha13
  have hst:=fun(c:Array Value) (hc:c.size=20)=>run_storeCells_new (P:=Tryz.prog) w3 259 c tabCells infoTab hc tab_one
  obtain⟨TC,hTC⟩:∃ TC,TC=tabCells:=⟨_,rfl⟩
  rw[←hTC] at hst ⊢
  have hts:TC.size=20:=by rw[hTC];rfl
  have HTC:=Lib.hid hTC
  clear hTC
  go_wp2_with fail
  have hW4:=Lib.hid (heap_alloc_new w3 (.cells TC 259))
  have hb4:=HB3.out.alloc (by have:=HB3.out.size;omega) (.cells TC 259)
  have hz4:(w3.alloc (.cells TC 259)).heap.size=w3.heap.size+1:=by simp
  have hm4:=Lib.hid (hs.below hb4)
  have HM:=Lib.hid hs.lt
  have hB4:=(hb4.block B hBlt).trans hB
  have HB4:=Lib.hid hB4
  have hA4:=(Below.heap_alloc w3 (.cells TC 259) (w.heap.size+1) (by omega)).trans HA1.out
  have hA5:=(Below.heap_alloc w3 (.cells TC 259) w.heap.size (by omega)).trans HA0.out
  have hS:=hs
  have HA4:=Lib.hid hA4
  have HA5:=Lib.hid hA5
  have HB5:=Lib.hid hb4
  clear hA4 hA5 hB4 hb4 HA0 HA1 hB hs hst
  generalize w3.alloc (.cells TC 259)=W4 at hW4 hz4 hm4 HB4 HA4 HA5 HB5 ⊢
  go_loopw [20] (fun i wr=>∃ k:Nat,k≤ws.length∧i = .int .i64 k∧Hid (LM h C l wr)∧Hid (wr.heap[w.heap.size+1]? = some (.cells (hdF l s (ws.take k)).cells 160 (0,0)))∧Hid (Fr W4.heap.size (fun j=>blkM h j∨j=w.heap.size+1) W4 wr)) (fun i _=>ws.length-(intOf i).toNat)
  case atStart=>exact⟨0,Nat.zero_le _,rfl,hm4.out,HA4.out,Fr.refl _ _ _⟩
  case round =>
    obtain⟨k,hk,rfl,HL,HD,HF⟩:=hrel
    by_cases hlt:k<ws.length
    · have hlt1:(k:Int)<(ws.length:Int):=by omega
      have hlt0:(0:Int)≤(k:Int):=by omega
      have h5:=hws k
      have hsn:=take_getD_snoc ws k hlt
      have hcB:=(HF.out.cell ((cell_block HB4.out k).trans (numCells_at ws k hlt)) (by omega) (by rintro (q | q);exact hB0 q;omega))
      have htf:=tab_four (ws.getD k 0) h5
      rw[←HTC.out] at htf
      obtain⟨t0,t1,t2,t3⟩:=htf
      have hnT:¬ (blkM h w3.heap.size∨w3.heap.size=w.heap.size+1):=by
        rintro (q | q)
        · have:=HM.out _ q
          omega
        · omega
      have p0:=HF.out.cell ((cell_block hW4.out _).trans t0) (by omega) hnT
      have p1:=HF.out.cell ((cell_block hW4.out _).trans t1) (by omega) hnT
      have p2:=HF.out.cell ((cell_block hW4.out _).trans t2) (by omega) hnT
      have p3:=HF.out.cell ((cell_block hW4.out _).trans t3) (by omega) hnT
      obtain⟨i,hi⟩:∃ i,i=ws.getD k 0:=⟨_,rfl⟩
      rw[←hi] at h5 hsn hcB p0 p1 p2 p3
      obtain⟨b1,b2,b3,b4⟩:=part_bd h5
      have hlk:=hC.headLook s (pat i) (pwd i) (by omega) b1 b2 b3
      have hbd:=rd4_bd hS.bytes (128+16*s+pat i) (pwd i) b4
      have hll:=fun V (hv:LM h C l V)=>hv.load (128+16*s+pat i) (pwd i) 3 hlk (by omega)
      have hrf:=fun V (hv:V.heap[w.heap.size+1]? = some (.cells (hdF l s (ws.take k)).cells 160 (0,0)))=>readfn_any i h5 _ _ _ V hv hbd.1 hbd.2
      have hnx:hdF l s (ws.take (k+1))=(hdF l s (ws.take k)).set i (rd l (128+16*s+pat i) (pwd i)):=by rw[hsn];simp[hdF,List.foldl_append]
      obtain⟨A,hA⟩:∃ A,A=128+16*s+pat i:=⟨_,rfl⟩
      rw[←hA] at hll hrf hnx
      have hsum:IntKind.i64.wrap ((a0:Int)+(pat i:Int))=(A:Int):=(Arn.wrap_id (by have:=HA.out;omega) (by have:=HA.out;omega)).trans (by have:=HA.out;omega)
      obtain⟨v,hv⟩:∃ v,v=rd l A (pwd i):=⟨_,rfl⟩
      rw[←hv] at hll hrf hnx
      have HLL:=Lib.hid hll
      have HRF:=Lib.hid hrf
      have HNX:=Lib.hid hnx
      have h5i:(i:Int)<5:=by omega
      have h5j:(0:Int)≤(i:Int):=by omega
      have hen:=enters_fr i h5
      generalize pat i=px at p0 hsum
      generalize pwd i=py at p1 HLL
      generalize fw i=ff at p2
      generalize fr i=fg at p3 HRF hen
      clear hll hrf hnx hi t0 t1 t2 t3 hsn b1 b2 b3 b4 hlk hbd hA hv hnT
      have hal:=below_made wr (.cells #[.int .i64 (px:Int),.int .i64 (py:Int),.func (.func ff) #[] #[],.func (.func fg) #[] #[]] 258)
      have hwz:=HF.out.size
      have hm5:=HL.out.below hal
      have hd5:=(hal.block (w.heap.size+1) (by omega)).trans HD.out
      have hf5:=HF.out.below hal (by omega)
      have hnB:=heap_alloc_new wr (.cells #[.int .i64 (px:Int),.int .i64 (py:Int),.func (.func ff) #[] #[],.func (.func fg) #[] #[]] 258)
      have g0:(wr.alloc (.cells #[.int .i64 (px:Int),.int .i64 (py:Int),.func (.func ff) #[] #[],.func (.func fg) #[] #[]] 258)).cell? ⟨wr.heap.size,0,none⟩=some (.int .i64 (px:Int)):=(cell_block hnB 0).trans rfl
      have g1:(wr.alloc (.cells #[.int .i64 (px:Int),.int .i64 (py:Int),.func (.func ff) #[] #[],.func (.func fg) #[] #[]] 258)).cell? ⟨wr.heap.size,1,none⟩=some (.int .i64 (py:Int)):=(cell_block hnB 1).trans rfl
      have g3:(wr.alloc (.cells #[.int .i64 (px:Int),.int .i64 (py:Int),.func (.func ff) #[] #[],.func (.func fg) #[] #[]] 258)).cell? ⟨wr.heap.size,3,none⟩=some (.func (.func fg) #[] #[]):=(cell_block hnB 3).trans rfl
      have hz5:(wr.alloc (.cells #[.int .i64 (px:Int),.int .i64 (py:Int),.func (.func ff) #[] #[],.func (.func fg) #[] #[]] 258)).heap.size=wr.heap.size+1:=by simp
      have hnw:¬ blkM h wr.heap.size:=fun q=>by have:=HM.out _ q;omega
      have hn1:¬ blkM h (w.heap.size+1):=fun q=>by have:=HM.out _ q;omega
      clear hal hnB
      go_wp2_with fail
      generalize wr.alloc (.cells #[.int .i64 (px:Int),.int .i64 (py:Int),.func (.func ff) #[] #[],.func (.func fg) #[] #[]] 258)=W5 at hm5 hd5 hf5 g0 g1 g3 hz5 ⊢
      go_region_held3 (fun w'=>w'.cell? ⟨wr.heap.size,0,none⟩=some (.int .i64 (px:Int))∧w'.cell? ⟨wr.heap.size,1,none⟩=some (.int .i64 (py:Int))∧w'.cell? ⟨wr.heap.size,3,none⟩=some (.func (.func fg) #[] #[])) (first | exact⟨g0,g1,g3⟩ | go_keep) ((first | (go_at_call 128;refine(HLL.out _ (by first | exact hm5 | exact hm5.drew)).mono ?_;rintro e w6 ⟨rfl,hm6,hf6⟩;replace g0:=hf6.cell g0 (show wr.heap.size<W5.heap.size by omega) hnw;replace g1:=hf6.cell g1 (show wr.heap.size<W5.heap.size by omega) hnw;replace g3:=hf6.cell g3 (show wr.heap.size<W5.heap.size by omega) hnw) | (refine(HRF.out _ ((hf6.block (w.heap.size+1) (show w.heap.size+1<W5.heap.size by omega) hn1).trans hd5)).mono ?_;rintro e w7 ⟨rfl,hd7,hf7⟩;replace g0:=hf7.cell g0 (show wr.heap.size<w6.heap.size by have:=hf6.size;show wr.heap.size<w6.heap.size;have h6:W5.heap.size≤w6.heap.size:=this;omega) (by omega);replace g1:=hf7.cell g1 (show wr.heap.size<w6.heap.size by have h6:W5.heap.size≤w6.heap.size:=hf6.size;omega) (by omega);replace g3:=hf7.cell g3 (show wr.heap.size<w6.heap.size by have h6:W5.heap.size≤w6.heap.size:=hf6.size;omega) (by omega))))
      have h6:W5.heap.size≤w6.heap.size:=hf6.size
      have HF7:Hid (Fr W4.heap.size (fun j=>blkM h j∨j=w.heap.size+1) W4 w7):=(hf5.trans ((show Fr W5.heap.size (blkM h) W5 w6 from Fr.undrew hf6).mono (by have:=hf5.size;omega) (fun j _ q=>.inl q))).trans (hf7.mono (by have:=hf5.size;omega) (fun j _ q=>.inr q))
      have HL7:Hid (LM h C l w7):=hS.stayN hm6 hf7 (fun j hj=>by omega)
      rw[←HNX.out] at hd7
      have HD7:=Lib.hid hd7
      clear hm5 hm6 hd5 hd7 hf5 hf6 hf7 g0 g1 g3 HL HD HF
      go_wp2
      go_roundw
      case rel=>exact⟨k+1,by omega,by go_num,HL7.out,HD7.out,HF7.out⟩
      case measure=>simp[intOf];omega
    · obtain rfl:k=ws.length:=by omega
      have hd0:=HD.out
      rw[List.take_length] at hd0
      have ha5:wr.heap[w.heap.size]? = some (.cells Hd.zero.cells 160 (0,0)):=(HF.out.block w.heap.size (by omega) (by rintro (q | q);have:=HM.out _ q;omega;omega)).trans HA5.out
      obtain⟨d,hd⟩:∃ d,d=hdF l s ws:=⟨_,rfl⟩
      have HDq:=Lib.hid hd
      rw[←hd] at hd0
      obtain⟨q0,q1,q2,q3,q4⟩:=Hd.five hd0
      obtain⟨z0,z1,z2,z3,z4⟩:=Hd.five ha5
      have f0:=Wat.frozen_block ha5 0
      have f1:=Wat.frozen_block ha5 1
      have f2:=Wat.frozen_block ha5 2
      have f3:=Wat.frozen_block ha5 3
      have f4:=Wat.frozen_block ha5 4
      have HD5:=Lib.hid (s5_block ha5 d)
      have hf5:Fr wr.heap.size (fun j=>j=w.heap.size) wr (S5 wr w.heap.size d):=s5_fr (S:=fun j=>j=w.heap.size) (Fr.refl _ _ _) (.inr rfl) d
      have HE:Hid (LM h C l (S5 wr w.heap.size d)∧Fr w.heap.size (blkM h) w (S5 wr w.heap.size d)) :=
        ⟨hS.stayN HL.out hf5 (fun j hj=>by omega),((Fr.of_below HB5.out).trans (HF.out.mono (by omega) (fun j hj q=>by rcases q with q | q;exact q;omega))).trans (hf5.mono (by have:=HF.out.size;omega) (fun j hj q=>by omega))⟩
      clear hd hd0 ha5 hf5
      go_wp2
      show bodyPost _ _ _ _ _ (S5 wr w.heap.size d)
      obtain⟨y0,y1,y2,y3,y4⟩:=Hd.five HD5.out
      have he:=HE.out
      clear HD5
      generalize S5 wr w.heap.size d=W9 at he y0 y1 y2 y3 y4 ⊢
      refine bodyPost_ret (v:=d.agg) ?_ rfl ⟨by rw[HDq.out],he⟩
      simp[results,Tryz.results211,go_sem,y0,y1,y2,y3,y4,Hd.agg,Hd.cells]
end Go.Proofs.YtmgeiaglandedaaGreatDoor.Lis

namespace Go.Proofs.YtmgeiaglandedaaGreatDoor.Lis
open Go.RowKit Num
open Mem (Mm MemC MRet Hm rd blkM)
set_option linter.unusedVariables false
structure Hd.Ok (d:Hd):Prop where
  c:0≤d.c∧d.c<65536
  l:0≤d.l∧d.l<65536
  f:0≤d.f∧d.f<4294967296
  x:0≤d.x∧d.x<4294967296
  p:0≤d.p∧d.p<4294967296
theorem Hd.Ok.at {d:Hd} (h:d.Ok) (i:Nat) (hi:i<5):0≤d.at i∧d.at i<4294967296∧fits (d.at i) (pwd i:Int)=true:=by
  obtain⟨h0,h1,h2,h3,h4⟩:=h
  rcases(show i=0∨i=1∨i=2∨i=3∨i=4 by omega) with rfl | rfl | rfl | rfl | rfl<;>simp only[Hd.at,pwd]<;>refine⟨by omega,by omega,?_⟩<;>simp[fits,isW]<;>omega
set_option maxRecDepth 100000 in
set_option maxHeartbeats 4000000 in
theorem write_any (h:Hm) (C:Cf) (l:List Int) (s:Nat) (d:Hd) (ws:List Nat) (B:Nat) (w:World) (hC:C.Ok) (hs:LM h C l w) (hlt:s<C.s) (hd:d.Ok) (hne:ws ≠ []) (hws:∀ k,ws.getD k 0<5) (hlen:ws.length≤100) {T:TypeId} (hB:w.heap[B]? = some (.cells (numCells ws) T (0,0))) :
    Calls Tryz.prog 188 #[.pointer (some ⟨h.g,0,none⟩),.int .i64 (s:Int),d.agg,.slice (some ⟨B,0,none⟩) ws.length ws.length] w (LR h C (wrF l s d ws) (.tuple #[]) w):=by
  have HC0:=Lib.hid (fun W (hb:Below w.heap.size w W)=>(hs.below hb).config)
  have hhd:=(fun W (hb:Below w.heap.size w W)=>(hs.below hb).headAt hC s hlt)
  have HP:=Lib.hid parts_any
  obtain⟨a0,ha0⟩:∃ a0,a0=128+16*s:=⟨_,rfl⟩
  rw[←ha0] at hhd
  have HH:=Lib.hid hhd
  have HA:=Lib.hid ha0
  clear hhd ha0
  have hB0:=hs.notInt ((cell_block hB 0).trans (by rw[numCells_at ws 0 (List.length_pos_iff.2 hne)]))
  have hBlt:B<w.heap.size:=(Array.getElem?_eq_some_iff.1 hB).1
  have hlo:=hC.lo
  have hhi:=hC.hi
  unfold Hd.agg Hd.cells
  go_enter Tryz.func188,Tryz.ntmps188
  go_wp2_with fail
  have hb0:=below_made w (.cells #[.int .i64 d.c,.int .i64 d.l,.int .u32 d.f,.int .i64 d.x,.int .i64 d.p] 160)
  have hz0:(w.alloc (.cells #[.int .i64 d.c,.int .i64 d.l,.int .u32 d.f,.int .i64 d.x,.int .i64 d.p] 160)).heap.size=w.heap.size+1:=by simp
  have ha0:(w.alloc (.cells #[.int .i64 d.c,.int .i64 d.l,.int .u32 d.f,.int .i64 d.x,.int .i64 d.p] 160)).heap[w.heap.size]? = some (.cells d.cells 160 (0,0)):=heap_alloc_new w _
  generalize w.alloc (.cells #[.int .i64 d.c,.int .i64 d.l,.int .u32 d.f,.int .i64 d.x,.int .i64 d.p] 160)=W0 at hb0 hz0 ha0 ⊢
  refine(HC0.out _ hb0).mono ?_
  rintro e w1 ⟨rfl,hb1⟩
  have hb01:=hb0.trans (hb1.mono hb0.size)
  go_wp2_with fail
  refine(HH.out _ hb01).mono ?_
  rintro e w2 ⟨rfl,hb2⟩
  have hb02:=hb01.trans (hb2.mono hb01.size)
  have hs1:=hb1.size
  have hs2:=hb2.size
  go_wp2_with fail
  refine(HP.out _).mono ?_
  rintro e w3 ⟨rfl,hb3⟩
  have hs3:=hb3.size
  have HB3:=Lib.hid (hb02.trans (hb3.mono hb02.size))
  have ha03:=(hb3.block _ (by omega)).trans ((hb2.block _ (by omega)).trans ((hb1.block _ (by omega)).trans ha0))
  clear hb1 hb2 hb01 hb02 hb3 ha0 HC0 HH HP hb0
  have HA0:=Lib.hid ha03
  have hst:=fun(c:Array Value) (hc:c.size=20)=>run_storeCells_new (P:=Tryz.prog) w3 259 c tabCells infoTab hc tab_one
  obtain⟨TC,hTC⟩:∃ TC,TC=tabCells:=⟨_,rfl⟩
  rw[←hTC] at hst ⊢
  have hts:TC.size=20:=by rw[hTC];rfl
  have HTC:=Lib.hid hTC
  clear hTC
  go_wp2_with fail
  have hW4:=Lib.hid (heap_alloc_new w3 (.cells TC 259))
  have hb4:=HB3.out.alloc (by have:=HB3.out.size;omega) (.cells TC 259)
  have hz4:(w3.alloc (.cells TC 259)).heap.size=w3.heap.size+1:=by simp
  have hm4:=Lib.hid (hs.below hb4)
  have HM:=Lib.hid hs.lt
  have HB4:=Lib.hid ((hb4.block B hBlt).trans hB)
  have HA5:=Lib.hid ((Below.heap_alloc w3 (.cells TC 259) w.heap.size (by omega)).trans HA0.out)
  have HB5:=Lib.hid hb4
  clear hb4 HA0 hB hst
  generalize w3.alloc (.cells TC 259)=W4 at hW4 hz4 hm4 HB4 HA5 HB5 ⊢
  go_loopw [20] (fun i wr=>∃ k:Nat,k≤ws.length∧i = .int .i64 k∧Hid (LM h C (wrF l s d (ws.take k)) wr)∧Hid (Fr W4.heap.size (blkM h) W4 wr)) (fun i _=>ws.length-(intOf i).toNat)
  case atStart=>exact⟨0,Nat.zero_le _,rfl,hm4.out,Fr.refl _ _ _⟩
  case round =>
    obtain⟨k,hk,rfl,HL,HF⟩:=hrel
    by_cases hlt:k<ws.length
    · have hlt1:(k:Int)<(ws.length:Int):=by omega
      have hlt0:(0:Int)≤(k:Int):=by omega
      have h5:=hws k
      have hsn:=take_getD_snoc ws k hlt
      have hcB:=(HF.out.cell ((cell_block HB4.out k).trans (numCells_at ws k hlt)) (by omega) hB0)
      have htf:=tab_four (ws.getD k 0) h5
      rw[←HTC.out] at htf
      obtain⟨t0,t1,t2,t3⟩:=htf
      have hnT:¬ blkM h w3.heap.size:=fun q=>by
        have:=HM.out _ q
        omega
      have p0:=HF.out.cell ((cell_block hW4.out _).trans t0) (by omega) hnT
      have p1:=HF.out.cell ((cell_block hW4.out _).trans t1) (by omega) hnT
      have p2:=HF.out.cell ((cell_block hW4.out _).trans t2) (by omega) hnT
      have p3:=HF.out.cell ((cell_block hW4.out _).trans t3) (by omega) hnT
      obtain⟨i,hi⟩:∃ i,i=ws.getD k 0:=⟨_,rfl⟩
      rw[←hi] at h5 hsn hcB p0 p1 p2 p3
      obtain⟨b1,b2,b3,b4⟩:=part_bd h5
      have hlk:=hC.headLook s (pat i) (pwd i) (by omega) b1 b2 b3
      obtain⟨v0,v1,v2⟩:=hd.at i h5
      have hll:=fun V (hv:LM h C (wrF l s d (ws.take k)) V)=>hv.store (128+16*s+pat i) (pwd i) 3 (d.at i) hlk (by omega) v0 v2 (by omega)
      have hrf:=fun V=>written_any i h5 d V v0 v1
      have hnx:wrF l s d (ws.take (k+1))=stl (wrF l s d (ws.take k)) (128+16*s+pat i) (pwd i) (d.at i):=by rw[hsn];simp[wrF,List.foldl_append]
      obtain⟨A,hA⟩:∃ A,A=128+16*s+pat i:=⟨_,rfl⟩
      rw[←hA] at hll hnx
      have hsum:IntKind.i64.wrap ((a0:Int)+(pat i:Int))=(A:Int):=(Arn.wrap_id (by have:=HA.out;omega) (by have:=HA.out;omega)).trans (by have:=HA.out;omega)
      obtain⟨v,hv⟩:∃ v,v=d.at i:=⟨_,rfl⟩
      rw[←hv] at hll hrf hnx
      unfold Hd.agg Hd.cells at hrf
      have HLL:=Lib.hid hll
      have HRF:=Lib.hid hrf
      have HNX:=Lib.hid hnx
      have h5i:(i:Int)<5:=by omega
      have h5j:(0:Int)≤(i:Int):=by omega
      have hen:=enters_fw i h5
      generalize pat i=px at p0 hsum
      generalize pwd i=py at p1 HLL HNX
      generalize fw i=ff at p2 HRF hen
      generalize fr i=fg at p3
      have hnH:¬ blkM h w.heap.size:=fun q=>by
        have:=HM.out _ q
        omega
      clear hll hrf hnx hi t0 t1 t2 t3 hsn b1 b2 b3 b4 hlk hA hv hnT v0 v1 v2
      have hal:=below_made wr (.cells #[.int .i64 (px:Int),.int .i64 (py:Int),.func (.func ff) #[] #[],.func (.func fg) #[] #[]] 258)
      have hwz:=HF.out.size
      have hm5:=HL.out.below hal
      have hf5:=HF.out.below hal (by omega)
      have hnB:=heap_alloc_new wr (.cells #[.int .i64 (px:Int),.int .i64 (py:Int),.func (.func ff) #[] #[],.func (.func fg) #[] #[]] 258)
      have g0:(wr.alloc (.cells #[.int .i64 (px:Int),.int .i64 (py:Int),.func (.func ff) #[] #[],.func (.func fg) #[] #[]] 258)).cell? ⟨wr.heap.size,0,none⟩=some (.int .i64 (px:Int)):=(cell_block hnB 0).trans rfl
      have g1:(wr.alloc (.cells #[.int .i64 (px:Int),.int .i64 (py:Int),.func (.func ff) #[] #[],.func (.func fg) #[] #[]] 258)).cell? ⟨wr.heap.size,1,none⟩=some (.int .i64 (py:Int)):=(cell_block hnB 1).trans rfl
      have g2:(wr.alloc (.cells #[.int .i64 (px:Int),.int .i64 (py:Int),.func (.func ff) #[] #[],.func (.func fg) #[] #[]] 258)).cell? ⟨wr.heap.size,2,none⟩=some (.func (.func ff) #[] #[]):=(cell_block hnB 2).trans rfl
      have hx5:=(hal.block w.heap.size (by omega)).trans ((HF.out.block w.heap.size (by omega) hnH).trans HA5.out)
      obtain⟨x0,x1,x2,x3,x4⟩:=Hd.five hx5
      have hz5:(wr.alloc (.cells #[.int .i64 (px:Int),.int .i64 (py:Int),.func (.func ff) #[] #[],.func (.func fg) #[] #[]] 258)).heap.size=wr.heap.size+1:=by simp
      have hnw:¬ blkM h wr.heap.size:=fun q=>by have:=HM.out _ q;omega
      clear hal hnB hx5
      go_wp2_with fail
      generalize wr.alloc (.cells #[.int .i64 (px:Int),.int .i64 (py:Int),.func (.func ff) #[] #[],.func (.func fg) #[] #[]] 258)=W5 at hm5 hf5 g0 g1 g2 x0 x1 x2 x3 x4 hz5 ⊢
      have HK:Hid (∀ V,Below W5.heap.size W5 V→∀ b o u,W5.cell? ⟨b,o,none⟩=some u→b≤wr.heap.size→V.cell? ⟨b,o,none⟩=some u):=fun V hv b o u hc hb=>(hv.cell (p:=⟨b,o,none⟩) (show b<W5.heap.size by omega)).trans hc
      have hw0:w.heap.size≤wr.heap.size:=by omega
      go_region_held3 (fun w'=>w'.cell? ⟨wr.heap.size,0,none⟩=some (.int .i64 (px:Int))∧w'.cell? ⟨wr.heap.size,1,none⟩=some (.int .i64 (py:Int))∧w'.cell? ⟨wr.heap.size,2,none⟩=some (.func (.func ff) #[] #[])∧w'.cell? ⟨w.heap.size,0,none⟩=some (.int .i64 d.c)∧w'.cell? ⟨w.heap.size,1,none⟩=some (.int .i64 d.l)∧w'.cell? ⟨w.heap.size,2,none⟩=some (.int .u32 d.f)∧w'.cell? ⟨w.heap.size,3,none⟩=some (.int .i64 d.x)∧w'.cell? ⟨w.heap.size,4,none⟩=some (.int .i64 d.p)) (first | exact⟨g0,g1,g2,x0,x1,x2,x3,x4⟩ | go_keep) ((first | (go_at_call 166;refine(HLL.out _ (hm5.below hb6)).mono ?_;rintro e w7 ⟨rfl,hm7,hf7⟩;replace g0:=hf7.cell g0 (show wr.heap.size<w6.heap.size by omega) hnw;replace g1:=hf7.cell g1 (show wr.heap.size<w6.heap.size by omega) hnw;replace g2:=hf7.cell g2 (show wr.heap.size<w6.heap.size by omega) hnw;replace x0:=hf7.cell x0 (show w.heap.size<w6.heap.size by omega) hnH;replace x1:=hf7.cell x1 (show w.heap.size<w6.heap.size by omega) hnH;replace x2:=hf7.cell x2 (show w.heap.size<w6.heap.size by omega) hnH;replace x3:=hf7.cell x3 (show w.heap.size<w6.heap.size by omega) hnH;replace x4:=hf7.cell x4 (show w.heap.size<w6.heap.size by omega) hnH) | (refine(HRF.out _).mono ?_;rintro e w6 ⟨rfl,hb60⟩;have hb6:=(Below.refl W5.heap.size W5).drew.trans hb60;have h6:W5.heap.size≤w6.heap.size:=hb6.size;replace g0:=HK.out _ hb6 _ _ _ g0 (by omega);replace g1:=HK.out _ hb6 _ _ _ g1 (by omega);replace g2:=HK.out _ hb6 _ _ _ g2 (by omega);replace x0:=HK.out _ hb6 _ _ _ x0 hw0;replace x1:=HK.out _ hb6 _ _ _ x1 hw0;replace x2:=HK.out _ hb6 _ _ _ x2 hw0;replace x3:=HK.out _ hb6 _ _ _ x3 hw0;replace x4:=HK.out _ hb6 _ _ _ x4 hw0)))
      have HF7:Hid (Fr W4.heap.size (blkM h) W4 w7):=(hf5.below hb6 (by have:=hf5.size;omega)).trans (hf7.mono (by have:=hf5.size;omega) (fun j _ q=>q))
      rw[←HNX.out] at hm7
      have HL7:=Lib.hid hm7
      clear hm5 hm7 hf5 hf7 g0 g1 g2 x0 x1 x2 x3 x4 HL HF
      go_wp2
      go_roundw
      case rel=>exact⟨k+1,by omega,by go_num,HL7.out,HF7.out⟩
      case measure=>simp[intOf];omega
    · obtain rfl:k=ws.length:=by omega
      have hl:=HL.out
      rw[List.take_length] at hl
      have he:LR h C (wrF l s d ws) (.tuple #[]) w (.returned (.tuple #[])) wr:=⟨rfl,hl,(Fr.of_below HB5.out).trans (HF.out.mono (by have:=HB5.out.size;omega) (fun j _ q=>q))⟩
      have HE:=Lib.hid he
      clear hl he
      go_wp2
      exact bodyPost_end (results_none rfl _ _ _) rfl HE.out
end Go.Proofs.YtmgeiaglandedaaGreatDoor.Lis

namespace Go.Proofs.YtmgeiaglandedaaGreatDoor.Lis
open Go.RowKit Num
open Mem (Mm MemC MRet Hm rd blkM)
set_option linter.unusedVariables false
theorem made_any (h:Hm) (C:Cf) (l:List Int) (w:World) (hC:C.Ok) (hs:LM h C l w):Calls Tryz.prog 186 #[.pointer (some ⟨h.g,0,none⟩)] w fun e w'=>e = .returned (.bool true)∧Below w.heap.size w w':=by
  have HC:=Lib.hid hs.config
  have h7:=hC.lo
  obtain⟨s,hs⟩:∃ s:Int,s=C.s:=⟨_,rfl⟩
  obtain⟨n,hn⟩:∃ n:Int,n=C.n:=⟨_,rfl⟩
  rw[←hs,←hn] at HC
  have h7:7≤s:=by omega
  have hq:∀ W,(Op.equalIn 10000 81 (.agg #[.int .i64 s,.int .i64 n]) (.agg #[.int .i64 0,.int .i64 0])).run Tryz.prog W = .ok false W:=fun W=>by
    rw[show (10000:Nat)=9999+1 from rfl,run_equalIn_struct W 9999 81 _ _ (by kernel_rfl) (by kernel_rfl)]
    go_simp
    intro e
    omega
  clear hs hn h7
  go_enter Tryz.func186,Tryz.ntmps186
  go_wp2_with fail
  refine HC.out.mono ?_
  rintro e w1 ⟨rfl,hb1⟩
  go_wp2
  go_ret
  exact⟨rfl,hb1⟩
theorem field_cfg (a b:Int) (w:World):(Instr.field 81 (.agg #[.int .i64 a,.int .i64 b]) 0).run Tryz.prog w = .ok (.int .i64 a) w:=by kernel_rfl
theorem field_slab (a b c x d:Int) (w:World):(Instr.field 160 (.agg #[.int .i64 a,.int .i64 b,.int .u32 c,.int .i64 x,.int .i64 d]) 3).run Tryz.prog w = .ok (.int .i64 x) w:=by kernel_rfl
def isL (c:Int):Bool:=decide (0≤c) && decide (c<10)
theorem isList_any (c:Int) (w:World):Calls Tryz.prog 240 #[.int .i64 c] w fun e w'=>e = .returned (.bool (isL c))∧w=w':=by
  by_cases h0:0≤c
  · go_enter Tryz.func240,Tryz.ntmps240
    go_wp2
    go_ret
    exact⟨ret_bool (by simp[isL,h0]),rfl⟩
  · go_enter Tryz.func240,Tryz.ntmps240
    go_wp2
    go_ret
    exact⟨ret_bool (by simp[isL];omega),rfl⟩
theorem isL_nat {c:Int} (h:isL c=true):∃ k:Nat,c=k∧k<10:=by
  simp[isL] at h
  exact⟨c.toNat,by omega,by omega⟩
def sb (S:Nat) (v:Int):Int:=if (S:Int)<v then -1 else v-1
set_option maxRecDepth 100000 in
theorem slabOf_any (h:Hm) (C:Cf) (l:List Int) (v:Int) (w:World) (hC:C.Ok) (hs:LM h C l w) (h0:0≤v) (h1:v<4294967296) :
    Calls Tryz.prog 241 #[.pointer (some ⟨h.g,0,none⟩),.int .u64 v] w fun e w'=>e = .returned (.int .i64 (sb C.s v))∧Below w.heap.size w w':=by
  have hfc:=field_cfg
  have HC:=Lib.hid hs.config
  have hhi:=hC.hi
  have u1:IntKind.u64.wrap (C.s:Int)=C.s:=u64_id (by omega) (by omega)
  have u2:IntKind.i64.wrap v=v:=i64_id h0 h1
  have u3:wrap64 v=v:=wrap64_id h0 h1
  have u4:IntKind.i64.wrap (v-1)=v-1:=Arn.wrap_id (by omega) (by omega)
  have u5:wrap64 (v-1)=v-1:=IntWalk.wrap64_in _ (by omega)
  clear hs hC
  by_cases hc:(C.s:Int)<v
  · have hr:sb C.s v = -1:=by rw[sb,if_pos hc]
    rw[hr]
    clear hr
    go_enter Tryz.func241,Tryz.ntmps241
    go_wp2_with fail
    refine HC.out.mono ?_
    rintro e w1 ⟨rfl,hb1⟩
    go_wp2
    go_ret
    exact⟨rfl,hb1⟩
  · have hr:sb C.s v=v-1:=by rw[sb,if_neg hc]
    rw[hr]
    clear hr
    go_enter Tryz.func241,Tryz.ntmps241
    go_wp2_with fail
    refine HC.out.mono ?_
    rintro e w1 ⟨rfl,hb1⟩
    go_wp2
    go_ret
    exact⟨rfl,hb1⟩
def ckS (S:Nat) (s:Int):Int:=if 0≤s∧s<(S:Int) then 0 else 6
def ckB (S:Nat) (c s:Int):Int:=if isL c then ckS S s else 2
set_option maxRecDepth 100000 in
theorem checkSlab_any (h:Hm) (C:Cf) (l:List Int) (s:Int) (w:World) (hC:C.Ok) (hs:LM h C l w) :
    Calls Tryz.prog 210 #[.pointer (some ⟨h.g,0,none⟩),.int .i64 s] w fun e w'=>e = .returned (.int .i64 (ckS C.s s))∧Below w.heap.size w w':=by
  have hfc:=field_cfg
  have HM:=Lib.hid (made_any h C l w hC hs)
  have HC:=Lib.hid (fun V (hb:Below w.heap.size w V)=>(hs.below hb).config)
  clear hs hC
  by_cases h0:s<0
  · have hr:ckS C.s s=6:=by rw[ckS,if_neg (by omega)]
    rw[hr]
    clear hr
    go_enter Tryz.func210,Tryz.ntmps210
    go_wp2_with fail
    refine HM.out.mono ?_
    rintro e w1 ⟨rfl,hb1⟩
    go_wp2
    go_ret
    exact⟨rfl,hb1⟩
  have h0':decide (s<0)=false:=by simpa using h0
  by_cases h1:(C.s:Int)≤s
  · have hr:ckS C.s s=6:=by rw[ckS,if_neg (by omega)]
    rw[hr]
    clear hr
    go_enter Tryz.func210,Tryz.ntmps210
    go_wp2_with fail
    refine HM.out.mono ?_
    rintro e w1 ⟨rfl,hb1⟩
    go_wp2_with fail
    refine(HC.out _ hb1).mono ?_
    rintro e w2 ⟨rfl,hb2⟩
    go_wp2
    go_ret
    exact⟨rfl,hb1.trans (hb2.mono hb1.size)⟩
  · have hr:ckS C.s s=0:=by rw[ckS,if_pos (by omega)]
    rw[hr]
    clear hr
    go_enter Tryz.func210,Tryz.ntmps210
    go_wp2_with fail
    refine HM.out.mono ?_
    rintro e w1 ⟨rfl,hb1⟩
    go_wp2_with fail
    refine(HC.out _ hb1).mono ?_
    rintro e w2 ⟨rfl,hb2⟩
    go_wp2
    go_ret
    exact⟨rfl,hb1.trans (hb2.mono hb1.size)⟩
theorem ckS_not (S:Nat) (s:Int):(ckS S s != 1)=true:=by unfold ckS;split<;>decide
set_option maxRecDepth 100000 in
theorem checkBoth_any (h:Hm) (C:Cf) (l:List Int) (c s:Int) (w:World) (hC:C.Ok) (hs:LM h C l w) :
    Calls Tryz.prog 206 #[.pointer (some ⟨h.g,0,none⟩),.int .i64 c,.int .i64 s] w fun e w'=>e = .returned (.int .i64 (ckB C.s c s))∧Below w.heap.size w w':=by
  have HS:=Lib.hid (checkSlab_any h C l s w hC hs)
  have HL:=Lib.hid (fun V=>isList_any c V)
  have hn:=ckS_not C.s s
  have hb:ckB C.s c s=if isL c then ckS C.s s else 2:=rfl
  rw[hb]
  generalize ckS C.s s=r at HS hn ⊢
  clear hb hs hC
  cases hi:isL c with
  | true =>
    rw[hi] at HL
    simp only[if_true]
    clear hi
    go_enter Tryz.func206,Tryz.ntmps206
    go_wp2_with fail
    refine HS.out.mono ?_
    rintro e w1 ⟨rfl,hb1⟩
    go_wp2_with fail
    refine(HL.out _).mono ?_
    rintro e w2 ⟨rfl,rfl⟩
    go_wp2
    go_ret
    exact⟨rfl,hb1⟩
  | false =>
    rw[hi] at HL
    simp only[Bool.false_eq_true,if_false]
    clear hi
    go_enter Tryz.func206,Tryz.ntmps206
    go_wp2_with fail
    refine HS.out.mono ?_
    rintro e w1 ⟨rfl,hb1⟩
    go_wp2_with fail
    refine(HL.out _).mono ?_
    rintro e w2 ⟨rfl,rfl⟩
    go_wp2
    go_ret
    exact⟨rfl,hb1⟩
def fsC (S:Nat) (l:List Int) (c:Int):Int:=if isL c then sb S (rd l (20+4*c.toNat) 4) else -1
set_option maxRecDepth 100000 in
theorem first_any (h:Hm) (C:Cf) (l:List Int) (c:Int) (w:World) (hC:C.Ok) (hs:LM h C l w) :
    Calls Tryz.prog 200 #[.pointer (some ⟨h.g,0,none⟩),.int .i64 c] w (LR h C l (.int .i64 (fsC C.s l c)) w):=by
  have HL:=Lib.hid (isList_any c w)
  cases hi:isL c with
  | true =>
    obtain⟨k,rfl,hk⟩:=isL_nat hi
    have hr:fsC C.s l k=sb C.s (rd l (20+4*k) 4):=by rw[fsC,if_pos hi,Int.toNat_natCast]
    rw[hi] at HL
    rw[hr]
    obtain⟨b0,b1⟩:=rd4_bd hs.bytes (20+4*k) 4 (by omega)
    have HR:=Lib.hid (hs.root hC k hk)
    have HSb:=Lib.hid (fun V (hv:LM h C l V)=>slabOf_any h C l _ V hC hv b0 b1)
    generalize rd l (20+4*k) 4=v at HR HSb ⊢
    generalize sb C.s v=r at HSb ⊢
    obtain⟨f,hf⟩:∃ f:Int,f=3+(k:Int):=⟨_,rfl⟩
    have w1:IntKind.i64.wrap (3+(k:Int))=f:=(Arn.wrap_id (by omega) (by omega)).trans hf.symm
    have w2:wrap64 (3+(k:Int))=f:=(IntWalk.wrap64_in _ (by omega)).trans hf.symm
    rw[←hf] at HR
    clear hi hr b0 b1 hs hf
    go_enter Tryz.func200,Tryz.ntmps200
    go_wp2_with fail
    refine HL.out.mono ?_
    rintro e w' ⟨rfl,rfl⟩
    go_wp2_with fail
    refine HR.out.mono ?_
    rintro e w1 ⟨rfl,hm1,hf1⟩
    go_wp2_with fail
    refine(HSb.out _ hm1).mono ?_
    rintro e w2 ⟨rfl,hb2⟩
    have HE:=Lib.hid (LR.then (e:=.returned (.int .u64 v)) (r:=.int .u64 v) ⟨rfl,hm1,hf1⟩ (hm1.only hb2 (.int .i64 r)))
    go_wp2
    go_ret
    exact HE.out
  | false =>
    have hr:fsC C.s l c = -1:=by rw[fsC,if_neg (by rw[hi];decide)]
    rw[hi] at HL
    rw[hr]
    have HE:=Lib.hid (hs.only (Below.refl _ _) (.int .i64 (-1)))
    clear hi hr hs
    go_enter Tryz.func200,Tryz.ntmps200
    go_wp2_with fail
    refine HL.out.mono ?_
    rintro e w' ⟨rfl,rfl⟩
    go_wp2
    go_ret
    exact HE.out
def nxC (S:Nat) (l:List Int) (s:Nat):Int:=if sb S (rd l (128+16*s+8) 4)≤(s:Int) then -1 else sb S (rd l (128+16*s+8) 4)
set_option maxRecDepth 100000 in
theorem next_any (h:Hm) (C:Cf) (l:List Int) (s:Nat) (w:World) (hC:C.Ok) (hs:LM h C l w) (hlt:s<C.s) :
    Calls Tryz.prog 208 #[.pointer (some ⟨h.g,0,none⟩),.int .i64 (s:Int)] w (LR h C l (.int .i64 (nxC C.s l s)) w):=by
  have HR:Hid (LM h C l (w.alloc (.cells #[.int .i64 3] 3))→Calls Tryz.prog 211 #[.pointer (some ⟨h.g,0,none⟩),.int .i64 (s:Int),.slice (some ⟨w.heap.size,0,none⟩) 1 1] (w.alloc (.cells #[.int .i64 3] 3)) (LR h C l (.agg #[.int .i64 0,.int .i64 0,.int .u32 0,.int .i64 (rd l (128+16*s+8) 4),.int .i64 0]) (w.alloc (.cells #[.int .i64 3] 3)))) :=
    fun hv=>read_any h C l s [3] w.heap.size _ hC hv hlt (by simp) (fun k=>by rcases k with _ | k<;>simp[List.getD]) (by simp) (T:=3) (heap_alloc_new w _)
  obtain⟨b0,b1⟩:=rd4_bd hs.bytes (128+16*s+8) 4 (by omega)
  have HSb:=Lib.hid (fun V (hv:LM h C l V)=>slabOf_any h C l _ V hC hv b0 b1)
  have hal:=below_made w (.cells #[.int .i64 3] 3)
  have HL:=Lib.hid (hs.below hal)
  have hhi:=hC.hi
  unfold nxC
  generalize rd l (128+16*s+8) 4=v at HR HSb b0 b1 ⊢
  have u2:IntKind.u64.wrap v=v:=u64_id b0 (by omega)
  generalize sb C.s v=r at HSb ⊢
  have hfs:=field_slab
  have HB:=Lib.hid hal
  clear b0 b1 hs hal
  by_cases hc:r≤(s:Int)
  · rw[if_pos hc]
    go_enter Tryz.func208,Tryz.ntmps208
    go_wp2_with fail
    refine(HR.out HL.out).mono ?_
    rintro e w1 ⟨rfl,hm1,hf1⟩
    go_wp2_with fail
    refine(HSb.out _ hm1).mono ?_
    rintro e w2 ⟨rfl,hb2⟩
    have HE:=Lib.hid (LR.of_fr (l:=l) HB.out (LR.then (e:=.returned (.int .u64 v)) (r:=.int .u64 v) ⟨rfl,hm1,hf1⟩ (hm1.only hb2 (.int .i64 (-1)))))
    clear hm1 hf1 hb2
    go_wp2
    go_ret
    exact HE.out
  · rw[if_neg hc]
    go_enter Tryz.func208,Tryz.ntmps208
    go_wp2_with fail
    refine(HR.out HL.out).mono ?_
    rintro e w1 ⟨rfl,hm1,hf1⟩
    go_wp2_with fail
    refine(HSb.out _ hm1).mono ?_
    rintro e w2 ⟨rfl,hb2⟩
    have HE:=Lib.hid (LR.of_fr (l:=l) HB.out (LR.then (e:=.returned (.int .u64 v)) (r:=.int .u64 v) ⟨rfl,hm1,hf1⟩ (hm1.only hb2 (.int .i64 r))))
    clear hm1 hf1 hb2
    go_wp2
    go_ret
    exact HE.out
end Go.Proofs.YtmgeiaglandedaaGreatDoor.Lis

namespace Go.Proofs.YtmgeiaglandedaaGreatDoor.Lis
open Go.RowKit Num
open Mem (Mm MemC MRet Hm rd blkM)
set_option linter.unusedVariables false
theorem write_row (h:Hm) (C:Cf) (l:List Int) (s:Nat) (d:Hd) (ws:List Nat) (w:World) (hC:C.Ok) (hs:LM h C l w) (hlt:s<C.s) (hd:d.Ok) (hne:ws ≠ []) (hws:∀ k,ws.getD k 0<5) (hlen:ws.length≤100) (T:TypeId) :
    Calls Tryz.prog 188 #[.pointer (some ⟨h.g,0,none⟩),.int .i64 (s:Int),d.agg,.slice (some ⟨w.heap.size,0,none⟩) ws.length ws.length] (w.alloc (.cells (numCells ws) T)) (LR h C (wrF l s d ws) (.tuple #[]) w) :=
  (write_any h C l s d ws w.heap.size _ hC (hs.below (below_made _ _)) hlt hd hne hws hlen (heap_alloc_new w _)).mono fun e w' hq=>LR.of_fr (l:=l) (below_made w (.cells (numCells ws) T)) hq
def lkF (l:List Int) (c b a:Nat):List Int :=
  let l1:=if b=0 then stl l (20+4*c) 4 (a:Int) else stl l (128+16*(b-1)+8) 4 (a:Int)
  if a=0 then l1 else stl l1 (128+16*(a-1)+12) 4 (b:Int)
set_option maxRecDepth 100000 in
set_option maxHeartbeats 1000000 in
theorem link_any (h:Hm) (C:Cf) (l:List Int) (c b a:Nat) (w:World) (hC:C.Ok) (hs:LM h C l w) (hc:c<10) (hb:b≤C.s) (ha:a≤C.s) (x y:Int) (hx:x=(b:Int)-1) (hy:y=(a:Int)-1) :
    Calls Tryz.prog 187 #[.pointer (some ⟨h.g,0,none⟩),.int .i64 (c:Int),.int .i64 x,.int .i64 y] w (LR h C (lkF l c b a) (.tuple #[]) w):=by
  have hhi:=hC.hi
  have HB2:Hid (∀ l V,LM h C l V→a≠0→Calls Tryz.prog 188 #[.pointer (some ⟨h.g,0,none⟩),.int .i64 y,.agg #[.int .i64 0,.int .i64 0,.int .u32 0,.int .i64 0,.int .i64 (b:Int)],.slice (some ⟨V.heap.size,0,none⟩) 1 1] (V.alloc (.cells #[.int .i64 4] 3)) (LR h C (stl l (128+16*(a-1)+12) 4 (b:Int)) (.tuple #[]) V)):=fun l V hv h0=>by
    rw[show y=((a-1:Nat):Int) by omega]
    exact write_row h C l (a-1) ⟨0,0,0,0,b⟩ [4] V hC hv (by omega) ⟨by simp,by simp,by simp,by simp,by simp;omega⟩ (by simp) (fun k=>by rcases k with _ | k<;>simp[List.getD]) (by simp) 3
  have hw1:IntKind.i64.wrap (y+1)=(a:Int):=(Arn.wrap_id (by omega) (by omega)).trans (by omega)
  have hw2:IntKind.i64.wrap (x+1)=(b:Int):=(Arn.wrap_id (by omega) (by omega)).trans (by omega)
  have hw3:wrap64 (y+1)=(a:Int):=(IntWalk.wrap64_in _ (by omega)).trans (by omega)
  have hw4:wrap64 (x+1)=(b:Int):=(IntWalk.wrap64_in _ (by omega)).trans (by omega)
  have hu:IntKind.u64.wrap (a:Int)=(a:Int):=u64_id (by omega) (by omega)
  obtain⟨f,hf⟩:∃ f:Int,f=3+(c:Int):=⟨_,rfl⟩
  have hf1:IntKind.i64.wrap (3+(c:Int))=f:=(Arn.wrap_id (by omega) (by omega)).trans hf.symm
  have hf2:wrap64 (3+(c:Int))=f:=(IntWalk.wrap64_in _ (by omega)).trans hf.symm
  have HR:=Lib.hid (hs.setRoot hC c hc (a:Int) (by omega) (by omega))
  rw[←hf] at HR
  unfold lkF
  have hxx:x = -1↔b=0:=by omega
  have hyy:y = -1↔a=0:=by omega
  by_cases h0:b=0
  · have hx1:x = -1:=hxx.2 h0
    rw[if_pos h0]
    rw[h0,show ((0:Nat):Int)=0 from rfl] at HB2
    rw[h0,show ((0:Nat):Int)=0 from rfl]
    subst hx1
    clear hw2 hw4
    generalize stl l (20+4*c) 4 (a:Int)=l1 at HR ⊢
    by_cases h1:a=0
    · have hy1:y = -1:=hyy.2 h1
      simp only[h1,if_true]
      subst hy1
      have hb1:((-1:Int) == -1)=true:=rfl
      rw[h1] at HR hw1 hw3 hu
      clear hx hy hf hxx hyy hs hC HB2 h0 hb ha
      go_enter Tryz.func187,Tryz.ntmps187
      go_wp2_with fail
      refine HR.out.mono ?_
      rintro e w1 ⟨rfl,hm1,hf1⟩
      have HE:Hid (LR h C l1 (.tuple #[]) w (.returned (.tuple #[])) w1):=⟨rfl,hm1,hf1⟩
      clear hm1 hf1
      go_wp2
      exact bodyPost_end (results_none rfl _ _ _) rfl HE.out
    · have hy1:(y == -1)=false:=by rw[beq_eq_false_iff_ne];omega
      have hy2:(y != -1)=true:=by rw[bne,hy1];rfl
      rw[if_neg h1]
      clear hx hy hf hxx hyy hs hC h0 hb ha
      go_enter Tryz.func187,Tryz.ntmps187
      go_wp2_with fail
      refine HR.out.mono ?_
      rintro e w1 ⟨rfl,hm1,hf1⟩
      go_wp2_with fail
      refine(HB2.out l1 _ hm1 h1).mono ?_
      rintro e w2 ⟨rfl,hm2,hf2⟩
      have HE:=Lib.hid (LR.then (e:=.returned (.tuple #[])) (e':=.returned (.tuple #[])) (r:=.tuple #[]) (r':=.tuple #[]) ⟨rfl,hm1,hf1⟩ ⟨rfl,hm2,hf2⟩)
      clear hm1 hf1 hm2 hf2
      go_wp2
      exact bodyPost_end (results_none rfl _ _ _) rfl HE.out
  · have hx1:(x == -1)=false:=by rw[beq_eq_false_iff_ne];omega
    rw[if_neg h0]
    have HB1:Hid (Calls Tryz.prog 188 #[.pointer (some ⟨h.g,0,none⟩),.int .i64 x,.agg #[.int .i64 0,.int .i64 0,.int .u32 0,.int .i64 (a:Int),.int .i64 0],.slice (some ⟨w.heap.size,0,none⟩) 1 1] (w.alloc (.cells #[.int .i64 3] 3)) (LR h C (stl l (128+16*(b-1)+8) 4 (a:Int)) (.tuple #[]) w)):=by
      rw[show x=((b-1:Nat):Int) by omega]
      exact write_row h C l (b-1) ⟨0,0,0,a,0⟩ [3] w hC hs (by omega) ⟨by simp,by simp,by simp,by simp;omega,by simp⟩ (by simp) (fun k=>by rcases k with _ | k<;>simp[List.getD]) (by simp) 3
    generalize stl l (128+16*(b-1)+8) 4 (a:Int)=l1 at HB1 ⊢
    by_cases h1:a=0
    · have hy1:y = -1:=hyy.2 h1
      simp only[h1,if_true]
      subst hy1
      rw[h1] at HB1 hw1 hw3 hu
      clear hx hy hf hxx hyy hs hC HB2 h0 hb ha
      go_enter Tryz.func187,Tryz.ntmps187
      go_wp2_with fail
      refine HB1.out.mono ?_
      rintro e w1 ⟨rfl,hm1,hf1⟩
      have HE:Hid (LR h C l1 (.tuple #[]) w (.returned (.tuple #[])) w1):=⟨rfl,hm1,hf1⟩
      clear hm1 hf1
      go_wp2
      exact bodyPost_end (results_none rfl _ _ _) rfl HE.out
    · have hy1:(y == -1)=false:=by rw[beq_eq_false_iff_ne];omega
      have hy2:(y != -1)=true:=by rw[bne,hy1];rfl
      rw[if_neg h1]
      clear hx hy hf hxx hyy hs hC h0 hb ha
      go_enter Tryz.func187,Tryz.ntmps187
      go_wp2_with fail
      refine HB1.out.mono ?_
      rintro e w1 ⟨rfl,hm1,hf1⟩
      go_wp2_with fail
      refine(HB2.out l1 _ hm1 h1).mono ?_
      rintro e w2 ⟨rfl,hm2,hf2⟩
      have HE:=Lib.hid (LR.then (e:=.returned (.tuple #[])) (e':=.returned (.tuple #[])) (r:=.tuple #[]) (r':=.tuple #[]) ⟨rfl,hm1,hf1⟩ ⟨rfl,hm2,hf2⟩)
      clear hm1 hf1 hm2 hf2
      go_wp2
      exact bodyPost_end (results_none rfl _ _ _) rfl HE.out
end Go.Proofs.YtmgeiaglandedaaGreatDoor.Lis

namespace Go.Proofs.YtmgeiaglandedaaGreatDoor.Lis
open Go.RowKit Num
open Mem (Mm MemC MRet Hm rd blkM)
set_option linter.unusedVariables false
def okL (v:Int):Bool:=decide (0≤v) && decide (v≤65535)
def stE (S:Nat) (s c v:Int):Int:=if 0≤s∧s<(S:Int) then if isL c && okL v then 0 else 2 else 6
def stL (S:Nat) (l:List Int) (s c v f:Int):List Int:=if stE S s c v=0 then wrF l s.toNat ⟨c,v,f,0,0⟩ [0,1,2] else l
set_option maxRecDepth 100000 in
set_option maxHeartbeats 1000000 in
theorem set_any (h:Hm) (C:Cf) (l:List Int) (s c v f:Int) (w:World) (hC:C.Ok) (hs:LM h C l w) (f0:0≤f) (f1:f<4294967296) :
    Calls Tryz.prog 205 #[.pointer (some ⟨h.g,0,none⟩),.int .i64 s,.int .i64 c,.int .i64 v,.int .u32 f] w (LR h C (stL C.s l s c v f) (.int .i64 (stE C.s s c v)) w):=by
  have HK:=Lib.hid (checkSlab_any h C l s w hC hs)
  have HI:=Lib.hid (fun V=>isList_any c V)
  by_cases h0:0≤s∧s<(C.s:Int)
  · have hk:ckS C.s s=0:=by rw[ckS,if_pos h0]
    have e0:stE C.s s c v=if isL c && okL v then 0 else 2:=by rw[stE,if_pos h0]
    unfold stL
    rw[e0]
    rw[hk] at HK
    have hbad:∀ w1,Below w.heap.size w w1→LR h C l (.int .i64 2) w (.returned (.int .i64 2)) w1:=fun w1 hb=>hs.only hb _
    have HBad:=Lib.hid hbad
    cases hi:isL c with
    | false =>
      rw[hi] at HI
      simp only[Bool.false_and,Bool.false_eq_true,if_false,show ¬ ((2:Int)=0) by decide]
      clear hi hk e0 h0 hs hC hbad
      go_enter Tryz.func205,Tryz.ntmps205
      go_wp2_with fail
      refine HK.out.mono ?_
      rintro e w1 ⟨rfl,hb1⟩
      go_wp2_with fail
      refine(HI.out _).mono ?_
      rintro e w2 ⟨rfl,rfl⟩
      have HE:=Lib.hid (HBad.out _ hb1)
      go_wp2
      go_ret
      exact HE.out
    | true =>
      rw[hi] at HI
      by_cases h1:v<0
      · have hv:okL v=false:=by simp[okL];omega
        simp only[hv,Bool.and_false,Bool.false_eq_true,if_false,show ¬ ((2:Int)=0) by decide]
        clear hi hk e0 h0 hs hC hbad hv
        go_enter Tryz.func205,Tryz.ntmps205
        go_wp2_with fail
        refine HK.out.mono ?_
        rintro e w1 ⟨rfl,hb1⟩
        go_wp2_with fail
        refine(HI.out _).mono ?_
        rintro e w2 ⟨rfl,rfl⟩
        have HE:=Lib.hid (HBad.out _ hb1)
        go_wp2
        go_ret
        exact HE.out
      have h1':decide (v<0)=false:=by simpa using h1
      by_cases h2:65535<v
      · have hv:okL v=false:=by simp[okL];omega
        simp only[hv,Bool.and_false,Bool.false_eq_true,if_false,show ¬ ((2:Int)=0) by decide]
        clear hi hk e0 h0 hs hC hbad hv
        go_enter Tryz.func205,Tryz.ntmps205
        go_wp2_with fail
        refine HK.out.mono ?_
        rintro e w1 ⟨rfl,hb1⟩
        go_wp2_with fail
        refine(HI.out _).mono ?_
        rintro e w2 ⟨rfl,rfl⟩
        have HE:=Lib.hid (HBad.out _ hb1)
        go_wp2
        go_ret
        exact HE.out
      have h2':decide (65535<v)=false:=by simpa using h2
      have hv:okL v=true:=by simp[okL];omega
      obtain⟨k,rfl,hk10⟩:=isL_nat hi
      obtain⟨n,rfl⟩:∃ n:Nat,s=n:=⟨s.toNat,by omega⟩
      simp only[hv,Bool.and_true,if_true,Int.toNat_natCast]
      have HW:Hid (∀ V,LM h C l V→Calls Tryz.prog 188 #[.pointer (some ⟨h.g,0,none⟩),.int .i64 (n:Int),.agg #[.int .i64 (k:Int),.int .i64 v,.int .u32 f,.int .i64 0,.int .i64 0],.slice (some ⟨V.heap.size,0,none⟩) 3 3] (V.alloc (.cells #[.int .i64 0,.int .i64 1,.int .i64 2] 3)) (LR h C (wrF l n ⟨k,v,f,0,0⟩ [0,1,2]) (.tuple #[]) V)):=fun V hv2 =>
        write_row h C l n ⟨k,v,f,0,0⟩ [0,1,2] V hC hv2 (by omega) ⟨by simp;omega,by simp;omega,by simp;omega,by simp,by simp⟩ (by simp) (fun k=>by rcases k with _ | _ | _ | k<;>simp[List.getD]) (by simp) 3
      have HS:=Lib.hid hs
      generalize wrF l n ⟨k,v,f,0,0⟩ [0,1,2]=l1 at HW ⊢
      clear hi hk e0 h0 hs hC hbad hv
      go_enter Tryz.func205,Tryz.ntmps205
      go_wp2_with fail
      refine HK.out.mono ?_
      rintro e w1 ⟨rfl,hb1⟩
      go_wp2_with fail
      refine(HI.out _).mono ?_
      rintro e w2 ⟨rfl,rfl⟩
      have HB:=Lib.hid hb1
      clear hb1
      go_wp2_with fail
      refine(HW.out _ (HS.out.below HB.out)).mono ?_
      rintro e w3 ⟨rfl,hm3,hf3⟩
      have HE:=Lib.hid (LR.of_fr (l:=l) (e:=.returned (.int .i64 0)) (r:=.int .i64 0) HB.out ⟨rfl,hm3,hf3⟩)
      clear hm3 hf3
      go_wp2
      go_ret
      exact HE.out
  · have hk:ckS C.s s=6:=by rw[ckS,if_neg h0]
    have e0:stE C.s s c v=6:=by rw[stE,if_neg h0]
    unfold stL
    rw[e0,if_neg (by decide)]
    rw[hk] at HK
    have HBad:=Lib.hid (fun w1 (hb:Below w.heap.size w w1)=>hs.only hb (.int .i64 6))
    clear hk e0 h0 hs hC
    go_enter Tryz.func205,Tryz.ntmps205
    go_wp2_with fail
    refine HK.out.mono ?_
    rintro e w1 ⟨rfl,hb1⟩
    have HE:=Lib.hid (HBad.out _ hb1)
    go_wp2
    go_ret
    exact HE.out
def gtE (S:Nat) (s:Int):Int:=if 0≤s∧s<(S:Int) then 0 else 6
def gtH (S:Nat) (l:List Int) (s:Int):Hd:=if 0≤s∧s<(S:Int) then hdF l s.toNat [0,1,2,3,4] else Hd.zero
set_option maxRecDepth 100000 in
set_option maxHeartbeats 1000000 in
theorem get_any (h:Hm) (C:Cf) (l:List Int) (s:Int) (w:World) (hC:C.Ok) (hs:LM h C l w) :
    Calls Tryz.prog 122 #[.pointer (some ⟨h.g,0,none⟩),.int .i64 s] w (LR h C l (.tuple #[(gtH C.s l s).agg,.int .i64 (gtE C.s s)]) w):=by
  have hal:=below_made w (.cells Hd.zero.cells 160)
  have hz:(w.alloc (.cells Hd.zero.cells 160)).heap.size=w.heap.size+1:=by simp
  have HK:=Lib.hid (checkSlab_any h C l s _ hC (hs.below hal))
  have hblk:=heap_alloc_new w (.cells Hd.zero.cells 160)
  have hS:=hs
  have HB:=Lib.hid hal
  have HM:=Lib.hid hs.lt
  by_cases h0:0≤s∧s<(C.s:Int)
  · have hk:ckS C.s s=0:=by rw[ckS,if_pos h0]
    obtain⟨n,rfl⟩:∃ n:Nat,s=n:=⟨s.toNat,by omega⟩
    have e0:gtE C.s (n:Int)=0:=by rw[gtE,if_pos h0]
    have e1:gtH C.s l (n:Int)=hdF l n [0,1,2,3,4]:=by rw[gtH,if_pos h0,Int.toNat_natCast]
    rw[e0,e1]
    rw[hk] at HK
    have hrd:∀ V,LM h C l V→Calls Tryz.prog 211 #[.pointer (some ⟨h.g,0,none⟩),.int .i64 (n:Int),.slice (some ⟨V.heap.size,0,none⟩) 5 5] (V.alloc (.cells #[.int .i64 0,.int .i64 1,.int .i64 2,.int .i64 3,.int .i64 4] 3)) (LR h C l (hdF l n [0,1,2,3,4]).agg (V.alloc (.cells #[.int .i64 0,.int .i64 1,.int .i64 2,.int .i64 3,.int .i64 4] 3))):=fun V hv2 =>
      read_any h C l n [0,1,2,3,4] V.heap.size _ hC (hv2.below (below_made _ _)) (by omega) (by simp) (fun k=>by rcases k with _ | _ | _ | _ | _ | k<;>simp[List.getD]) (by simp) (T:=3) (heap_alloc_new V _)
    obtain⟨d,hd⟩:∃ d,d=hdF l n [0,1,2,3,4]:=⟨_,rfl⟩
    rw[←hd] at hrd ⊢
    unfold Hd.agg Hd.cells at hrd
    have HR:=Lib.hid hrd
    have HBlk:=Lib.hid hblk
    clear hk e0 e1 h0 hs hrd hd hblk hal
    go_enter Tryz.func122,Tryz.ntmps122
    go_wp2_with fail
    refine HK.out.mono ?_
    rintro e w1 ⟨rfl,hb1⟩
    have hb01:=HB.out.trans (hb1.mono HB.out.size)
    have hz1:=hb1.size
    have hB1:=(hb1.block w.heap.size (by rw[hz];omega)).trans HBlk.out
    have HB1:=Lib.hid hb01
    have HBl1:=Lib.hid hB1
    clear hb1 hb01 hB1
    have hal2:=below_made w1 (.cells #[.int .i64 0,.int .i64 1,.int .i64 2,.int .i64 3,.int .i64 4] 3)
    have HAL2:=Lib.hid hal2
    clear hal2
    go_wp2_with fail
    refine(HR.out _ (hS.below HB1.out)).mono ?_
    rintro e w2 ⟨rfl,hm2,hf2⟩
    have hnb:¬ blkM h w.heap.size:=fun q=>by have:=HM.out _ q;omega
    have hb2:=(hf2.block w.heap.size (by have:=HAL2.out.size;omega) hnb).trans ((HAL2.out.block w.heap.size (by omega)).trans HBl1.out)
    obtain⟨z0,z1,z2,z3,z4⟩:=Hd.five hb2
    have f0:=Wat.frozen_block hb2 0
    have f1:=Wat.frozen_block hb2 1
    have f2:=Wat.frozen_block hb2 2
    have f3:=Wat.frozen_block hb2 3
    have f4:=Wat.frozen_block hb2 4
    have HD5:=Lib.hid (s5_block hb2 d)
    have hf5:Fr w2.heap.size (fun j=>j=w.heap.size) w2 (S5 w2 w.heap.size d):=s5_fr (S:=fun j=>j=w.heap.size) (Fr.refl _ _ _) (.inr rfl) d
    have HE:Hid (LM h C l (S5 w2 w.heap.size d)∧Fr w.heap.size (blkM h) w (S5 w2 w.heap.size d)) :=
      ⟨hS.stayN hm2 hf5 (fun j hj=>by omega),(((Fr.of_below HB1.out).trans ((Fr.of_below HAL2.out).mono HB1.out.size (fun _ _ q=>q))).trans (hf2.mono (by have:=HAL2.out.size;have:=HB1.out.size;omega) (fun _ _ q=>q))).trans (hf5.mono (by have:=HAL2.out.size;have:=HB1.out.size;have:=hf2.size;omega) (fun j hj q=>by omega))⟩
    clear hm2 hf2 hb2 hf5
    go_wp2
    show bodyPost _ _ _ _ _ (S5 w2 w.heap.size d)
    obtain⟨y0,y1,y2,y3,y4⟩:=Hd.five HD5.out
    have he:=HE.out
    clear HD5
    generalize S5 w2 w.heap.size d=W9 at he y0 y1 y2 y3 y4 ⊢
    refine bodyPost_ret (v:=.tuple #[d.agg,.int .i64 0]) ?_ rfl ⟨rfl,he⟩
    simp[results,Tryz.results122,go_sem,y0,y1,y2,y3,y4,Hd.agg,Hd.cells]
  · have hk:ckS C.s s=6:=by rw[ckS,if_neg h0]
    have e0:gtE C.s s=6:=by rw[gtE,if_neg h0]
    have e1:gtH C.s l s=Hd.zero:=by rw[gtH,if_neg h0]
    rw[e0,e1]
    rw[hk] at HK
    have HBlk:=Lib.hid hblk
    clear hk e0 e1 h0 hs hblk hal
    go_enter Tryz.func122,Tryz.ntmps122
    go_wp2_with fail
    refine HK.out.mono ?_
    rintro e w2 ⟨rfl,hb1⟩
    have hb01:=HB.out.trans (hb1.mono HB.out.size)
    have hz1:=hb1.size
    have hb2:=(hb1.block w.heap.size (by rw[hz];omega)).trans HBlk.out
    obtain⟨z0,z1,z2,z3,z4⟩:=Hd.five hb2
    have f0:=Wat.frozen_block hb2 0
    have f1:=Wat.frozen_block hb2 1
    have f2:=Wat.frozen_block hb2 2
    have f3:=Wat.frozen_block hb2 3
    have f4:=Wat.frozen_block hb2 4
    have HD5:=Lib.hid (s5_block hb2 Hd.zero)
    have hf5:Fr w2.heap.size (fun j=>j=w.heap.size) w2 (S5 w2 w.heap.size Hd.zero):=s5_fr (S:=fun j=>j=w.heap.size) (Fr.refl _ _ _) (.inr rfl) Hd.zero
    have HE:Hid (LM h C l (S5 w2 w.heap.size Hd.zero)∧Fr w.heap.size (blkM h) w (S5 w2 w.heap.size Hd.zero)) :=
      ⟨hS.stayN (hS.below hb01) hf5 (fun j hj=>by omega),(Fr.of_below hb01).trans (hf5.mono (by have:=hb01.size;omega) (fun j hj q=>by omega))⟩
    clear hb1 hb01 hb2 hf5
    go_wp2
    show bodyPost _ _ _ _ _ (S5 w2 w.heap.size Hd.zero)
    obtain⟨y0,y1,y2,y3,y4⟩:=Hd.five HD5.out
    have he:=HE.out
    clear HD5
    generalize S5 w2 w.heap.size Hd.zero=W9 at he y0 y1 y2 y3 y4 ⊢
    refine bodyPost_ret (v:=.tuple #[Hd.zero.agg,.int .i64 6]) ?_ rfl ⟨rfl,he⟩
    simp[results,Tryz.results122,go_sem,y0,y1,y2,y3,y4,Hd.agg,Hd.cells]
end Go.Proofs.YtmgeiaglandedaaGreatDoor.Lis

namespace Go.Proofs.YtmgeiaglandedaaGreatDoor.Lis
open Go.RowKit Go.Shelf Num
open Mem (Mm MemC MRet Hm rd blkM)
set_option linter.unusedVariables false
attribute [local go_sem] Oper.semAt_some
structure Chn (S:Nat) (l:List Int) (L:List Int):Prop where
  len:L.length=S
  first:∀ c:Nat,c<10→∃ v:Nat,rd l (20+4*c) 4=v∧Nx L c 0 v
  next:∀ (s c:Nat),s<S→at_ L s=(c:Int)→∃ v:Nat,rd l (128+16*s+8) 4=v∧Nx L c (s+1) v
theorem sb_of {S v:Nat} (h:v≤S):sb S (v:Int)=(v:Int)-1:=by rw[sb,if_neg (by omega)]
theorem Chn.fs {S:Nat} {l L:List Int} (h:Chn S l L) {c:Nat} (hc:c<10):∃ v:Nat,fsC S l c=(v:Int)-1∧Nx L c 0 v:=by
  obtain⟨v,h1,h2⟩:=h.first c hc
  have:=nx_le h2
  refine⟨v,?_,h2⟩
  rw[fsC,if_pos (by simp[isL];omega),Int.toNat_natCast,h1,sb_of (by rw[←h.len];exact this)]
theorem Chn.nx {S:Nat} {l L:List Int} (h:Chn S l L) {s c:Nat} (hs:s<S) (hc:at_ L s=(c:Int)):∃ v:Nat,nxC S l s=(v:Int)-1∧Nx L c (s+1) v:=by
  obtain⟨v,h1,h2⟩:=h.next s c hs hc
  have h3:=nx_le h2
  refine⟨v,?_,h2⟩
  rw[nxC,h1,sb_of (by rw[←h.len];exact h3)]
  split
  · rcases h2 with⟨rfl,-⟩ | ⟨j,rfl,h4,-⟩
    · rfl
    · omega
  · rfl
def Kw (n₀ Bm Bc:Nat) (W W':World):Prop:=Fr W.heap.size (fun k=>¬ (k<n₀∨k=Bm∨k=Bc)) W W'
theorem Kw.trans {n₀ Bm Bc:Nat} {A B C:World} (h:Kw n₀ Bm Bc A B) (k:Kw n₀ Bm Bc B C):Kw n₀ Bm Bc A C:=Fr.trans h (Fr.mono k h.size (fun _ _ q=>q))
theorem LM.kw {h:Hm} {C:Cf} {l:List Int} {W W':World} {n₀ Bm Bc:Nat} (hs:LM h C l W) (hk:Kw n₀ Bm Bc W W') (h1:∀ k,blkM h k→k<n₀) (h2:0<n₀) (h3:1<n₀):LM h C l W' :=
  hs.stay hk (fun k q=>⟨fun hb=>q (.inl (h1 k hb)),fun e=>q (.inl (by omega)),fun e=>q (.inl (by omega))⟩)
set_option maxRecDepth 100000 in
set_option maxHeartbeats 4000000 in
theorem walk1_in (n:Nat) (hn:1≤n) (lp Bm Bc n₀:Nat) (h:Hm) (C:Cf) (l L:List Int) (c:Nat) (hC:C.Ok) (hch:Chn C.s l L) (hc:c<10) (J Jx:List Nat→World→Prop)
    (hJ:∀ s A B,J s A→(Fr A.heap.size (blkM h) A B∧LM h C l B)→J s B)
    (hY:∀ pre (x:Nat) W,J pre W→pre.length<(allL L c 0).length→YieldAt Fence.wide (n-1) Tryz.prog lp #[.int .i64 (x:Int)] W fun e W' =>
      (e = .returned (.bool true)∧J (pre ++ [x]) W'∧Kw n₀ Bm Bc W W')∨(e = .returned (.bool false)∧Jx (pre ++ [x]) W'))
    (W:World) (hn₀:∀ k,blkM h k→k<n₀) (t1:0<n₀) (t2:1<n₀) (hBm0:n₀≤Bm) (hBc0:n₀≤Bc) {T1 T2:TypeId} (hBm:W.heap[Bm]? = some (.cells #[.pointer (some ⟨h.g,0,none⟩)] T1 (0,0))) (hBc:W.heap[Bc]? = some (.cells #[.int .i64 (c:Int)] T2 (0,0))) (hm:LM h C l W) (h0:J [] W) :
    CallsIn Fence.wide n Tryz.prog 221 #[.func (.yield lp) #[] #[],.pointer (some ⟨Bm,0,none⟩),.pointer (some ⟨Bc,0,none⟩)] W fun e W'=>(∃ v,e = .returned v) ∧
      ((∃ ys,ys=allL L c 0∧J ys W')∨(∃ pre,(∃ rest,allL L c 0=pre++rest)∧Jx pre W')):=by
  have HY:=Lib.hid hY
  have HJ:=Lib.hid hJ
  have HCh:=Lib.hid hch
  have HN:=Lib.hid hn₀
  have HFs:=Lib.hid (fun V (hv:LM h C l V)=>first_any h C l c V hC hv)
  have HNx:=Lib.hid (fun(s:Nat) (hs:s<C.s) V (hv:LM h C l V)=>next_any h C l s V hC hv hs)
  have HBm:=Lib.hid hBm
  have HBc:=Lib.hid hBc
  have HM0:=Lib.hid hm
  have H0:=Lib.hid h0
  have c0:W.cell? ⟨Bm,0,none⟩=some (.pointer (some ⟨h.g,0,none⟩)):=(cell_block hBm 0).trans rfl
  have c1:W.cell? ⟨Bc,0,none⟩=some (.int .i64 (c:Int)):=(cell_block hBc 0).trans rfl
  have hbm:¬ blkM h Bm:=fun q=>by have:=hn₀ _ q;omega
  have hbc:¬ blkM h Bc:=fun q=>by have:=hn₀ _ q;omega
  obtain⟨v0,hv0,hx0⟩:=hch.fs hc
  rw[hv0] at HFs
  have HX0:=Lib.hid hx0
  have hhi:=hC.hi
  have hSL:=hch.len
  clear hY hJ hch hn₀ hBm hBc hm h0 hv0 hx0
  refine callsIn_of_wp Tryz.func221 rfl trivial ?_ rfl
  simp only[Tryz.ntmps221,List.size_toArray,List.length_cons,List.length_nil,Nat.reduceAdd,Nat.reduceSub,Array.replicate_succ,Array.replicate_zero,List.push_toArray,List.append_toArray,List.nil_append,List.cons_append]
  gi_wp2_with (refine⟨trivial,?_⟩;gi_at_call 200;refine(callsIn_wide.2 (HFs.out _ HM0.out)).mono ?_;rintro e W1 ⟨rfl,hm1,hf1⟩)
  gi_loopw [4] (fun i wr=>∃ (k v:Nat) (pre:List Nat),i = .int .i64 ((v:Int)-1)∧v≤C.s∧Hid (Nx L c k v)∧Hid (allL L c 0=pre++allL L c k)∧Hid (J pre wr)∧Hid (LM h C l wr)∧Hid (wr.heap[Bm]? = some (.cells #[.pointer (some ⟨h.g,0,none⟩)] T1 (0,0)))∧Hid (wr.heap[Bc]? = some (.cells #[.int .i64 (c:Int)] T2 (0,0)))) (fun i _=>if intOf i = -1 then 0 else C.s+1-(intOf i).toNat)
  case atStart =>
    have q1:=(hf1.block Bm (Array.getElem?_eq_some_iff.1 HBm.out).1 hbm).trans HBm.out
    have q2:=(hf1.block Bc (Array.getElem?_eq_some_iff.1 HBc.out).1 hbc).trans HBc.out
    exact⟨0,v0,[],rfl,by have:=nx_le HX0.out;omega,HX0.out,rfl,HJ.out _ _ _ H0.out ⟨hf1,hm1⟩,hm1,q1,q2⟩
  case round =>
    obtain⟨k,v,pre,rfl,hv,HX,HP,HJJ,HL,Hm1,Hc1⟩:=hrel
    by_cases hz:v=0
    · subst hz
      have hnil:=all_nil HX.out
      have hp:=HP.out
      rw[hnil,List.append_nil] at hp
      have HPn:=Lib.hid hp
      clear hnil hp
      gi_wp2
      refine⟨fun f e=>(by cases e),?_⟩
      gi_wp2
      go_end0
      exact⟨⟨_,rfl⟩,.inl ⟨_,HPn.out.symm,HJJ.out⟩⟩
    · obtain⟨j,rfl⟩:∃ j,v=j+1:=⟨v-1,by omega⟩
      have e1:(((j+1:Nat):Int)-1)=(j:Int):=by omega
      rw[e1]
      have hcons:=all_cons HX.out
      have hj1:((j:Int) == -1)=false:=by rw[beq_eq_false_iff_ne];omega
      have hj2:((j:Int) != -1)=true:=by rw[bne,hj1];rfl
      have hat:at_ L j=(c:Int):=by
        rcases HX.out with⟨e,-⟩ | ⟨i,e,g1,g2,g3,-⟩
        · omega
        · obtain rfl:i=j:=by omega
          exact g3
      have hp:=HP.out
      rw[hcons] at hp
      have hlen:pre.length<(allL L c 0).length:=by rw[hp];simp
      have hp2:allL L c 0=(pre ++ [j])++allL L c (j+1):=by rw[hp];simp
      have HP2:=Lib.hid hp2
      obtain⟨u,hu,hux⟩:=HCh.out.nx (by omega) hat
      have HU:=Lib.hid hux
      have HN1:=HNx.out j (by omega)
      rw[hu] at HN1
      have HN2:=Lib.hid HN1
      obtain⟨fn,tmps,assign,body,hyy,hR⟩:=HY.out pre j wr HJJ.out hlen
      clear hcons hp hp2 hlen hu hux HN1
      gi_wp2
      refine hR.mono ?_
      rintro e W3 (⟨rfl,hJ3,hk3⟩ | ⟨rfl,hJx3⟩)
      · have hm3:=HL.out.kw hk3 HN.out t1 t2
        have hB3:=(Fr.block hk3 Bm (Array.getElem?_eq_some_iff.1 Hm1.out).1 (fun q=>q (.inr (.inl rfl)))).trans Hm1.out
        have hC3:=(Fr.block hk3 Bc (Array.getElem?_eq_some_iff.1 Hc1.out).1 (fun q=>q (.inr (.inr rfl)))).trans Hc1.out
        have d0:W3.cell? ⟨Bm,0,none⟩=some (.pointer (some ⟨h.g,0,none⟩)):=(cell_block hB3 0).trans rfl
        have HM3:=Lib.hid hm3
        have HB3:=Lib.hid hB3
        have HC3:=Lib.hid hC3
        have HJ3:=Lib.hid hJ3
        clear hm3 hB3 hC3 hJ3 hk3 hyy hR
        gi_wp2_with (refine⟨trivial,?_⟩;gi_at_call 208;refine(callsIn_wide.2 (HN2.out _ HM3.out)).mono ?_;rintro e W4 ⟨rfl,hm4,hf4⟩)
        have q1:=(hf4.block Bm (Array.getElem?_eq_some_iff.1 HB3.out).1 hbm).trans HB3.out
        have q2:=(hf4.block Bc (Array.getElem?_eq_some_iff.1 HC3.out).1 hbc).trans HC3.out
        have HJ4:=Lib.hid (HJ.out _ _ _ HJ3.out ⟨hf4,hm4⟩)
        go_roundw
        case rel=>exact⟨j+1,u,pre ++ [j],rfl,by have:=nx_le HU.out;omega,HU.out,HP2.out,HJ4.out,hm4,q1,q2⟩
        case measure =>
          have hu1:=nx_le HU.out
          have hu2:u=0∨j+2≤u:=by
            rcases HU.out with⟨e,-⟩ | ⟨i,e,g1,-⟩
            · exact .inl e
            · right;omega
          show (if ((u:Int)-1) = -1 then 0 else C.s+1-((u:Int)-1).toNat)<(if (j:Int) = -1 then 0 else C.s+1-(j:Int).toNat)
          rw[if_neg (show ¬ (j:Int) = -1 by omega)]
          split<;>omega
      · have HJX:=Lib.hid hJx3
        clear hR hyy hJx3
        gi_wp2
        go_end0
        exact⟨⟨_,rfl⟩,.inr ⟨_,⟨_,HP2.out⟩,HJX.out⟩⟩
end Go.Proofs.YtmgeiaglandedaaGreatDoor.Lis

namespace Go.Proofs.YtmgeiaglandedaaGreatDoor.Lis
open Go.RowKit Go.Shelf Num
open Mem (Mm MemC MRet Hm rd blkM)
set_option linter.unusedVariables false
attribute [local go_sem] Oper.semAt_some
theorem mem_all {L:List Int} {c:Nat} {y:Nat} : y∈allL L (c:Int) 0↔at_ L y=(c:Int):=by
  unfold allL
  rw[List.mem_filter,List.mem_range'_1]
  constructor
  · rintro ⟨-,h⟩
    simpa using h
  · intro h
    refine⟨⟨Nat.zero_le _,?_⟩,by simpa using h⟩
    rcases Nat.lt_or_ge y L.length with h1 | h1
    · omega
    · unfold at_ List.getD at h
      rw[List.getElem?_eq_none h1] at h
      simp at h
theorem all_lt {L:List Int} {c:Nat} {y:Nat} (h:y∈allL L (c:Int) 0):y<L.length:=by
  unfold allL at h
  rw[List.mem_filter,List.mem_range'_1] at h
  omega
theorem all_sorted (L:List Int) (c:Int):(allL L c 0).Pairwise (· < ·):=by
  unfold allL
  exact(List.pairwise_lt_range' 1 (by decide)).filter _
def lastN (pre:List Nat):Nat:=match pre.getLast? with
  | none=>0
  | some x=>x+1
def headN (rest:List Nat):Nat:=match rest with
  | []=>0
  | y::_=>y+1
theorem lastN_snoc (pre:List Nat) (x:Nat):lastN (pre ++ [x])=x+1:=by simp[lastN]
theorem split_pv {L:List Int} {c s:Nat} {pre rest:List Nat} (h:allL L (c:Int) 0=pre++rest) (h1:∀ y∈pre,y<s) (h2:∀ y∈rest,s≤y):Pv L c s (lastN pre):=by
  have hs:=all_sorted L c
  rw[h] at hs
  rcases List.eq_nil_or_concat pre with rfl | ⟨p,x,rfl⟩
  · refine .inl ⟨rfl,fun j hj e=>?_⟩
    have:=mem_all.2 e
    rw[h,List.nil_append] at this
    have:=h2 j this
    omega
  · rw [List.concat_eq_append] at *
    rw[lastN_snoc]
    refine .inr ⟨x,rfl,h1 x (by simp),mem_all.1 (by rw[h];simp),fun i hi his e=>?_⟩
    have hm:=mem_all.2 e
    rw[h] at hm
    rcases List.mem_append.1 hm with hm | hm
    · rcases List.mem_append.1 hm with hm | hm
      · have:=(List.pairwise_append.1 (List.pairwise_append.1 hs).1).2.2 i hm x (by simp)
        omega
      · simp at hm
        omega
    · have:=h2 i hm
      omega
theorem split_nx {L:List Int} {c s:Nat} {pre rest:List Nat} (h:allL L (c:Int) 0=pre++rest) (h1:∀ y∈pre,y<s) (h2:∀ y∈rest,s≤y):Nx L c s (headN rest):=by
  have hs:=all_sorted L c
  rw[h] at hs
  cases rest with
  | nil =>
    refine .inl ⟨rfl,fun j hj hl e=>?_⟩
    have:=mem_all.2 e
    rw[h,List.append_nil] at this
    have:=h1 j this
    omega
  | cons y r =>
    have hy:y∈allL L (c:Int) 0:=by rw[h];simp
    refine .inr ⟨y,rfl,h2 y (by simp),all_lt hy,mem_all.1 hy,fun i hi his e=>?_⟩
    have hm:=mem_all.2 e
    rw[h] at hm
    rcases List.mem_append.1 hm with hm | hm
    · have:=h1 i hm
      omega
    · rcases List.mem_cons.1 hm with rfl | hm
      · omega
      · have:=(List.pairwise_cons.1 (List.pairwise_append.1 hs).2.1).1 i hm
        omega
theorem walk_any (g:Nat) (c:Int) (w:World):Calls Tryz.prog 140 #[.pointer (some ⟨g,0,none⟩),.int .i64 c] w fun e w'=>e = .returned (.func (.func 221) #[] #[.pointer (some ⟨w.heap.size,0,none⟩),.pointer (some ⟨w.heap.size+1,0,none⟩)])∧w'=(w.alloc (.cells #[.pointer (some ⟨g,0,none⟩)] 26)).alloc (.cells #[.int .i64 c] 3):=by
  go_enter Tryz.func140,Tryz.ntmps140
  go_wp2
  go_ret
  exact⟨rfl,rfl⟩
theorem walk_seq (n:Nat) (hn:1≤n) (Bm Bc n₀:Nat) (h:Hm) (C:Cf) (l L:List Int) (c:Nat) (hC:C.Ok) (hch:Chn C.s l L) (hc:c<10) (w0:World) (hn₀:∀ k,blkM h k→k<n₀) (t1:0<n₀) (t2:1<n₀) (hBm0:n₀≤Bm) (hBc0:n₀≤Bc)
    {T1 T2:TypeId} (hBm:w0.heap[Bm]? = some (.cells #[.pointer (some ⟨h.g,0,none⟩)] T1 (0,0))) (hBc:w0.heap[Bc]? = some (.cells #[.int .i64 (c:Int)] T2 (0,0))) (hm:LM h C l w0) :
    SeqM Fence.wide n Tryz.prog 221 #[.pointer (some ⟨Bm,0,none⟩),.pointer (some ⟨Bc,0,none⟩)] (fun x:Nat => #[.int .i64 (x:Int)]) (Kw n₀ Bm Bc) (fun A B=>Fr A.heap.size (blkM h) A B∧LM h C l B) (fun ys=>ys=allL L c 0) (fun pre=>∃ rest,allL L c 0=pre++rest) (allL L c 0).length w0 :=
  fun lp J Jx W hW hJ _ hY h0=>walk1_in n hn lp Bm Bc n₀ h C l L c hC hch hc J Jx hJ hY W hn₀ t1 t2 hBm0 hBc0 ((hW.block _ (Array.getElem?_eq_some_iff.1 hBm).1).trans hBm) ((hW.block _ (Array.getElem?_eq_some_iff.1 hBc).1).trans hBc) (hm.below hW) h0
theorem wpIn_scope_any {n:Nat} {P:Program} {Q:Exit→Act→World→Prop} {c:Code} {a:Act} {w:World} (h:c.wpIn Fence.wide n P (Exit.noGoto Q) a w):(Code.scope c).wpIn Fence.wide n P Q a w :=
  wpIn_wide.2 (wp_scope_straight (wpIn_wide.1 h))
theorem LM.grown {h:Hm} {C:Cf} {l:List Int} {W W':World} {row:Option Nat} {B:Nat} (hs:LM h C l W) (hg:W.grownBy W' row) (hr:∀ r,row=some r→B≤r) (hB:∀ k,blkM h k→k<B) (t1:0<B) (t2:1<B):LM h C l W' :=
  hs.stay (S:=fun k=>row=some k) (Fr.of_grown hg (Nat.le_refl _) (fun k e=>.inr e)) (fun k e=>by
    have:=hr k e
    exact⟨fun q=>by have:=hB k q;omega,by omega,by omega⟩)
theorem Kw.put {n₀ Bm Bc:Nat} {w:World} (h1:n₀≤w.heap.size) (h2:Bm<w.heap.size) (h3:Bc<w.heap.size) (W:World) (l:Nat) (o o':Obj) (hl:w.heap.size≤l) (h:W.heap[l]? = some o) (_:o.isCells=false) (_:o.isWalk=false):Kw n₀ Bm Bc W (W.putObj l o') :=
  ⟨rfl,rfl,rfl,by simp,fun k _ hs=>World.putObj_heap_other (fun e=>hs (by rintro (q | q | q)<;>omega))⟩
theorem Kw.set {n₀ Bm Bc b:Nat} {W W':World} (h:Kw n₀ Bm Bc W W') (hb:n₀≤b) (h2:b≠Bm) (h3:b≠Bc) (v:Value):Kw n₀ Bm Bc W (W'.setCell ⟨b,0,none⟩ v) :=
  Fr.setCell h (p:=⟨b,0,none⟩) (.inr (by rintro (q | q | q);exact absurd (show b<n₀ from q) (by omega);exact h2 q;exact h3 q)) v
structure PS (h:Hm) (C:Cf) (l:List Int) (w:World) (s b a:Int) (W:World):Prop where
  x:Boxed W w.heap.size 3 (.int .i64 s)
  b:Boxed W (w.heap.size+1) 3 (.int .i64 b)
  a:Boxed W (w.heap.size+1+1) 3 (.int .i64 a)
  m:LM h C l W
  f:Fr w.heap.size (blkM h) w W
theorem PS.grown {h:Hm} {C:Cf} {l:List Int} {w W W':World} {s b a:Int} {row:Option Nat} {B:Nat} (p:PS h C l w s b a W) (hg:W.grownBy W' row) (hr:∀ r,row=some r→B≤r) (hB:∀ k,blkM h k→k<B) (t1:0<B) (t2:1<B) (h3:w.heap.size+3≤B):PS h C l w s b a W' :=
  ⟨p.x.kept hg (fun e=>by have:=hr _ e.symm;omega),p.b.kept hg (fun e=>by have:=hr _ e.symm;omega),p.a.kept hg (fun e=>by have:=hr _ e.symm;omega),p.m.grown hg hr hB t1 t2,p.f.trans (Fr.of_grown hg p.f.size (fun k e=>.inl (by have:=hr k e;omega)))⟩
theorem PS.step {h:Hm} {C:Cf} {l:List Int} {w A B:World} {s b a:Int} (p:PS h C l w s b a A) (hs:Fr A.heap.size (blkM h) A B∧LM h C l B) (hB:∀ k,blkM h k→k<w.heap.size):PS h C l w s b a B :=
  ⟨(hs.1.block _ p.x.lt (fun q=>by have:=hB _ q;omega)).trans p.x,(hs.1.block _ p.b.lt (fun q=>by have:=hB _ q;omega)).trans p.b,(hs.1.block _ p.a.lt (fun q=>by have:=hB _ q;omega)).trans p.a,hs.2,p.f.trans (hs.1.mono p.f.size (fun _ _ q=>q))⟩
theorem PS.below {h:Hm} {C:Cf} {l:List Int} {w W W':World} {s b a:Int} (p:PS h C l w s b a W) (hb:Below W.heap.size W W'):PS h C l w s b a W' :=
  ⟨(hb.block _ p.x.lt).trans p.x,(hb.block _ p.b.lt).trans p.b,(hb.block _ p.a.lt).trans p.a,p.m.below hb,p.f.below hb p.f.size⟩
theorem PS.done {h:Hm} {C:Cf} {l:List Int} {w W:World} {s b a:Int} (h0:LM h C l w) (p:PS h C l w s b a W) (D:Nat) (hD:w.heap.size+5≤D):LM h C l (W.putObj D (.deferred none))∧Fr w.heap.size (blkM h) w (W.putObj D (.deferred none)):=by
  have hlt:=h0.lt
  have htb:=h0.tabs
  have q:=p.grown (grownBy_putObj' W D (.deferred none)) (B:=D) (fun r e=>by cases e;exact Nat.le_refl _) (fun k q=>by have:=hlt k q;omega) (by omega) (by omega) (by omega)
  exact⟨q.m,q.f⟩
theorem PS.setB {h:Hm} {C:Cf} {l:List Int} {w W:World} {s b a:Int} (h0:LM h C l w) (p:PS h C l w s b a W) (y:Int):PS h C l w s y a (W.setCell ⟨w.heap.size+1,0,none⟩ (.int .i64 y)) :=
  ⟨p.x.other (by omega) _,p.b.set _,p.a.other (by omega) _,h0.stayN p.m ((Fr.refl W.heap.size (fun k=>k=w.heap.size+1) W).setCell (p:=⟨w.heap.size+1,0,none⟩) (.inr rfl) _) (fun k e=>by omega),p.f.setCell (p:=⟨w.heap.size+1,0,none⟩) (.inl (by show w.heap.size≤w.heap.size+1;omega)) _⟩
theorem PS.setA {h:Hm} {C:Cf} {l:List Int} {w W:World} {s b a:Int} (h0:LM h C l w) (p:PS h C l w s b a W) (y:Int):PS h C l w s b y (W.setCell ⟨w.heap.size+1+1,0,none⟩ (.int .i64 y)) :=
  ⟨p.x.other (by omega) _,p.b.other (by omega) _,p.a.set _,h0.stayN p.m ((Fr.refl W.heap.size (fun k=>k=w.heap.size+1+1) W).setCell (p:=⟨w.heap.size+1+1,0,none⟩) (.inr rfl) _) (fun k e=>by omega),p.f.setCell (p:=⟨w.heap.size+1+1,0,none⟩) (.inl (by show w.heap.size≤w.heap.size+1+1;omega)) _⟩
def bpI (pre:List Nat):Int:=(lastN pre:Int)-1
set_option maxRecDepth 100000 in
set_option maxHeartbeats 4000000 in
theorem place_any (h:Hm) (C:Cf) (l L:List Int) (c s:Nat) (w:World) (hC:C.Ok) (hs:LM h C l w) (hch:Chn C.s l L) (hc:c<10) :
    Calls Tryz.prog 207 #[.pointer (some ⟨h.g,0,none⟩),.int .i64 (c:Int),.int .i64 (s:Int)] w fun e w'=>∃ b a:Nat,LR h C l (.tuple #[.int .i64 ((b:Int)-1),.int .i64 ((a:Int)-1)]) w e w'∧Pv L c s b∧Nx L c s a:=by
  have HW:=Lib.hid (fun V=>walk_any h.g (c:Int) V)
  have hlt:=hs.lt
  have htb:=hs.tabs
  refine(callsIn_wide (n:=6)).1 ?_
  refine callsIn_of_wp_marks Tryz.func207 rfl trivial ?_ rfl
  simp only[Tryz.ntmps207,List.size_toArray,List.length_cons,List.length_nil,Nat.reduceAdd,Nat.reduceSub,Array.replicate_succ,Array.replicate_zero,List.push_toArray,List.append_toArray,List.nil_append,List.cons_append]
  gi_wp2
  refine wpIn_scope_any ?_
  gi_wp2
  try refine wpIn_label ?_
  gi_wp2_with (refine⟨trivial,?_⟩;gi_at_call 140;refine(callsIn_wide.2 (HW.out _)).mono ?_;rintro e w' ⟨rfl,rfl⟩)
  have b0:=Boxed.new w 3 (.int .i64 (s:Int))
  have b1:=Boxed.new (w.alloc (.cells #[.int .i64 (s:Int)] 3)) 3 (.int .i64 (-1))
  have b2:=Boxed.new ((w.alloc (.cells #[.int .i64 (s:Int)] 3)).alloc (.cells #[.int .i64 (-1)] 3)) 3 (.int .i64 (-1))
  have b3:=Boxed.new (((w.alloc (.cells #[.int .i64 (s:Int)] 3)).alloc (.cells #[.int .i64 (-1)] 3)).alloc (.cells #[.int .i64 (-1)] 3)) 26 (.pointer (some ⟨h.g,0,none⟩))
  have b4:=Boxed.new ((((w.alloc (.cells #[.int .i64 (s:Int)] 3)).alloc (.cells #[.int .i64 (-1)] 3)).alloc (.cells #[.int .i64 (-1)] 3)).alloc (.cells #[.pointer (some ⟨h.g,0,none⟩)] 26)) 3 (.int .i64 (c:Int))
  simp only[World.size_alloc] at b1 b2 b3 b4
  have b0:=(((b0.alloc (.cells #[.int .i64 (-1)] 3)).alloc (.cells #[.int .i64 (-1)] 3)).alloc (.cells #[.pointer (some ⟨h.g,0,none⟩)] 26)).alloc (.cells #[.int .i64 (c:Int)] 3)
  have b1:=((b1.alloc (.cells #[.int .i64 (-1)] 3)).alloc (.cells #[.pointer (some ⟨h.g,0,none⟩)] 26)).alloc (.cells #[.int .i64 (c:Int)] 3)
  have b2:=(b2.alloc (.cells #[.pointer (some ⟨h.g,0,none⟩)] 26)).alloc (.cells #[.int .i64 (c:Int)] 3)
  have b3:=b3.alloc (.cells #[.int .i64 (c:Int)] 3)
  have hbw:Below w.heap.size w (((((w.alloc (.cells #[.int .i64 (s:Int)] 3)).alloc (.cells #[.int .i64 (-1)] 3)).alloc (.cells #[.int .i64 (-1)] 3)).alloc (.cells #[.pointer (some ⟨h.g,0,none⟩)] 26)).alloc (.cells #[.int .i64 (c:Int)] 3)):=((((((Below.refl _ w).alloc (Nat.le_refl _) _).alloc (by simp) _).alloc (by simp;omega) _).alloc (by simp;omega) _).alloc (by simp;omega) _)
  have hz:(((((w.alloc (.cells #[.int .i64 (s:Int)] 3)).alloc (.cells #[.int .i64 (-1)] 3)).alloc (.cells #[.int .i64 (-1)] 3)).alloc (.cells #[.pointer (some ⟨h.g,0,none⟩)] 26)).alloc (.cells #[.int .i64 (c:Int)] 3)).heap.size=w.heap.size+5:=by simp
  generalize ((((w.alloc (.cells #[.int .i64 (s:Int)] 3)).alloc (.cells #[.int .i64 (-1)] 3)).alloc (.cells #[.int .i64 (-1)] 3)).alloc (.cells #[.pointer (some ⟨h.g,0,none⟩)] 26)).alloc (.cells #[.int .i64 (c:Int)] 3)=W0 at b0 b1 b2 b3 b4 hbw hz ⊢
  have hps:PS h C l w s (-1) (-1) W0:=⟨b0,b1,b2,hs.below hbw,Fr.of_below hbw⟩
  have HPS:=Lib.hid hps
  have HCl:=Lib.hid hlt
  refine wpIn_range_mem rfl (by omega) (gf:=221) (lb := #[.pointer (some ⟨w.heap.size+1+1+1,0,none⟩),.pointer (some ⟨w.heap.size+1+1+1+1,0,none⟩)]) rfl trivial (enters_of Tryz.func221 (by kernel_rfl) rfl)
    (walk_seq 5 (by omega) (w.heap.size+1+1+1) (w.heap.size+1+1+1+1) w.heap.size h C l L c hC hch hc W0 hlt htb.1 htb.2 (by omega) (by omega) b3 b4 (hs.below hbw))
    (fun A B k o st hk ho=>(st.1.block k (Array.getElem?_eq_some_iff.1 ho).1 (fun q=>by have:=hlt k q;omega)).trans ho)
    (fun h k=>Kw.trans h k) (Kw.put (by omega) (by omega) (by omega)) (Below.refl _ _) (fun _=>rfl)
    (fun pre W=>(∀ y∈pre,y<s)∧PS h C l w s (bpI pre) (-1) W)
    (fun c pre W=>c = .exit 0∧∃ (p:List Nat) (x:Nat),pre=p ++ [x]∧s≤x∧(∀ y∈p,y<s)∧PS h C l w s (bpI p) x W)
    (fun pre A B row hi hg hr=>⟨hi.1,hi.2.grown hg (fun r e=>(hr r e).1) (fun k q=>by have:=hlt k q;omega) (by omega) (by omega) (by omega)⟩)
    (fun c pre A B row hi hg hr=>by obtain⟨e,p,x,q1,q2,q3,q4⟩:=hi;exact⟨e,p,x,q1,q2,q3,q4.grown hg (fun r e=>(hr r e).1) (fun k q=>by have:=hlt k q;omega) (by omega) (by omega) (by omega)⟩)
    (fun pre A B hi st=>⟨hi.1,hi.2.step st hlt⟩)
    (fun c pre A B hi st=>by obtain⟨e,p,x,q1,q2,q3,q4⟩:=hi;exact⟨e,p,x,q1,q2,q3,q4.step st hlt⟩)
    ⟨by simp,hps⟩
    (fun x => { tmps := #[.pointer (some ⟨h.g,0,none⟩),.int .i64 (c:Int),.int .i64 (s:Int),undef,undef,.pointer (some ⟨w.heap.size,0,none⟩),.int .i64 0,.int .i64 0,.pointer (some ⟨w.heap.size+1,0,none⟩),.pointer (some ⟨w.heap.size+1+1,0,none⟩),.int .i64 (x:Int),.pointer (some ⟨h.g,0,none⟩),.int .i64 (c:Int),.func (.func 221) #[] #[.pointer (some ⟨w.heap.size+1+1+1,0,none⟩),.pointer (some ⟨w.heap.size+1+1+1+1,0,none⟩)],.int .i64 (x:Int),undef,undef,undef,undef,undef,undef,undef,undef],defers := [] })
    ?assign ?body ?done ?stop
  case assign =>
    intro lp x W K hK
    gi_wp2
    exact hK
  case body =>
    rintro lp pre x W ⟨hpre,hp⟩ _
    have c0:=hp.x.cell
    have c1:=hp.b.cell
    have f1:=hp.b.frozen
    have c2:=hp.a.cell
    have f2:=hp.a.frozen
    by_cases hx:x<s
    · have hx1:(x:Int)<(s:Int):=by omega
      gi_wp2
      refine⟨(KeepsOthers.setCell _ _ _).from _,Kw.set (Fr.refl _ _ _) (by omega) (by omega) (by omega) _,fun y hy=>?_,?_⟩
      · rcases List.mem_append.1 hy with hy | hy
        · exact hpre y hy
        · simp at hy
          omega
      · have e:bpI (pre ++ [x])=(x:Int):=by unfold bpI;rw[lastN_snoc];omega
        rw[e]
        exact hp.setB hs x
    · have hx1:decide ((x:Int)<(s:Int))=false:=by rw[decide_eq_false_iff_not];omega
      have hx2:¬ (x:Int)<(s:Int):=by omega
      gi_wp2
      exact⟨(KeepsOthers.setCell _ _ _).from _,rfl,pre,x,rfl,by omega,hpre,hp.setA hs x⟩
  case done =>
    rintro D ys W hD rfl ⟨hpre,hp⟩ hK
    have c1:=hp.b.cell
    have c2:=hp.a.cell
    have hp1:Pv L c s (lastN (allL L c 0)):=split_pv (rest := []) (by simp) hpre (by simp)
    have hp2:Nx L c s 0:=split_nx (pre:=allL L c 0) (rest := []) (by simp) hpre (by simp)
    gi_wp2
    refine wpIn_wide.2 ?_
    go_quiet (fail)
    gi_wp2
    (try rw[Exit.noGoto_ret])
    have hp2d:=(hp.below (below_drewN (Below.refl _ _) nq)).done hs D (by omega)
    have hKd:(W.drewN nq).heap[D]? = some (.deferred (some [])):=(Below.block (below_drewN (Below.refl W.heap.size W) nq) D (Array.getElem?_eq_some_iff.1 hK).1).trans hK
    refine⟨by simp,.inl ⟨_,_,rfl,run_takeDeferred hKd,?_⟩⟩
    refine⟨.tuple #[.int .i64 (bpI (allL L c 0)),.int .i64 (-1)],?_,lastN (allL L c 0),0,⟨rfl,hp2d⟩,hp1,hp2⟩
    simp[results,Tryz.f207,go_sem]
  case stop =>
    rintro D c' pre W hD ⟨rest,hall⟩ ⟨rfl,p,x,rfl,hx,hpre,hp⟩ hK
    have c1:=hp.b.cell
    have c2:=hp.a.cell
    have hsx:∀ y∈x::rest,s≤y:=by
      have h1:=all_sorted L c
      rw[hall,List.append_assoc] at h1
      have h2:=(List.pairwise_append.1 h1).2.1
      intro y hy
      rcases List.mem_cons.1 hy with rfl | hy
      · exact hx
      · have:=(List.pairwise_cons.1 h2).1 y hy
        omega
    have hall2:allL L c 0=p++(x::rest):=by rw[hall];simp
    have hp1:=split_pv hall2 hpre hsx
    have hp2:=split_nx hall2 hpre hsx
    gi_wp2
    refine wpIn_wide.2 ?_
    go_quiet (fail)
    gi_wp2
    (try rw[Exit.noGoto_ret])
    have hp2d:=(hp.below (below_drewN (Below.refl _ _) nq)).done hs D (by omega)
    have hKd:(W.drewN nq).heap[D]? = some (.deferred (some [])):=(Below.block (below_drewN (Below.refl W.heap.size W) nq) D (Array.getElem?_eq_some_iff.1 hK).1).trans hK
    refine⟨by simp,.inl ⟨_,_,rfl,run_takeDeferred hKd,?_⟩⟩
    refine⟨.tuple #[.int .i64 (bpI p),.int .i64 (x:Int)],?_,lastN p,x+1,⟨by rw[show ((x+1:Nat):Int)-1=x by omega];rfl,hp2d⟩,hp1,hp2⟩
    simp[results,Tryz.f207,go_sem]
end Go.Proofs.YtmgeiaglandedaaGreatDoor.Lis

namespace Go.Proofs.YtmgeiaglandedaaGreatDoor.Lis
open Go.RowKit Go.Shelf Num
open Mem (Mm MemC MRet Hm rd blkM)
set_option linter.unusedVariables false
attribute [local go_sem] Oper.semAt_some
theorem infoInt:(Tryz.prog.info? 3).map (fun i=>(i.zero,i.size,i.bytes))=some (some (.int .i64 0),1,8):=by kernel_rfl
def ints (l:List Nat):List Int:=l.map fun x:Nat=>(x:Int)
def valsN (l:List Nat):List Value:=l.map fun(x:Nat)=>.int .i64 (x:Int)
theorem valsN_snoc (l:List Nat) (x:Nat):valsN (l ++ [x])=valsN l ++ [.int .i64 (x:Int)]:=by simp[valsN]
theorem ints_length (l:List Nat):(ints l).length=l.length:=by simp[ints]
theorem ints_get (l:List Nat) (i:Nat):(ints l).getD i 0=((l.getD i 0:Nat):Int):=by
  by_cases h:i<l.length
  · simp[ints,List.getD,h]
  · simp[ints,List.getD,h]
theorem owns_base {w:World} {base:Nat} {t:TypeId} {v:Value} {n:Nat} {xs:List Value} (h:w.ownsRow base t 1 v n xs):∀ b,v.ownBlock=some b→base≤b:=by
  obtain⟨h1,h2⟩:=h
  intro b hb
  rcases h2 with⟨rfl,h0⟩ | ⟨g,cap,cur,rfl,hg,-⟩
  · cases hb
  · cases hb
    exact hg
theorem rowN_of_owns {w:World} {base:Nat} {t:TypeId} {v:Value} {n:Nat} {l:List Nat} (h:w.ownsRow base t 1 v n (valsN l)) (hn:l.length=n) (hb:∀ x∈l,x≤100000):Row .i64 w v (ints l):=by
  obtain⟨h1,h2⟩:=h
  subst hn
  rcases h2 with⟨rfl,h0⟩ | ⟨g,cap,cur,rfl,hg,hh,hle,hm,hsz,htk⟩
  · obtain rfl:l = []:=List.eq_nil_of_length_eq_zero h0
    exact Row.nil _ _
  · have hget:∀ i,i<l.length→l.getD i 0∈l:=fun i hi=>by
      have e:l.getD i 0=l[i]:=by simp[List.getD,hi]
      rw[e];exact List.getElem_mem hi
    refine⟨_,cap,by rw[ints_length],by rw[ints_length];exact hle,by unfold maxLen at hm;omega,fun i hi=>?_,fun _=>⟨g,0,rfl,(Array.getElem?_eq_some_iff.1 hh).1,fun i hi=>?_⟩⟩
    · rw[ints_length] at hi
      rw[ints_get]
      have:=hb _ (hget i hi)
      exact WalkArith.wf_i64 (by omega)
    · rw[ints_length] at hi
      rw[Nat.zero_add,cell_block hh,ints_get]
      have e:(valsN l)[i]? = some (.int .i64 ((l.getD i 0:Nat):Int)):=by simp[valsN,hi,List.getD]
      rw[←htk,List.getElem?_take_of_lt (by omega)] at e
      rw[←e]
      simp
def alI (L:List Int) (c:Int):List Nat:=if isL c then allL L c 0 else []
end Go.Proofs.YtmgeiaglandedaaGreatDoor.Lis

namespace Go.Proofs.YtmgeiaglandedaaGreatDoor.Lis
open Go.RowKit Num
open Mem (rd)
set_option linter.unusedVariables false
theorem rd_st {l:List Int} {a n b m:Nat} {v:Int} (h:a+n≤l.length) (hn:isW (n:Int)=true) (h0:0≤v) (hf:fits v (n:Int)=true) (he:b=a→m=n) (hd:b≠a→b+m≤a∨a+n≤b) :
    rd (stl l a n v) b m=if b=a then v else rd l b m:=by
  by_cases e:b=a
  · rw[if_pos e]
    have:=he e
    subst e this
    exact Mem.rd_same h hn h0 hf
  · rw[if_neg e]
    obtain⟨b1,b2⟩:=isW_bd hn
    exact Mem.rd_other h (by omega) (hd e)
theorem st_get {l:List Int} {a n t:Nat} {v:Int} (h:a+n≤l.length) (hn:n≤8) (ht:t<a∨a+n≤t):(stl l a n v).getD t 0=l.getD t 0:=by
  have hl:((parts v).take n).length=n:=by rw[List.length_take,parts_length];omega
  rw[Mem.stl_wrL _ _ _ _ hn,Mem.wr_get _ _ _ _ (by omega),if_neg (by omega)]
theorem st_len {l:List Int} {a n:Nat} {v:Int} (h:a+n≤l.length) (hn:n≤8):(stl l a n v).length=l.length:=Mem.stl_length h hn
theorem fits4 {v:Int} (h:v<4294967296):fits v ((4:Nat):Int)=true:=by simp[fits,isW];omega
section link
variable {S:Nat} {l:List Int} {c b a:Nat} (hl:128+16*S≤l.length) (hc:c<10) (hb:b≤S) (ha:a≤S) (hS:S≤64)
include hl hc hb ha hS
theorem lk_len:(lkF l c b a).length=l.length:=by
  have:=hS
  unfold lkF
  by_cases h0:b=0<;>by_cases h1:a=0<;>simp only[h0,h1,if_true,if_false]
  · exact st_len (by omega) (by omega)
  · rw[st_len (by rw[st_len (by omega) (by omega)];omega) (by omega),st_len (by omega) (by omega)]
  · exact st_len (by omega) (by omega)
  · rw[st_len (by rw[st_len (by omega) (by omega)];omega) (by omega),st_len (by omega) (by omega)]
theorem lk_rd (p m:Nat) (hp:∀ x,x<10→p=20+4*x→m=4) (hp2:∀ x,x<10→p≠20+4*x→p+m≤20+4*x∨20+4*x+4≤p)
    (hq:∀ j,j<S→p=128+16*j+8→m=4) (hq2:∀ j,j<S→p≠128+16*j+8→p+m≤128+16*j+8∨128+16*j+12≤p)
    (hr:∀ j,j<S→p=128+16*j+12→m=4) (hr2:∀ j,j<S→p≠128+16*j+12→p+m≤128+16*j+12∨128+16*j+16≤p) :
    rd (lkF l c b a) p m=if a≠0∧p=128+16*(a-1)+12 then (b:Int) else if b=0∧p=20+4*c then (a:Int) else if b≠0∧p=128+16*(b-1)+8 then (a:Int) else rd l p m:=by
  unfold lkF
  have f1:fits (a:Int) ((4:Nat):Int)=true:=fits4 (by omega)
  have f2:fits (b:Int) ((4:Nat):Int)=true:=fits4 (by omega)
  by_cases h0:b=0
  · have e1:rd (stl l (20+4*c) 4 (a:Int)) p m=if p=20+4*c then (a:Int) else rd l p m:=rd_st (by omega) (by decide) (by omega) f1 (hp c hc) (hp2 c hc)
    simp only[h0,if_true,true_and,ne_eq,not_true,false_and,if_false]
    by_cases h1:a=0
    · simp only[h1,if_true,not_true,false_and,if_false]
      rw[h1] at e1
      exact e1
    · rw[if_neg h1,rd_st (by rw[st_len (by omega) (by omega)];omega) (by decide) (by omega) (by rw[h0] at f2;exact f2) (hr (a-1) (by omega)) (hr2 (a-1) (by omega)),e1]
      simp only[h1,not_false_eq_true,true_and]
  · have e1:rd (stl l (128+16*(b-1)+8) 4 (a:Int)) p m=if p=128+16*(b-1)+8 then (a:Int) else rd l p m:=rd_st (by omega) (by decide) (by omega) f1 (hq (b-1) (by omega)) (hq2 (b-1) (by omega))
    simp only[h0,if_false,false_and,ne_eq,not_false_eq_true,true_and]
    by_cases h1:a=0
    · simp only[h1,if_true,not_true,false_and,if_false]
      rw[h1] at e1
      exact e1
    · rw[if_neg h1,rd_st (by rw[st_len (by omega) (by omega)];omega) (by decide) (by omega) f2 (hr (a-1) (by omega)) (hr2 (a-1) (by omega)),e1]
      simp only[h1,not_false_eq_true,true_and]
theorem lk_root (x:Nat) (hx:x<10):rd (lkF l c b a) (20+4*x) 4=if b=0∧x=c then (a:Int) else rd l (20+4*x) 4:=by
  rw[lk_rd hl hc hb ha hS (20+4*x) 4 (by omega) (by omega) (by omega) (by omega) (by omega) (by omega),if_neg (by omega)]
  by_cases h:b=0∧x=c
  · rw[if_pos (by omega),if_pos h]
  · rw[if_neg (by omega),if_neg h,if_neg (by omega)]
theorem lk_next (j:Nat) (hj:j<S):rd (lkF l c b a) (128+16*j+8) 4=if b=j+1 then (a:Int) else rd l (128+16*j+8) 4:=by
  rw[lk_rd hl hc hb ha hS (128+16*j+8) 4 (by omega) (by omega) (by omega) (by omega) (by omega) (by omega),if_neg (by omega),if_neg (by omega)]
  by_cases h:b=j+1
  · rw[if_pos (by omega),if_pos h]
  · rw[if_neg (by omega),if_neg h]
theorem lk_prev (j:Nat) (hj:j<S):rd (lkF l c b a) (128+16*j+12) 4=if a=j+1 then (b:Int) else rd l (128+16*j+12) 4:=by
  rw[lk_rd hl hc hb ha hS (128+16*j+12) 4 (by omega) (by omega) (by omega) (by omega) (by omega) (by omega)]
  by_cases h:a=j+1
  · rw[if_pos (by omega),if_pos h]
  · rw[if_neg (by omega),if_neg h,if_neg (by omega),if_neg (by omega)]
theorem lk_head (j o m:Nat) (hj:j<S) (ho:o+m≤8) (hm:0<m):rd (lkF l c b a) (128+16*j+o) m=rd l (128+16*j+o) m:=by
  rw[lk_rd hl hc hb ha hS (128+16*j+o) m (by omega) (by omega) (by omega) (by omega) (by omega) (by omega),if_neg (by omega),if_neg (by omega),if_neg (by omega)]
theorem lk_rest (t:Nat) (ht:t<20∨60≤t∧t<128∨128+16*S≤t):(lkF l c b a).getD t 0=l.getD t 0:=by
  unfold lkF
  by_cases h0:b=0<;>by_cases h1:a=0<;>simp only[h0,h1,if_true,if_false]
  · exact st_get (by omega) (by omega) (by omega)
  · rw[st_get (by rw[st_len (by omega) (by omega)];omega) (by omega) (by omega),st_get (by omega) (by omega) (by omega)]
  · exact st_get (by omega) (by omega) (by omega)
  · rw[st_get (by rw[st_len (by omega) (by omega)];omega) (by omega) (by omega),st_get (by omega) (by omega) (by omega)]
end link
theorem pat_other {i k:Nat} (hi:i<5) (hk:k<5) (h:i≠k):pat i+pwd i≤pat k∨pat k+pwd k≤pat i:=by
  rcases(show i=0∨i=1∨i=2∨i=3∨i=4 by omega) with rfl | rfl | rfl | rfl | rfl<;>rcases(show k=0∨k=1∨k=2∨k=3∨k=4 by omega) with rfl | rfl | rfl | rfl | rfl<;>first | exact absurd rfl h | decide
section write
variable {S s:Nat} {d:Hd} (hs:s<S) (hd:d.Ok)
include hs hd
theorem wr_len (ws:List Nat) (hws:∀ i∈ws,i<5):∀ l:List Int,128+16*S≤l.length→(wrF l s d ws).length=l.length:=by
  have:=hd
  induction ws with
  | nil=>intro l _;rfl
  | cons i ws ih =>
    intro l hl
    have h5:=hws i (by simp)
    obtain⟨b1,b2,b3,b4⟩:=part_bd h5
    have e:=st_len (l:=l) (a:=128+16*s+pat i) (n:=pwd i) (v:=d.at i) (by omega) (by omega)
    show (wrF (stl l (128+16*s+pat i) (pwd i) (d.at i)) s d ws).length=_
    rw[ih (fun i h=>hws i (by simp[h])) _ (by rw[e];exact hl),e]
theorem wr_rest (ws:List Nat) (hws:∀ i∈ws,i<5) (t:Nat) (ht:t<128+16*s∨128+16*s+16≤t):∀ l:List Int,128+16*S≤l.length→(wrF l s d ws).getD t 0=l.getD t 0:=by
  have:=hd
  induction ws with
  | nil=>intro l _;rfl
  | cons i ws ih =>
    intro l hl
    have h5:=hws i (by simp)
    obtain⟨b1,b2,b3,b4⟩:=part_bd h5
    have e:=st_len (l:=l) (a:=128+16*s+pat i) (n:=pwd i) (v:=d.at i) (by omega) (by omega)
    show (wrF (stl l (128+16*s+pat i) (pwd i) (d.at i)) s d ws).getD t 0=_
    rw[ih (fun i h=>hws i (by simp[h])) _ (by rw[e];exact hl),st_get (by omega) (by omega) (by omega)]
theorem wr_fld (ws:List Nat) (hws:∀ i∈ws,i<5) (j k:Nat) (hj:j<S) (hk:k<5):∀ l:List Int,128+16*S≤l.length→rd (wrF l s d ws) (128+16*j+pat k) (pwd k)=if j=s∧k∈ws then d.at k else rd l (128+16*j+pat k) (pwd k):=by
  induction ws with
  | nil=>intro l _;simp[wrF]
  | cons i ws ih =>
    intro l hl
    have h5:=hws i (by simp)
    obtain⟨b1,b2,b3,b4⟩:=part_bd h5
    obtain⟨c1,c2,c3,c4⟩:=part_bd hk
    obtain⟨v0,v1,v2⟩:=hd.at i h5
    have e:=st_len (l:=l) (a:=128+16*s+pat i) (n:=pwd i) (v:=d.at i) (by omega) (by omega)
    show rd (wrF (stl l (128+16*s+pat i) (pwd i) (d.at i)) s d ws) _ _=_
    rw[ih (fun i h=>hws i (by simp[h])) _ (by rw[e];exact hl)]
    by_cases hjs:j=s
    · subst hjs
      by_cases hik:i=k
      · subst hik
        rw[Mem.rd_same (by omega) b1 v0 v2]
        simp
      · rw[Mem.rd_other (by omega) (by omega) (by have:=pat_other h5 hk hik;omega)]
        have hki:¬ k=i:=fun e=>hik e.symm
        simp[hki]
    · rw[Mem.rd_other (by omega) (by omega) (by omega)]
      simp[hjs]
theorem wr_root (ws:List Nat) (hws:∀ i∈ws,i<5) (x:Nat) (hx:x<10):∀ l:List Int,128+16*S≤l.length→rd (wrF l s d ws) (20+4*x) 4=rd l (20+4*x) 4:=by
  have:=hd
  induction ws with
  | nil=>intro l _;rfl
  | cons i ws ih =>
    intro l hl
    have h5:=hws i (by simp)
    obtain⟨b1,b2,b3,b4⟩:=part_bd h5
    have e:=st_len (l:=l) (a:=128+16*s+pat i) (n:=pwd i) (v:=d.at i) (by omega) (by omega)
    show rd (wrF (stl l (128+16*s+pat i) (pwd i) (d.at i)) s d ws) _ _=_
    rw[ih (fun i h=>hws i (by simp[h])) _ (by rw[e];exact hl),Mem.rd_other (by omega) (by omega) (by omega)]
end write
end Go.Proofs.YtmgeiaglandedaaGreatDoor.Lis

namespace Go.Proofs.YtmgeiaglandedaaGreatDoor.Lis
open Go.RowKit Num
open Mem (rd)
set_option linter.unusedVariables false
theorem nx_shift {L:List Int} {c:Int} {k v:Nat} (h:Nx L c k v) (hk:at_ L k≠c):Nx L c (k+1) v:=by
  rcases h with⟨rfl,h⟩ | ⟨j,rfl,h1,h2,h3,h4⟩
  · exact .inl ⟨rfl,fun j h1 h2=>h j (by omega) h2⟩
  · have hne:j≠k:=by rintro rfl;exact hk h3
    exact .inr ⟨j,rfl,by omega,h2,h3,fun i hi hij=>h4 i (by omega) hij⟩
section
variable {L:List Int} {c:Int} {s j b a u v:Nat}
theorem rel_root (hc:at_ L s≠c) (hb:Pv L c s b) (hv:Nx L c 0 v):b=0↔(v=0∨s+1<v):=by
  rcases hb with⟨rfl,hb⟩ | ⟨i,rfl,g1,g2,g3⟩<;>rcases hv with⟨rfl,hv⟩ | ⟨k,rfl,h1,h2,h3,h4⟩
  · simp
  · refine⟨fun _=>.inr ?_,fun _=>rfl⟩
    rcases Nat.lt_trichotomy k s with e | e | e
    · exact absurd h3 (hb k e)
    · subst e;exact absurd h3 hc
    · omega
  · refine⟨fun e=>by omega,fun _=>?_⟩
    have h5:i<L.length∨L.length≤i:=by omega
    rcases h5 with h5 | h5
    · exact absurd g2 (hv i (by omega) h5)
    · exfalso
      by_cases hl:i<L.length
      · omega
      · have e1:at_ L i = -1:=by unfold at_ List.getD;rw[List.getElem?_eq_none h5];rfl
        have e2:at_ L s = -1:=by unfold at_ List.getD;rw[List.getElem?_eq_none (by omega)];rfl
        exact hc (e2.trans (e1.symm.trans g2))
  · refine⟨fun e=>by omega,fun e=>?_⟩
    rcases e with e | e
    · omega
    · exact absurd g2 (h4 i (by omega) (by omega))
theorem rel_next (hj:at_ L j=c) (hl:j<L.length) (hc:at_ L s≠c) (hb:Pv L c s b) (hv:Nx L c (j+1) v) (hs:s<L.length):b=j+1↔(j+1≤s∧(v=0∨s+1<v)):=by
  have hjs:j≠s:=by rintro rfl;exact hc hj
  rcases hb with⟨rfl,hb⟩ | ⟨i,rfl,g1,g2,g3⟩
  · refine⟨fun e=>by omega,fun⟨e1,e2⟩=>?_⟩
    exact absurd hj (hb j (by omega))
  · rcases hv with⟨rfl,hv⟩ | ⟨k,rfl,h1,h2,h3,h4⟩
    · refine⟨fun e=>by omega,fun⟨e1,e2⟩=>?_⟩
      rcases Nat.lt_trichotomy i j with e | e | e
      · exact absurd hj (g3 j e (by omega))
      · omega
      · exact absurd g2 (hv i (by omega) (by omega))
    · refine⟨fun e=>⟨by omega,.inr ?_⟩,fun⟨e1,e2⟩=>?_⟩
      · obtain rfl:i=j:=by omega
        rcases Nat.lt_trichotomy k s with q | q | q
        · exact absurd h3 (g3 k (by omega) q)
        · subst q;exact absurd h3 hc
        · omega
      · rcases Nat.lt_trichotomy i j with e | e | e
        · exact absurd hj (g3 j e (by omega))
        · omega
        · rcases e2 with e2 | e2
          · omega
          · exact absurd g2 (h4 i (by omega) (by omega))
theorem rel_prev (hj:at_ L j=c) (hl:j<L.length) (hc:at_ L s≠c) (ha:Nx L c s a) (hv:Pv L c j v):a=j+1↔(s<j∧v<s+1):=by
  have hjs:j≠s:=by rintro rfl;exact hc hj
  rcases ha with⟨rfl,ha⟩ | ⟨i,rfl,g1,g2,g3,g4⟩
  · refine⟨fun e=>by omega,fun⟨e1,e2⟩=>?_⟩
    exact absurd hj (ha j (by omega) hl)
  · have his:i≠s:=by rintro rfl;exact hc g3
    rcases hv with⟨rfl,hv⟩ | ⟨k,rfl,h1,h2,h3⟩
    · refine⟨fun e=>by omega,fun⟨e1,e2⟩=>?_⟩
      rcases Nat.lt_trichotomy i j with e | e | e
      · exact absurd g3 (hv i e)
      · omega
      · exact absurd hj (g4 j (by omega) e)
    · have hks:k≠s:=by rintro rfl;exact hc h2
      refine⟨fun e=>⟨by omega,?_⟩,fun⟨e1,e2⟩=>?_⟩
      · obtain rfl:i=j:=by omega
        rcases Nat.lt_or_ge k s with q | q
        · omega
        · exact absurd h2 (g4 k (by omega) h1)
      · rcases Nat.lt_trichotomy i j with e | e | e
        · exact absurd g3 (h3 i (by omega) e)
        · omega
        · exact absurd hj (g4 j (by omega) e)
theorem rem_root (hc:at_ L s=c) (hs:s<L.length) (hb:Pv L c s b) (hv:Nx L c 0 v):b=0↔v=s+1:=by
  rcases hv with⟨rfl,hv⟩ | ⟨k,rfl,h1,h2,h3,h4⟩
  · exact absurd hc (hv s (by omega) hs)
  · rcases hb with⟨rfl,hb⟩ | ⟨i,rfl,g1,g2,g3⟩
    · refine⟨fun _=>?_,fun _=>rfl⟩
      rcases Nat.lt_trichotomy k s with e | e | e
      · exact absurd h3 (hb k e)
      · omega
      · exact absurd hc (h4 s (by omega) e)
    · refine⟨fun e=>by omega,fun e=>?_⟩
      exact absurd g2 (h4 i (by omega) (by omega))
theorem rem_next (hj:at_ L j=c) (hl:j<L.length) (hjs:j≠s) (hc:at_ L s=c) (hs:s<L.length) (hb:Pv L c s b) (hv:Nx L c (j+1) v):b=j+1↔v=s+1:=by
  rcases hb with⟨rfl,hb⟩ | ⟨i,rfl,g1,g2,g3⟩
  · rcases hv with⟨rfl,hv⟩ | ⟨k,rfl,h1,h2,h3,h4⟩
    · omega
    · refine⟨fun e=>by omega,fun e=>?_⟩
      exact absurd hj (hb j (by omega))
  · rcases hv with⟨rfl,hv⟩ | ⟨k,rfl,h1,h2,h3,h4⟩
    · refine⟨fun e=>?_,fun e=>by omega⟩
      exact absurd hc (hv s (by omega) hs)
    · refine⟨fun e=>?_,fun e=>?_⟩
      · obtain rfl:i=j:=by omega
        rcases Nat.lt_trichotomy k s with q | q | q
        · exact absurd h3 (g3 k (by omega) q)
        · omega
        · exact absurd hc (h4 s (by omega) q)
      · obtain rfl:k=s:=by omega
        rcases Nat.lt_trichotomy i j with q | q | q
        · exact absurd hj (g3 j q (by omega))
        · omega
        · exact absurd g2 (h4 i (by omega) g1)
theorem rem_prev (hj:at_ L j=c) (hl:j<L.length) (hjs:j≠s) (hc:at_ L s=c) (hu:Nx L c (s+1) u) (hv:Pv L c j v):u=j+1↔v=s+1:=by
  rcases hu with⟨rfl,hu⟩ | ⟨i,rfl,g1,g2,g3,g4⟩
  · rcases hv with⟨rfl,hv⟩ | ⟨k,rfl,h1,h2,h3⟩
    · omega
    · refine⟨fun e=>by omega,fun e=>?_⟩
      exact absurd hj (hu j (by omega) hl)
  · rcases hv with⟨rfl,hv⟩ | ⟨k,rfl,h1,h2,h3⟩
    · refine⟨fun e=>?_,fun e=>by omega⟩
      exact absurd hc (hv s (by omega))
    · refine⟨fun e=>?_,fun e=>?_⟩
      · obtain rfl:i=j:=by omega
        rcases Nat.lt_trichotomy k s with q | q | q
        · exact absurd hc (h3 s q (by omega))
        · omega
        · exact absurd h2 (g4 k (by omega) h1)
      · obtain rfl:k=s:=by omega
        rcases Nat.lt_trichotomy i j with q | q | q
        · exact absurd g3 (h3 i (by omega) q)
        · omega
        · exact absurd hj (g4 j (by omega) q)
end
def Nxe (L:List Int) (s v:Nat):Prop:=(at_ L s = -1∧v=0)∨(at_ L s ≠ -1∧Nx L (at_ L s) (s+1) v)
def Pve (L:List Int) (s v:Nat):Prop:=(at_ L s = -1∧v=0)∨(at_ L s ≠ -1∧Pv L (at_ L s) s v)
abbrev Hx:=Int×Int×Int
structure Rep (S:Nat) (l0 l:List Int) (H:List Hx) (L:List Int):Prop where
  room:128+16*S≤l.length
  llen:l.length=l0.length
  len:L.length=S
  hlen:H.length=S
  cls:∀ j,-1≤at_ L j∧at_ L j≤9
  hok:∀ j,j<S→(0≤(H.getD j (0,0,0)).1∧(H.getD j (0,0,0)).1≤9)∧(0≤(H.getD j (0,0,0)).2.1∧(H.getD j (0,0,0)).2.1≤65535)∧0≤(H.getD j (0,0,0)).2.2∧(H.getD j (0,0,0)).2.2<4294967296
  rest:∀ t,t<20∨60≤t∧t<128∨128+16*S≤t→l.getD t 0=l0.getD t 0
  root:∀ c:Nat,c<10→∃ v:Nat,rd l (20+4*c) 4=v∧Nx L c 0 v
  head:∀ j,j<S→rd l (128+16*j+0) 2=(H.getD j (0,0,0)).1∧rd l (128+16*j+2) 2=(H.getD j (0,0,0)).2.1∧rd l (128+16*j+4) 4=(H.getD j (0,0,0)).2.2
  nxt:∀ j,j<S→∃ v:Nat,rd l (128+16*j+8) 4=v∧Nxe L j v
  prv:∀ j,j<S→∃ v:Nat,rd l (128+16*j+12) 4=v∧Pve L j v
theorem Rep.chn {S:Nat} {l0 l:List Int} {H:List Hx} {L:List Int} (h:Rep S l0 l H L):Chn S l L :=
  ⟨h.len,h.root,fun s c hs hc=>by
    obtain⟨v,h1,h2⟩:=h.nxt s hs
    refine⟨v,h1,?_⟩
    rcases h2 with⟨e,-⟩ | ⟨-,h2⟩
    · omega
    · rwa [hc] at h2⟩
theorem Rep.insert {S:Nat} {l0 l:List Int} {H:List Hx} {L:List Int} (h:Rep S l0 l H L) (hS:S≤64) {c s b a:Nat} (hc:c<10) (hs:s<S) (h0:at_ L s = -1) (hb:Pv L c s b) (ha:Nx L c s a) :
    b≤S∧a≤S∧Rep S l0 (lkF (lkF l c b (s+1)) c (s+1) a) H (L.set s c):=by
  have hsl:s<L.length:=by rw[h.len];exact hs
  have hne:at_ L s≠(c:Int):=by omega
  have hb1:b≤S:=by
    rcases hb with⟨rfl,-⟩ | ⟨i,rfl,g1,-⟩<;>omega
  have ha1:a≤S:=by have:=nx_le ha;rw[h.len] at this;exact this
  have hr:=h.room
  have h1:128+16*S≤(lkF l c b (s+1)).length:=by rw[lk_len hr hc hb1 (by omega) hS];exact hr
  have hat:=at_set hsl (c:Int)
  have ha2:=nx_shift ha hne
  refine⟨hb1,ha1,?_⟩
  constructor
  · rw[lk_len h1 hc (by omega) ha1 hS];exact h1
  · rw[lk_len h1 hc (by omega) ha1 hS,lk_len hr hc hb1 (by omega) hS];exact h.llen
  · rw[List.length_set];exact h.len
  · exact h.hlen
  · intro j
    rw[hat]
    split
    · omega
    · exact h.cls j
  · exact h.hok
  · intro t ht
    rw[lk_rest h1 hc (by omega) ha1 hS t ht,lk_rest hr hc hb1 (by omega) hS t ht]
    exact h.rest t ht
  · intro x hx
    obtain⟨v,v1,v2⟩:=h.root x hx
    rw[lk_root h1 hc (by omega) ha1 hS x hx,if_neg (by omega),lk_root hr hc hb1 (by omega) hS x hx]
    by_cases hxc:x=c
    · subst hxc
      have hrel:=rel_root hne hb v2
      have hi:=nx_ins hsl hne v2
      by_cases e:b=0
      · rw[if_pos ⟨e,rfl⟩]
        rw[if_pos ⟨Nat.zero_le _,hrel.1 e⟩] at hi
        exact⟨s+1,rfl,hi⟩
      · rw[if_neg (fun q=>e q.1)]
        rw[if_neg (fun q=>e (hrel.2 q.2))] at hi
        exact⟨v,v1,hi⟩
    · rw[if_neg (fun q=>hxc q.2)]
      exact⟨v,v1,(nx_other hsl (by omega) (by omega)).2 v2⟩
  · intro j hj
    obtain⟨q1,q2,q3⟩:=h.head j hj
    refine⟨?_,?_,?_⟩
    · rw[lk_head h1 hc (by omega) ha1 hS j 0 2 hj (by omega) (by omega),lk_head hr hc hb1 (by omega) hS j 0 2 hj (by omega) (by omega)];exact q1
    · rw[lk_head h1 hc (by omega) ha1 hS j 2 2 hj (by omega) (by omega),lk_head hr hc hb1 (by omega) hS j 2 2 hj (by omega) (by omega)];exact q2
    · rw[lk_head h1 hc (by omega) ha1 hS j 4 4 hj (by omega) (by omega),lk_head hr hc hb1 (by omega) hS j 4 4 hj (by omega) (by omega)];exact q3
  · intro j hj
    have hjl:j<L.length:=by rw[h.len];exact hj
    obtain⟨v,v1,v2⟩:=h.nxt j hj
    rw[lk_next h1 hc (by omega) ha1 hS j hj,lk_next hr hc hb1 (by omega) hS j hj]
    by_cases hjs:j=s
    · subst hjs
      rw[if_pos rfl]
      have hi:=nx_ins hsl hne ha2
      rw[if_neg (by omega)] at hi
      exact⟨a,rfl,.inr ⟨by rw[hat,if_pos rfl];omega,by rw[hat,if_pos rfl];exact hi⟩⟩
    · rw [if_neg (by omega)]
      have hat2:at_ (L.set s c) j=at_ L j:=by rw[hat,if_neg hjs]
      unfold Nxe
      rw[hat2]
      rcases v2 with⟨e,rfl⟩ | ⟨e,v2⟩
      · have hbj:b≠j+1:=by
          intro q
          rcases hb with⟨rfl,-⟩ | ⟨i,rfl,-,g2,-⟩
          · omega
          · obtain rfl:i=j:=by omega
            omega
        rw[if_neg hbj]
        exact⟨0,v1,.inl ⟨e,rfl⟩⟩
      · by_cases hjc : at_ L j = (c : Int)
        · rw[hjc] at v2 ⊢
          have hrel:=rel_next hjc hjl hne hb v2 hsl
          have hi:=nx_ins hsl hne v2
          by_cases q:b=j+1
          · rw[if_pos q]
            rw[if_pos (hrel.1 q)] at hi
            exact⟨s+1,rfl,.inr ⟨by omega,hi⟩⟩
          · rw[if_neg q]
            rw[if_neg (fun z=>q (hrel.2 z))] at hi
            exact⟨v,v1,.inr ⟨by omega,hi⟩⟩
        · have hbj:b≠j+1:=by
            intro q
            rcases hb with⟨rfl,-⟩ | ⟨i,rfl,-,g2,-⟩
            · omega
            · obtain rfl:i=j:=by omega
              exact hjc g2
          rw[if_neg hbj]
          exact⟨v,v1,.inr ⟨e,(nx_other hsl (by omega) (fun q=>hjc q.symm)).2 v2⟩⟩
  · intro j hj
    have hjl:j<L.length:=by rw[h.len];exact hj
    obtain⟨v,v1,v2⟩:=h.prv j hj
    rw[lk_prev h1 hc (by omega) ha1 hS j hj,lk_prev hr hc hb1 (by omega) hS j hj]
    by_cases hjs:j=s
    · subst hjs
      have haj:a≠j+1:=by
        intro q
        rcases ha with⟨rfl,-⟩ | ⟨i,rfl,-,-,g3,-⟩
        · omega
        · obtain rfl:i=j:=by omega
          exact hne g3
      rw[if_neg haj,if_pos rfl]
      have hi:=pv_ins hsl hne hb
      rw[if_neg (by omega)] at hi
      exact⟨b,rfl,.inr ⟨by rw[hat,if_pos rfl];omega,by rw[hat,if_pos rfl];exact hi⟩⟩
    · have hat2:at_ (L.set s c) j=at_ L j:=by rw[hat,if_neg hjs]
      unfold Pve
      rw[hat2,if_neg (show ¬ s+1=j+1 by omega)]
      rcases v2 with⟨e,rfl⟩ | ⟨e,v2⟩
      · have haj:a≠j+1:=by
          intro q
          rcases ha with⟨rfl,-⟩ | ⟨i,rfl,-,-,g3,-⟩
          · omega
          · obtain rfl:i=j:=by omega
            omega
        rw[if_neg haj]
        exact⟨0,v1,.inl ⟨e,rfl⟩⟩
      · by_cases hjc : at_ L j = (c : Int)
        · rw[hjc] at v2 ⊢
          have hrel:=rel_prev hjc hjl hne ha v2
          have hi:=pv_ins hsl hne v2
          by_cases q:a=j+1
          · rw[if_pos q]
            rw[if_pos (hrel.1 q)] at hi
            exact⟨s+1,rfl,.inr ⟨by omega,hi⟩⟩
          · rw[if_neg q]
            rw[if_neg (fun z=>q (hrel.2 z))] at hi
            exact⟨v,v1,.inr ⟨by omega,hi⟩⟩
        · have haj:a≠j+1:=by
            intro q
            rcases ha with⟨rfl,-⟩ | ⟨i,rfl,-,-,g3,-⟩
            · omega
            · obtain rfl:i=j:=by omega
              exact hjc g3
          rw[if_neg haj]
          exact⟨v,v1,.inr ⟨e,(pv_other hsl (by omega) (fun q=>hjc q.symm)).2 v2⟩⟩
end Go.Proofs.YtmgeiaglandedaaGreatDoor.Lis

namespace Go.Proofs.YtmgeiaglandedaaGreatDoor.Lis
open Go.RowKit Num
open Mem (rd)
set_option linter.unusedVariables false
theorem zero_ok:Hd.zero.Ok:=⟨by decide,by decide,by decide,by decide,by decide⟩
theorem Rep.remove {S:Nat} {l0 l:List Int} {H:List Hx} {L:List Int} (h:Rep S l0 l H L) (hS:S≤64) {c s b u:Nat} (hc:c<10) (hs:s<S) (h0:at_ L s=(c:Int)) (hb:Pv L c s b) (hu:Nx L c (s+1) u) :
    b≤S∧u≤S∧Rep S l0 (wrF (lkF l c b u) s Hd.zero [3,4]) H (L.set s (-1)):=by
  have hsl:s<L.length:=by rw[h.len];exact hs
  have hb1:b≤S:=by
    rcases hb with⟨rfl,-⟩ | ⟨i,rfl,g1,-⟩<;>omega
  have hu1:u≤S:=by have:=nx_le hu;rw[h.len] at this;exact this
  have hr:=h.room
  have h1:128+16*S≤(lkF l c b u).length:=by rw[lk_len hr hc hb1 hu1 hS];exact hr
  have hat:=at_set hsl (-1)
  have hw:∀ i ∈ [3,4],i<5:=by decide
  have hd:(-1:Int)≠(c:Int):=by omega
  refine⟨hb1,hu1,?_⟩
  constructor
  · rw[wr_len hs zero_ok _ hw _ h1];exact h1
  · rw[wr_len hs zero_ok _ hw _ h1,lk_len hr hc hb1 hu1 hS];exact h.llen
  · rw[List.length_set];exact h.len
  · exact h.hlen
  · intro j
    rw[hat]
    split
    · omega
    · exact h.cls j
  · exact h.hok
  · intro t ht
    rw[wr_rest hs zero_ok _ hw t (by omega) _ h1,lk_rest hr hc hb1 hu1 hS t ht]
    exact h.rest t ht
  · intro x hx
    obtain⟨v,v1,v2⟩:=h.root x hx
    rw[wr_root hs zero_ok _ hw x hx _ h1,lk_root hr hc hb1 hu1 hS x hx]
    by_cases hxc:x=c
    · subst hxc
      have hrel:=rem_root h0 hsl hb v2
      have hi:=nx_rem hsl h0 hd v2 hu
      by_cases e:b=0
      · rw[if_pos ⟨e,rfl⟩]
        rw[if_pos (hrel.1 e)] at hi
        exact⟨u,rfl,hi⟩
      · rw[if_neg (fun q=>e q.1)]
        rw[if_neg (fun q=>e (hrel.2 q))] at hi
        exact⟨v,v1,hi⟩
    · rw[if_neg (fun q=>hxc q.2)]
      exact⟨v,v1,(nx_other hsl (by omega) (by omega)).2 v2⟩
  · intro j hj
    obtain⟨q1,q2,q3⟩:=h.head j hj
    have w0:=wr_fld hs zero_ok [3,4] hw j 0 hj (by omega) _ h1
    have w1:=wr_fld hs zero_ok [3,4] hw j 1 hj (by omega) _ h1
    have w2:=wr_fld hs zero_ok [3,4] hw j 2 hj (by omega) _ h1
    rw[if_neg (by simp)] at w0 w1 w2
    refine⟨w0.trans ?_,w1.trans ?_,w2.trans ?_⟩
    · exact(lk_head hr hc hb1 hu1 hS j 0 2 hj (by omega) (by omega)).trans q1
    · exact(lk_head hr hc hb1 hu1 hS j 2 2 hj (by omega) (by omega)).trans q2
    · exact(lk_head hr hc hb1 hu1 hS j 4 4 hj (by omega) (by omega)).trans q3
  · intro j hj
    have hjl:j<L.length:=by rw[h.len];exact hj
    obtain⟨v,v1,v2⟩:=h.nxt j hj
    have w3:=wr_fld hs zero_ok [3,4] hw j 3 hj (by omega) _ h1
    have e3:rd (wrF (lkF l c b u) s Hd.zero [3,4]) (128+16*j+8) 4=if j=s∧3 ∈ [3,4] then Hd.zero.at 3 else rd (lkF l c b u) (128+16*j+8) 4:=w3
    rw[e3,lk_next hr hc hb1 hu1 hS j hj]
    by_cases hjs:j=s
    · subst hjs
      rw[if_pos ⟨rfl,by decide⟩]
      exact⟨0,rfl,.inl ⟨by rw[hat,if_pos rfl],rfl⟩⟩
    · rw [if_neg (fun q => hjs q.1)]
      have hat2:at_ (L.set s (-1)) j=at_ L j:=by rw[hat,if_neg hjs]
      unfold Nxe
      rw[hat2]
      rcases v2 with⟨e,rfl⟩ | ⟨e,v2⟩
      · have hbj:b≠j+1:=by
          intro q
          rcases hb with⟨rfl,-⟩ | ⟨i,rfl,-,g2,-⟩
          · omega
          · obtain rfl:i=j:=by omega
            omega
        rw[if_neg hbj]
        exact⟨0,v1,.inl ⟨e,rfl⟩⟩
      · by_cases hjc : at_ L j = (c : Int)
        · rw[hjc] at v2 ⊢
          have hrel:=rem_next hjc hjl hjs h0 hsl hb v2
          have hi:=nx_rem hsl h0 hd v2 hu
          by_cases q:b=j+1
          · rw[if_pos q]
            rw[if_pos (hrel.1 q)] at hi
            exact⟨u,rfl,.inr ⟨by omega,hi⟩⟩
          · rw[if_neg q]
            rw[if_neg (fun z=>q (hrel.2 z))] at hi
            exact⟨v,v1,.inr ⟨by omega,hi⟩⟩
        · have hbj:b≠j+1:=by
            intro q
            rcases hb with⟨rfl,-⟩ | ⟨i,rfl,-,g2,-⟩
            · omega
            · obtain rfl:i=j:=by omega
              exact hjc g2
          rw[if_neg hbj]
          exact⟨v,v1,.inr ⟨e,(nx_other hsl (by rw[h0];exact fun q=>hjc q.symm) (fun q=>e q.symm)).2 v2⟩⟩
  · intro j hj
    have hjl:j<L.length:=by rw[h.len];exact hj
    obtain⟨v,v1,v2⟩:=h.prv j hj
    have w4:=wr_fld hs zero_ok [3,4] hw j 4 hj (by omega) _ h1
    have e4:rd (wrF (lkF l c b u) s Hd.zero [3,4]) (128+16*j+12) 4=if j=s∧4 ∈ [3,4] then Hd.zero.at 4 else rd (lkF l c b u) (128+16*j+12) 4:=w4
    rw[e4,lk_prev hr hc hb1 hu1 hS j hj]
    by_cases hjs:j=s
    · subst hjs
      rw[if_pos ⟨rfl,by decide⟩]
      exact⟨0,rfl,.inl ⟨by rw[hat,if_pos rfl],rfl⟩⟩
    · rw [if_neg (fun q => hjs q.1)]
      have hat2:at_ (L.set s (-1)) j=at_ L j:=by rw[hat,if_neg hjs]
      unfold Pve
      rw[hat2]
      rcases v2 with⟨e,rfl⟩ | ⟨e,v2⟩
      · have haj:u≠j+1:=by
          intro q
          rcases hu with⟨rfl,-⟩ | ⟨i,rfl,-,-,g3,-⟩
          · omega
          · obtain rfl:i=j:=by omega
            omega
        rw[if_neg haj]
        exact⟨0,v1,.inl ⟨e,rfl⟩⟩
      · by_cases hjc : at_ L j = (c : Int)
        · rw[hjc] at v2 ⊢
          have hrel:=rem_prev hjc hjl hjs h0 hu v2
          have hi:=pv_rem hsl h0 hd v2 hb
          by_cases q:u=j+1
          · rw[if_pos q]
            rw[if_pos (hrel.1 q)] at hi
            exact⟨b,rfl,.inr ⟨by omega,hi⟩⟩
          · rw[if_neg q]
            rw[if_neg (fun z=>q (hrel.2 z))] at hi
            exact⟨v,v1,.inr ⟨by omega,hi⟩⟩
        · have haj:u≠j+1:=by
            intro q
            rcases hu with⟨rfl,-⟩ | ⟨i,rfl,-,-,g3,-⟩
            · omega
            · obtain rfl:i=j:=by omega
              exact hjc g3
          rw[if_neg haj]
          exact⟨v,v1,.inr ⟨e,(pv_other hsl (by rw[h0];exact fun q=>hjc q.symm) (fun q=>e q.symm)).2 v2⟩⟩
theorem getD_set {α : Type} (H:List α) (s j:Nat) (x d : α) (hs:s<H.length):(H.set s x).getD j d=if j=s then x else H.getD j d:=by
  unfold List.getD
  rw[List.getElem?_set]
  by_cases e:s=j
  · subst e
    simp[hs]
  · rw[if_neg e,if_neg (fun h=>e h.symm)]
theorem Rep.set {S:Nat} {l0 l:List Int} {H:List Hx} {L:List Int} (h:Rep S l0 l H L) {s:Nat} (hs:s<S) {c v f:Int} (hc:0≤c∧c≤9) (hv:0≤v∧v≤65535) (hf:0≤f∧f<4294967296) :
    Rep S l0 (wrF l s ⟨c,v,f,0,0⟩ [0,1,2]) (H.set s (c,v,f)) L:=by
  have hr:=h.room
  have hw:∀ i ∈ [0,1,2],i<5:=by decide
  have ho:(⟨c,v,f,0,0⟩:Hd).Ok:=⟨by simp;omega,by simp;omega,by simp;omega,by simp,by simp⟩
  have hsl:s<H.length:=by rw[h.hlen];exact hs
  have hg:=fun j=>getD_set H s j (c,v,f) (0,0,0) hsl
  constructor
  · rw[wr_len hs ho _ hw _ hr];exact hr
  · rw[wr_len hs ho _ hw _ hr];exact h.llen
  · exact h.len
  · rw[List.length_set];exact h.hlen
  · exact h.cls
  · intro j hj
    rw[hg]
    split
    · exact⟨hc,hv,hf⟩
    · exact h.hok j hj
  · intro t ht
    rw[wr_rest hs ho _ hw t (by omega) _ hr]
    exact h.rest t ht
  · intro x hx
    rw[wr_root hs ho _ hw x hx _ hr]
    exact h.root x hx
  · intro j hj
    obtain⟨q1,q2,q3⟩:=h.head j hj
    have w0:=wr_fld hs ho [0,1,2] hw j 0 hj (by omega) _ hr
    have w1:=wr_fld hs ho [0,1,2] hw j 1 hj (by omega) _ hr
    have w2:=wr_fld hs ho [0,1,2] hw j 2 hj (by omega) _ hr
    rw[hg]
    by_cases hjs:j=s
    · rw[if_pos hjs]
      rw[if_pos ⟨hjs,by decide⟩] at w0 w1 w2
      exact⟨w0,w1,w2⟩
    · rw[if_neg hjs]
      rw[if_neg (fun q=>hjs q.1)] at w0 w1 w2
      exact⟨w0.trans q1,w1.trans q2,w2.trans q3⟩
  · intro j hj
    have w3:=wr_fld hs ho [0,1,2] hw j 3 hj (by omega) _ hr
    rw[if_neg (by simp)] at w3
    obtain⟨x,x1,x2⟩:=h.nxt j hj
    exact⟨x,w3.trans x1,x2⟩
  · intro j hj
    have w3:=wr_fld hs ho [0,1,2] hw j 4 hj (by omega) _ hr
    rw[if_neg (by simp)] at w3
    obtain⟨x,x1,x2⟩:=h.prv j hj
    exact⟨x,w3.trans x1,x2⟩
structure B1 (S:Nat) (l0 l:List Int) (k:Nat):Prop where
  room:128+16*S≤l.length
  llen:l.length=l0.length
  rest:∀ t,t<20∨60≤t∧t<128∨128+16*S≤t→l.getD t 0=l0.getD t 0
  root:∀ c:Nat,c<k→c<10→rd l (20+4*c) 4=0
theorem B1.step {S:Nat} {l0 l:List Int} {k:Nat} (h:B1 S l0 l k) (hS:S≤64) (hk:k<10):B1 S l0 (lkF l k 0 0) (k+1):=by
  have hr:=h.room
  refine⟨by rw[lk_len hr hk (by omega) (by omega) hS];exact hr,by rw[lk_len hr hk (by omega) (by omega) hS];exact h.llen,fun t ht=>?_,fun c hc hc10=>?_⟩
  · rw[lk_rest hr hk (by omega) (by omega) hS t ht];exact h.rest t ht
  · rw[lk_root hr hk (by omega) (by omega) hS c hc10]
    by_cases e:c=k
    · rw[if_pos ⟨rfl,e⟩];rfl
    · rw[if_neg (fun q=>e q.2)];exact h.root c (by omega) hc10
structure B2 (S:Nat) (l0 l:List Int) (k:Nat):Prop where
  room:128+16*S≤l.length
  llen:l.length=l0.length
  rest:∀ t,t<20∨60≤t∧t<128∨128+16*S≤t→l.getD t 0=l0.getD t 0
  root:∀ c:Nat,c<10→rd l (20+4*c) 4=if c=0∧k≠0 then 1 else 0
  head:∀ j,j<k→rd l (128+16*j+0) 2=0∧rd l (128+16*j+2) 2=0∧rd l (128+16*j+4) 4=0
  nxt:∀ j,j<k→rd l (128+16*j+8) 4=if j+1<k then ((j+2:Nat):Int) else 0
  prv:∀ j,j<k→rd l (128+16*j+12) 4=(j:Int)
theorem B1.two {S:Nat} {l0 l:List Int} (h:B1 S l0 l 10):B2 S l0 l 0 :=
  ⟨h.room,h.llen,h.rest,fun c hc=>by rw[if_neg (by simp)];exact h.root c hc hc,fun j hj=>by omega,fun j hj=>by omega,fun j hj=>by omega⟩
theorem B2.step {S:Nat} {l0 l:List Int} {k:Nat} (h:B2 S l0 l k) (hS:S≤64) (hk:k<S):B2 S l0 (lkF (wrF l k Hd.zero [0,1,2,3,4]) 0 k (k+1)) (k+1):=by
  have hr:=h.room
  have hw:∀ i ∈ [0,1,2,3,4],i<5:=by decide
  have h1:128+16*S≤(wrF l k Hd.zero [0,1,2,3,4]).length:=by rw[wr_len hk zero_ok _ hw _ hr];exact hr
  have hwf:=fun j i hj hi=>wr_fld hk zero_ok [0,1,2,3,4] hw j i hj hi _ hr
  constructor
  · rw[lk_len h1 (by omega) (by omega) (by omega) hS];exact h1
  · rw[lk_len h1 (by omega) (by omega) (by omega) hS,wr_len hk zero_ok _ hw _ hr];exact h.llen
  · intro t ht
    rw[lk_rest h1 (by omega) (by omega) (by omega) hS t ht,wr_rest hk zero_ok _ hw t (by omega) _ hr]
    exact h.rest t ht
  · intro c hc
    rw[lk_root h1 (by omega) (by omega) (by omega) hS c hc,wr_root hk zero_ok _ hw c hc _ hr,h.root c hc]
    by_cases e:c=0
    · subst e
      by_cases e2:k=0
      · subst e2
        simp
      · simp[e2]
    · simp[e]
  · intro j hj
    rw[lk_head h1 (by omega) (by omega) (by omega) hS j 0 2 (by omega) (by omega) (by omega),lk_head h1 (by omega) (by omega) (by omega) hS j 2 2 (by omega) (by omega) (by omega),lk_head h1 (by omega) (by omega) (by omega) hS j 4 4 (by omega) (by omega) (by omega)]
    have w0:=hwf j 0 (by omega) (by omega)
    have w1:=hwf j 1 (by omega) (by omega)
    have w2:=hwf j 2 (by omega) (by omega)
    by_cases e:j=k
    · rw[if_pos ⟨e,by decide⟩] at w0 w1 w2
      exact⟨w0,w1,w2⟩
    · rw[if_neg (fun q=>e q.1)] at w0 w1 w2
      obtain⟨q1,q2,q3⟩:=h.head j (by omega)
      exact⟨w0.trans q1,w1.trans q2,w2.trans q3⟩
  · intro j hj
    rw[lk_next h1 (by omega) (by omega) (by omega) hS j (by omega)]
    have w3:=hwf j 3 (by omega) (by omega)
    by_cases e:j=k
    · rw[if_neg (by omega),if_neg (by omega)]
      rw[if_pos ⟨e,by decide⟩] at w3
      exact w3
    · rw[if_neg (fun q=>e q.1)] at w3
      by_cases e2:k=j+1
      · rw[if_pos e2,if_pos (by omega)]
        omega
      · rw[if_neg e2,if_pos (by omega)]
        refine w3.trans ?_
        have:=h.nxt j (by omega)
        rw[if_pos (by omega)] at this
        exact this
  · intro j hj
    rw[lk_prev h1 (by omega) (by omega) (by omega) hS j (by omega)]
    have w3:=hwf j 4 (by omega) (by omega)
    by_cases e:j=k
    · rw[if_pos (by omega)]
      omega
    · rw[if_neg (fun q=>e q.1)] at w3
      rw[if_neg (by omega)]
      exact w3.trans (h.prv j (by omega))
theorem at_rep (S:Nat) (c:Int) (j:Nat):at_ (List.replicate S c) j=if j<S then c else -1:=by
  unfold at_ List.getD
  by_cases h:j<S
  · simp[h]
  · simp[h]
theorem B2.done {S:Nat} {l0 l:List Int} (h:B2 S l0 l S) (h1:1≤S):Rep S l0 l (List.replicate S (0,0,0)) (List.replicate S 0):=by
  have hg:∀ j,j<S→(List.replicate S ((0,0,0):Hx)).getD j (0,0,0)=(0,0,0):=fun j hj=>by simp[List.getD,hj]
  have hat:∀ j,j<S→at_ (List.replicate S 0) j=0:=fun j hj=>by rw[at_rep,if_pos hj]
  constructor
  · exact h.room
  · exact h.llen
  · exact List.length_replicate
  · exact List.length_replicate
  · intro j
    rw[at_rep]
    split<;>omega
  · intro j hj
    rw[hg j hj]
    decide
  · exact h.rest
  · intro c hc
    rw[h.root c hc]
    by_cases e:c=0
    · subst e
      rw[if_pos ⟨rfl,by omega⟩]
      exact⟨1,rfl,nx_here (by rw[List.length_replicate];omega) (hat 0 (by omega))⟩
    · rw[if_neg (fun q=>e q.1)]
      refine⟨0,rfl,.inl ⟨rfl,fun j _ hj q=>?_⟩⟩
      rw[List.length_replicate] at hj
      rw[hat j hj] at q
      omega
  · intro j hj
    rw[hg j hj]
    exact h.head j hj
  · intro j hj
    rw[h.nxt j hj]
    by_cases e:j+1<S
    · rw[if_pos e]
      exact⟨j+2,rfl,.inr ⟨by rw[hat j hj];decide,by rw[hat j hj];exact nx_here (by rw[List.length_replicate];omega) (hat _ e)⟩⟩
    · rw[if_neg e]
      exact⟨0,rfl,.inr ⟨by rw[hat j hj];decide,by rw[hat j hj];exact nx_end (by rw[List.length_replicate];omega)⟩⟩
  · intro j hj
    rw[h.prv j hj]
    refine⟨j,rfl,.inr ⟨by rw[hat j hj];decide,?_⟩⟩
    rw[hat j hj]
    by_cases e:j=0
    · subst e
      exact .inl ⟨rfl,fun i hi=>by omega⟩
    · exact .inr ⟨j-1,by omega,by omega,hat _ (by omega),fun i h1 h2=>by omega⟩
end Go.Proofs.YtmgeiaglandedaaGreatDoor.Lis

namespace Go.Proofs.YtmgeiaglandedaaGreatDoor.Lis
open Go.RowKit Num
open Mem (Mm MemC MRet Hm rd blkM)
set_option linter.unusedVariables false
theorem nx_at {L:List Int} {c:Int} {s a:Nat} (h:Nx L c s a) (hs:s<L.length):a=s+1↔at_ L s=c:=by
  rcases h with⟨rfl,h⟩ | ⟨j,rfl,h1,h2,h3,h4⟩
  · exact⟨fun e=>by omega,fun e=>absurd e (h s (Nat.le_refl _) hs)⟩
  · refine⟨fun e=>?_,fun e=>?_⟩
    · obtain rfl:j=s:=by omega
      exact h3
    · rcases Nat.lt_or_ge s j with q | q
      · exact absurd e (h4 s (Nat.le_refl _) q)
      · omega
def inE (S:Nat) (L:List Int) (c s:Int):Int:=if ckB S c s=0 then (if 0≤at_ L s.toNat then 8 else 0) else ckB S c s
def inL (S:Nat) (L:List Int) (c s:Int):List Int:=if inE S L c s=0 then L.set s.toNat c else L
theorem ckB_zero {S:Nat} {c s:Int} (h:ckB S c s=0):∃ k n:Nat,c=k∧k<10∧s=n∧n<S:=by
  unfold ckB ckS at h
  by_cases hi:isL c=true
  · rw[if_pos hi] at h
    obtain⟨k,rfl,hk⟩:=isL_nat hi
    by_cases h1:0≤s∧s<(S:Int)
    · exact⟨k,s.toNat,rfl,hk,by omega,by omega⟩
    · rw[if_neg h1] at h;omega
  · rw[if_neg hi] at h;omega
set_option maxRecDepth 100000 in
set_option maxHeartbeats 2000000 in
theorem insert_any (h:Hm) (C:Cf) (l0 l:List Int) (H:List Hx) (L:List Int) (c s:Int) (w:World) (hC:C.Ok) (hs:LM h C l w) (hr:Rep C.s l0 l H L) :
    Calls Tryz.prog 126 #[.pointer (some ⟨h.g,0,none⟩),.int .i64 c,.int .i64 s] w fun e w'=>∃ l',LR h C l' (.int .i64 (inE C.s L c s)) w e w'∧Rep C.s l0 l' H (inL C.s L c s):=by
  have HK:=Lib.hid (checkBoth_any h C l c s w hC hs)
  unfold inL inE
  obtain⟨r,hrr⟩:∃ r,r=ckB C.s c s:=⟨_,rfl⟩
  rw[←hrr] at HK ⊢
  by_cases h0:r=0
  · rw [h0] at HK hrr ⊢
    obtain⟨k,n,rfl,hk,rfl,hn⟩:=ckB_zero hrr.symm
    simp only[if_true,Int.toNat_natCast]
    have hnL:n<L.length:=by rw[hr.len];exact hn
    have hcl:=hr.cls n
    have hhi:=hC.hi
    have HP:=Lib.hid (fun(x:Nat) (hx:x<10) V (hv:LM h C l V)=>place_any h C l L x n V hC hv hr.chn hx)
    have HS:=Lib.hid hs
    have HRep:=Lib.hid hr
    obtain⟨E,hE⟩:∃ E:Int,E=if 0≤at_ L n then 8 else 0:=⟨_,rfl⟩
    rw[←hE]
    obtain⟨L',hL'⟩:∃ L',L'=if E=0 then L.set n k else L:=⟨_,rfl⟩
    rw[←hL']
    have HEq:=Lib.hid hE
    have HLq:=Lib.hid hL'
    clear hrr hs hr hE hL'
    go_enter Tryz.func126,Tryz.ntmps126
    go_wp2_with fail
    refine HK.out.mono ?_
    rintro e w1 ⟨rfl,hb1⟩
    have HB1:=Lib.hid hb1
    have HL1:=Lib.hid (HS.out.below hb1)
    clear hb1
    go_wp2
    go_loopw [20] (fun i wr=>∃ x:Nat,x≤10∧i = .int .i64 x∧Hid (∀ y:Nat,y<x→at_ L n≠(y:Int))∧Hid (LM h C l wr)∧Hid (Fr w.heap.size (blkM h) w wr)) (fun i _=>10-(intOf i).toNat)
    case atStart=>exact⟨0,by omega,rfl,fun y hy=>by omega,HL1.out,Fr.of_below HB1.out⟩
    case round =>
      obtain⟨x,hx,rfl,HY,HL,HF⟩:=hrel
      by_cases hlt:x<10
      · have hlt1:(x:Int)<10:=by omega
        have hlt0:(0:Int)≤(x:Int):=by omega
        go_wp2_with fail
        refine(HP.out x hlt _ HL.out).mono ?_
        rintro e w2 ⟨b,a,hlr,hpv,hnx⟩
        obtain⟨rfl,hm2,hf2⟩:=hlr
        have hat:=nx_at hnx hnL
        have HF2:Hid (Fr w.heap.size (blkM h) w w2):=HF.out.trans (hf2.mono HF.out.size (fun _ _ q=>q))
        have HM2:=Lib.hid hm2
        by_cases he:a=n+1
        · have h8:=hat.1 he
          have q1:((a:Int)-1 == (n:Int))=true:=by rw[beq_iff_eq];omega
          have HG:Hid (∃ l',LR h C l' (.int .i64 E) w (.returned (.int .i64 8)) w2∧Rep C.s l0 l' H L'):=by
            have e8:E=8:=HEq.out.trans (if_pos (by omega))
            have e9:L'=L:=HLq.out.trans (if_neg (by omega))
            exact⟨l,⟨by rw[e8],HM2.out,HF2.out⟩,by rw[e9];exact HRep.out⟩
          clear hpv hnx hat hm2 hf2 h8 HL HF
          go_wp2
          go_ret
          exact HG.out
        · have q1:((a:Int)-1 == (n:Int))=false:=by rw[beq_eq_false_iff_ne];omega
          have HY2:Hid (∀ y:Nat,y<x+1→at_ L n≠(y:Int)):=fun y hy q=>by
            rcases Nat.lt_or_ge y x with g | g
            · exact HY.out y g q
            · obtain rfl:y=x:=by omega
              exact he (hat.2 q)
          clear hpv hnx hat hm2 hf2 HL HF HY
          go_wp2
          go_roundw
          case rel=>exact⟨x+1,by omega,by go_num,HY2.out,HM2.out,HF2.out⟩
          case measure=>simp[intOf];omega
      · obtain rfl:x=10:=by omega
        have hm1:at_ L n = -1:=by
          rcases(show at_ L n = -1∨∃ y:Nat,y<10∧at_ L n=(y:Int) by
            by_cases q:at_ L n = -1
            · exact .inl q
            · exact .inr ⟨(at_ L n).toNat,by omega,by omega⟩) with q | ⟨y,hy,q⟩
          · exact q
          · exact absurd q (HY.out y hy)
        go_wp2_with fail
        refine(HP.out k hk _ HL.out).mono ?_
        rintro e w2 ⟨b,a,hlr,hpv,hnx⟩
        obtain⟨rfl,hm2,hf2⟩:=hlr
        have HF2:Hid (Fr w.heap.size (blkM h) w w2):=HF.out.trans (hf2.mono HF.out.size (fun _ _ q=>q))
        obtain⟨hb1,ha1,hrep⟩:=HRep.out.insert hhi hk hn hm1 hpv hnx
        have HL1:=Lib.hid (link_any h C l k b (n+1) w2 hC hm2 hk hb1 (by omega) ((b:Int)-1) (n:Int) rfl (by omega))
        have HL2:=Lib.hid (fun V (hv:LM h C (lkF l k b (n+1)) V)=>link_any h C (lkF l k b (n+1)) k (n+1) a V hC hv hk (by omega) ha1 (n:Int) ((a:Int)-1) (by omega) rfl)
        have HE8:Hid (E=0):=HEq.out.trans (if_neg (by omega))
        have HR:Hid (Rep C.s l0 (lkF (lkF l k b (n+1)) k (n+1) a) H L'):=by
          have e9:L'=L.set n k:=HLq.out.trans (if_pos HE8.out)
          rw[e9]
          exact hrep
        generalize lkF l k b (n+1)=l1 at HL1 HL2 HR
        generalize lkF l1 k (n+1) a=l2 at HL2 HR
        clear hpv hnx hm2 hf2 HL HF HY hb1 ha1 hrep hm1
        go_wp2_with fail
        refine HL1.out.mono ?_
        rintro e w3 ⟨rfl,hm3,hf3⟩
        have HF3:Hid (Fr w.heap.size (blkM h) w w3):=HF2.out.trans (hf3.mono HF2.out.size (fun _ _ q=>q))
        clear hf3
        go_wp2_with fail
        refine(HL2.out _ hm3).mono ?_
        rintro e w4 ⟨rfl,hm4,hf4⟩
        have HF4:Hid (Fr w.heap.size (blkM h) w w4):=HF3.out.trans (hf4.mono HF3.out.size (fun _ _ q=>q))
        have HG:Hid (∃ l',LR h C l' (.int .i64 E) w (.returned (.int .i64 0)) w4∧Rep C.s l0 l' H L'):=⟨l2,⟨by rw[HE8.out],hm4,HF4.out⟩,HR.out⟩
        clear hm3 hm4 hf4
        go_wp2
        go_ret
        exact HG.out
  · rw[if_neg h0,if_neg h0]
    have q1:(r != 0)=true:=by rw[bne_iff_ne];exact h0
    have HG:=Lib.hid (fun w1 (hb:Below w.heap.size w w1)=>(⟨l,hs.only hb _,hr⟩:∃ l',LR h C l' (.int .i64 r) w (.returned (.int .i64 r)) w1∧Rep C.s l0 l' H L))
    clear hrr hs hr
    go_enter Tryz.func126,Tryz.ntmps126
    go_wp2_with fail
    refine HK.out.mono ?_
    rintro e w1 ⟨rfl,hb1⟩
    have HE:=Lib.hid (HG.out _ hb1)
    go_wp2
    go_ret
    exact HE.out
def rmE (S:Nat) (L:List Int) (c s:Int):Int:=if ckB S c s=0 then (if at_ L s.toNat=c then 0 else 7) else ckB S c s
def rmL (S:Nat) (L:List Int) (c s:Int):List Int:=if rmE S L c s=0 then L.set s.toNat (-1) else L
set_option maxRecDepth 100000 in
set_option maxHeartbeats 2000000 in
theorem remove_any (h:Hm) (C:Cf) (l0 l:List Int) (H:List Hx) (L:List Int) (c s:Int) (w:World) (hC:C.Ok) (hs:LM h C l w) (hr:Rep C.s l0 l H L) :
    Calls Tryz.prog 116 #[.pointer (some ⟨h.g,0,none⟩),.int .i64 c,.int .i64 s] w fun e w'=>∃ l',LR h C l' (.int .i64 (rmE C.s L c s)) w e w'∧Rep C.s l0 l' H (rmL C.s L c s):=by
  have HK:=Lib.hid (checkBoth_any h C l c s w hC hs)
  unfold rmL rmE
  obtain⟨r,hrr⟩:∃ r,r=ckB C.s c s:=⟨_,rfl⟩
  rw[←hrr] at HK ⊢
  by_cases h0:r=0
  · rw [h0] at HK hrr ⊢
    obtain⟨k,n,rfl,hk,rfl,hn⟩:=ckB_zero hrr.symm
    simp only[if_true,Int.toNat_natCast]
    have hnL:n<L.length:=by rw[hr.len];exact hn
    have hhi:=hC.hi
    have HP:=Lib.hid (fun V (hv:LM h C l V)=>place_any h C l L k n V hC hv hr.chn hk)
    have HS:=Lib.hid hs
    have HRep:=Lib.hid hr
    obtain⟨E,hE⟩:∃ E:Int,E=if at_ L n=(k:Int) then 0 else 7:=⟨_,rfl⟩
    rw[←hE]
    obtain⟨L',hL'⟩:∃ L',L'=if E=0 then L.set n (-1) else L:=⟨_,rfl⟩
    rw[←hL']
    have HEq:=Lib.hid hE
    have HLq:=Lib.hid hL'
    clear hrr hs hr hE hL'
    go_enter Tryz.func116,Tryz.ntmps116
    go_wp2_with fail
    refine HK.out.mono ?_
    rintro e w1 ⟨rfl,hb1⟩
    have HB1:=Lib.hid hb1
    have HL1:=Lib.hid (HS.out.below hb1)
    clear hb1
    go_wp2_with fail
    refine(HP.out _ HL1.out).mono ?_
    rintro e w2 ⟨b,a,hlr,hpv,hnx⟩
    obtain⟨rfl,hm2,hf2⟩:=hlr
    have hat:=nx_at hnx hnL
    have HF2:Hid (Fr w.heap.size (blkM h) w w2):=(Fr.of_below HB1.out).trans (hf2.mono HB1.out.size (fun _ _ q=>q))
    by_cases he:a=n+1
    · have hc:=hat.1 he
      have q1:((a:Int)-1 != (n:Int))=false:=by rw[bne,show ((a:Int)-1 == (n:Int))=true by rw[beq_iff_eq];omega];rfl
      obtain⟨u,hu1,hu2⟩:=HRep.out.chn.nx hn hc
      obtain⟨hb1,hu3,hrep⟩:=HRep.out.remove hhi hk hn hc hpv hu2
      have HNx:=Lib.hid (next_any h C l n w2 hC hm2 hn)
      rw[hu1] at HNx
      have HL2:=Lib.hid (fun V (hv:LM h C l V)=>link_any h C l k b u V hC hv hk hb1 hu3 ((b:Int)-1) ((u:Int)-1) rfl rfl)
      have HW:Hid (∀ V,LM h C (lkF l k b u) V→Calls Tryz.prog 188 #[.pointer (some ⟨h.g,0,none⟩),.int .i64 (n:Int),.agg #[.int .i64 0,.int .i64 0,.int .u32 0,.int .i64 0,.int .i64 0],.slice (some ⟨V.heap.size,0,none⟩) 2 2] (V.alloc (.cells #[.int .i64 3,.int .i64 4] 3)) (LR h C (wrF (lkF l k b u) n Hd.zero [3,4]) (.tuple #[]) V)):=fun V hv =>
        write_row h C (lkF l k b u) n Hd.zero [3,4] V hC hv hn zero_ok (by simp) (fun k=>by rcases k with _ | _ | k<;>simp[List.getD]) (by simp) 3
      have HE8:Hid (E=0):=HEq.out.trans (if_pos hc)
      have HR:Hid (Rep C.s l0 (wrF (lkF l k b u) n Hd.zero [3,4]) H L'):=by
        have e9:L'=L.set n (-1):=HLq.out.trans (if_pos HE8.out)
        rw[e9]
        exact hrep
      generalize lkF l k b u=l1 at HL2 HW HR
      generalize wrF l1 n Hd.zero [3,4]=l2 at HW HR
      clear hpv hnx hat hm2 hf2 hu1 hu2 hb1 hu3 hrep hc
      go_wp2_with fail
      refine HNx.out.mono ?_
      rintro e w3 ⟨rfl,hm3,hf3⟩
      have HF3:Hid (Fr w.heap.size (blkM h) w w3):=HF2.out.trans (hf3.mono HF2.out.size (fun _ _ q=>q))
      clear hf3
      go_wp2_with fail
      refine(HL2.out _ hm3).mono ?_
      rintro e w4 ⟨rfl,hm4,hf4⟩
      have HF4:Hid (Fr w.heap.size (blkM h) w w4):=HF3.out.trans (hf4.mono HF3.out.size (fun _ _ q=>q))
      clear hf4
      go_wp2_with fail
      refine(HW.out _ hm4).mono ?_
      rintro e w5 ⟨rfl,hm5,hf5⟩
      have HF5:Hid (Fr w.heap.size (blkM h) w w5):=HF4.out.trans (hf5.mono HF4.out.size (fun _ _ q=>q))
      have HG:Hid (∃ l',LR h C l' (.int .i64 E) w (.returned (.int .i64 0)) w5∧Rep C.s l0 l' H L'):=⟨l2,⟨by rw[HE8.out],hm5,HF5.out⟩,HR.out⟩
      clear hm3 hm4 hm5 hf5
      go_wp2
      go_ret
      exact HG.out
    · have q1:((a:Int)-1 != (n:Int))=true:=by rw[bne_iff_ne];omega
      have hc:¬ at_ L n=(k:Int):=fun q=>he (hat.2 q)
      have HG:Hid (∃ l',LR h C l' (.int .i64 E) w (.returned (.int .i64 7)) w2∧Rep C.s l0 l' H L'):=by
        have e8:E=7:=HEq.out.trans (if_neg hc)
        have e9:L'=L:=HLq.out.trans (if_neg (by omega))
        exact⟨l,⟨by rw[e8],hm2,HF2.out⟩,by rw[e9];exact HRep.out⟩
      clear hpv hnx hat hm2 hf2 hc
      go_wp2
      go_ret
      exact HG.out
  · rw[if_neg h0,if_neg h0]
    have q1:(r != 0)=true:=by rw[bne_iff_ne];exact h0
    have HG:=Lib.hid (fun w1 (hb:Below w.heap.size w w1)=>(⟨l,hs.only hb _,hr⟩:∃ l',LR h C l' (.int .i64 r) w (.returned (.int .i64 r)) w1∧Rep C.s l0 l' H L))
    clear hrr hs hr
    go_enter Tryz.func116,Tryz.ntmps116
    go_wp2_with fail
    refine HK.out.mono ?_
    rintro e w1 ⟨rfl,hb1⟩
    have HE:=Lib.hid (HG.out _ hb1)
    go_wp2
    go_ret
    exact HE.out
end Go.Proofs.YtmgeiaglandedaaGreatDoor.Lis

namespace Go.Proofs.YtmgeiaglandedaaGreatDoor.Lis
open Go.RowKit Num
open Mem (Mm MemC MRet Hm rd blkM)
set_option linter.unusedVariables false
set_option maxRecDepth 100000 in
set_option maxHeartbeats 2000000 in
theorem begin_any (h:Hm) (C:Cf) (l0 l:List Int) (w:World) (hC:C.Ok) (hs:LM h C l w) (hb:B1 C.s l0 l 0) :
    Calls Tryz.prog 97 #[.pointer (some ⟨h.g,0,none⟩)] w fun e w'=>∃ l',LR h C l' (.int .i64 0) w e w'∧Rep C.s l0 l' (List.replicate C.s (0,0,0)) (List.replicate C.s 0):=by
  have HM:=Lib.hid (made_any h C l w hC hs)
  have hhi:=hC.hi
  have hlo:=hC.lo
  have HL:=Lib.hid (fun(c:Nat) (hc:c<10) l1 V (hv:LM h C l1 V)=>link_any h C l1 c 0 0 V hC hv hc (by omega) (by omega) (-1) (-1) rfl rfl)
  have HCf:=Lib.hid (fun l1 V (hv:LM h C l1 V)=>hv.config)
  have HW:Hid (∀ (k:Nat) l1 V,k<C.s→LM h C l1 V→Calls Tryz.prog 188 #[.pointer (some ⟨h.g,0,none⟩),.int .i64 (k:Int),.agg #[.int .i64 0,.int .i64 0,.int .u32 0,.int .i64 0,.int .i64 0],.slice (some ⟨V.heap.size,0,none⟩) 5 5] (V.alloc (.cells #[.int .i64 0,.int .i64 1,.int .i64 2,.int .i64 3,.int .i64 4] 3)) (LR h C (wrF l1 k Hd.zero [0,1,2,3,4]) (.tuple #[]) V)):=fun k l1 V hk hv =>
    write_row h C l1 k Hd.zero [0,1,2,3,4] V hC hv hk zero_ok (by simp) (fun k=>by rcases k with _ | _ | _ | _ | _ | k<;>simp[List.getD]) (by simp) 3
  have HK:=Lib.hid (fun(k:Nat) l1 V (hk:k<C.s) (hv:LM h C l1 V)=>link_any h C l1 0 k (k+1) V hC hv (by omega) (by omega) (by omega) ((k:Int)-1) (k:Int) rfl (by omega))
  have HS:=Lib.hid hs
  have HB:=Lib.hid hb
  have hfc:=field_cfg
  clear hs hb
  go_enter Tryz.func97,Tryz.ntmps97
  go_wp2_with fail
  refine HM.out.mono ?_
  rintro e w1 ⟨rfl,hb1⟩
  have HL1:=Lib.hid (HS.out.below hb1)
  have HF1:Hid (Fr w.heap.size (blkM h) w w1):=Fr.of_below hb1
  clear hb1
  go_wp2
  go_loopw [8] (fun i wr=>∃ (x:Nat) (l1:List Int),x≤10∧i = .int .i64 x∧Hid (B1 C.s l0 l1 x)∧Hid (LM h C l1 wr)∧Hid (Fr w.heap.size (blkM h) w wr)) (fun i _=>10-(intOf i).toNat)
  case atStart=>exact⟨0,l,by omega,rfl,HB.out,HL1.out,HF1.out⟩
  case round =>
    obtain⟨x,l1,hx,rfl,HB1,HM1,HF⟩:=hrel
    by_cases hlt:x<10
    · have hlt1:(x:Int)<10:=by omega
      have hlt0:(0:Int)≤(x:Int):=by omega
      go_wp2_with fail
      refine(HL.out x hlt l1 _ HM1.out).mono ?_
      rintro e w2 ⟨rfl,hm2,hf2⟩
      have HM2:=Lib.hid hm2
      have HF2:Hid (Fr w.heap.size (blkM h) w w2):=HF.out.trans (hf2.mono HF.out.size (fun _ _ q=>q))
      have HB2:=Lib.hid (HB1.out.step hhi hlt)
      clear hm2 hf2 HM1 HF HB1
      go_wp2
      go_roundw
      case rel=>exact⟨x+1,_,by omega,by go_num,HB2.out,HM2.out,HF2.out⟩
      case measure=>simp[intOf];omega
    · obtain rfl:x=10:=by omega
      go_wp2_with fail
      refine(HCf.out l1 _ HM1.out).mono ?_
      rintro e w2 ⟨rfl,hb2⟩
      have HM2:=Lib.hid (HM1.out.below hb2)
      have HF2:Hid (Fr w.heap.size (blkM h) w w2):=HF.out.trans ((Fr.of_below hb2).mono HF.out.size (fun _ _ q=>q))
      have HB2:=Lib.hid HB1.out.two
      clear hb2 HM1 HF HB1
      go_wp2
      go_loopw [18] (fun i wr=>∃ (k:Nat) (l2:List Int),k≤C.s∧i = .int .i64 k∧Hid (B2 C.s l0 l2 k)∧Hid (LM h C l2 wr)∧Hid (Fr w.heap.size (blkM h) w wr)) (fun i _=>C.s-(intOf i).toNat)
      case atStart=>exact⟨0,l1,by omega,rfl,HB2.out,HM2.out,HF2.out⟩
      case round =>
        obtain⟨k,l2,hk,rfl,HB3,HM3,HF3⟩:=hrel
        by_cases hlt:k<C.s
        · have hlt1:(k:Int)<(C.s:Int):=by omega
          have hlt0:(0:Int)≤(k:Int):=by omega
          have hw1:IntKind.i64.wrap ((k:Int)-1)=(k:Int)-1:=Arn.wrap_id (by omega) (by omega)
          have hw2:wrap64 ((k:Int)-1)=(k:Int)-1:=IntWalk.wrap64_in _ (by omega)
          have HW1:=Lib.hid (HW.out k l2 _ hlt HM3.out)
          have HB4:=Lib.hid (HB3.out.step hhi hlt)
          have HK1:=Lib.hid (fun V (hv:LM h C (wrF l2 k Hd.zero [0,1,2,3,4]) V)=>HK.out k (wrF l2 k Hd.zero [0,1,2,3,4]) V hlt hv)
          generalize wrF l2 k Hd.zero [0,1,2,3,4]=l3 at HW1 HB4 HK1
          generalize lkF l3 0 k (k+1)=l4 at HB4 HK1
          go_wp2_with fail
          refine HW1.out.mono ?_
          rintro e w4 ⟨rfl,hm4,hf4⟩
          have HF4:Hid (Fr w.heap.size (blkM h) w w4):=HF3.out.trans (hf4.mono HF3.out.size (fun _ _ q=>q))
          clear hf4 HF3 HM3
          go_wp2_with fail
          refine(HK1.out _ hm4).mono ?_
          rintro e w5 ⟨rfl,hm5,hf5⟩
          have HF5:Hid (Fr w.heap.size (blkM h) w w5):=HF4.out.trans (hf5.mono HF4.out.size (fun _ _ q=>q))
          have HM5:=Lib.hid hm5
          clear hf5 hm5 hm4
          go_wp2
          go_roundw
          case rel=>exact⟨k+1,_,by omega,by go_num,HB4.out,HM5.out,HF5.out⟩
          case measure=>simp[intOf];omega
        · obtain rfl:k=C.s:=by omega
          have HG:Hid (∃ l',LR h C l' (.int .i64 0) w (.returned (.int .i64 0)) wr∧Rep C.s l0 l' (List.replicate C.s (0,0,0)) (List.replicate C.s 0)):=⟨l2,⟨rfl,HM3.out,HF3.out⟩,HB3.out.done (by omega)⟩
          clear HB3 HM3 HF3
          go_wp2
          go_ret
          exact HG.out
theorem B1.fresh {S:Nat} {l:List Int} (h:128+16*S≤l.length):B1 S l l 0:=⟨h,rfl,fun _ _=>rfl,fun c hc=>by omega⟩
def newCf (S:Nat) (N:Nat):Cf:=⟨S,N,Mem.kinds0 S N,0⟩
theorem newCf_ok {S N:Nat} (h:Lay.rightC (S:Int) (N:Int)=true):(newCf S N).Ok:=by
  obtain⟨s,n,e1,e2,h1,h2,h3,h4,h5,hk⟩:=Mem.kinds0_at h
  obtain rfl:s=S:=by omega
  obtain rfl:n=N:=by omega
  have hl:(Mem.kinds0 (s:Int) (n:Int)).length=Lay.sizeT s n:=by
    rw[Mem.kinds0_length,Lay.sizeC,if_pos h];rfl
  have z1:Lay.sizeT s n=Lay.baseT s n+1024*s:=rfl
  have z2:=(Lay.base_sixteen (s:=s) h3).2
  have z3:Lay.endT s n=128+16*s+4*n:=rfl
  have z4:Lay.slT s=128+16*s:=rfl
  refine⟨h1,h2,h,?_,?_,fun j a b=>?_,fun j a b=>?_⟩
  · show 128+16*s≤(Mem.kinds0 (s:Int) (n:Int)).length
    rw[hl]
    omega
  · show (Mem.kinds0 (s:Int) (n:Int)).length≤1048576
    rw[hl]
    omega
  · show (Mem.kinds0 (s:Int) (n:Int)).getD j 0=2
    rw[hk,Mem.kindT,if_neg (by omega),if_pos b]
  · show (Mem.kinds0 (s:Int) (n:Int)).getD j 0=3
    have b':j<128+16*s:=b
    rw[hk,Mem.kindT,if_neg (by omega),if_neg (by omega),if_pos (by omega)]
end Go.Proofs.YtmgeiaglandedaaGreatDoor.Lis

namespace Go.Proofs.YtmgeiaglandedaaGreatDoor.Lis
open Go.RowKit Num
open Mem (Mm MemC MRet Hm rd blkM)
set_option linter.unusedVariables false
theorem fs_is {S:Nat} {l0 l:List Int} {H:List Hx} {L:List Int} (hr:Rep S l0 l H L) {c v:Nat} (hc:c<10) (hv:Nx L c 0 v):fsC S l c=(v:Int)-1:=by
  obtain⟨u,h1,h2⟩:=hr.chn.fs hc
  rw[h1,nx_one h2 hv]
end Go.Proofs.YtmgeiaglandedaaGreatDoor.Lis

namespace Go.Proofs.YtmgeiaglandedaaGreatDoor.Lis
open Go.RowKit Num Arn
set_option linter.unusedVariables false
open Mem (Mm MemC MRet Hm rd blkM)
end Go.Proofs.YtmgeiaglandedaaGreatDoor.Lis

namespace Go.Proofs.YtmgeiaglandedaaGreatDoor.Lis
open Go.RowKit Num Arn
set_option linter.unusedVariables false
end Go.Proofs.YtmgeiaglandedaaGreatDoor.Lis

namespace Go.Proofs.YtmgeiaglandedaaGreatDoor.Lis
open Go.RowKit Num Arn
open Mem (Mm MemC MRet Hm rd blkM)
set_option linter.unusedVariables false
def gX (A:List Nat) (s:Nat):Nat→Nat×Nat
  | 0=>(0,0)
  | k+1=>if A.getD k 0=s then (if k+1<A.length then A.getD (k+1) 0+1 else (gX A s k).1,if 0<k then A.getD (k-1) 0+1 else (gX A s k).2) else gX A s k
theorem gX_ahead {pre rest:List Nat} {s:Nat} (h:∀ y∈pre,y<s):∀ k,k≤pre.length→gX (pre++s::rest) s k=(0,0)
  | 0,_=>rfl
  | k+1,hk=>by
    have e:(pre++s::rest).getD k 0=pre[k]:=by simp[List.getD,List.getElem?_append,show k<pre.length by omega]
    have:=h _ (List.getElem_mem (show k<pre.length by omega))
    rw[gX,if_neg (by rw[e];omega)]
    exact gX_ahead h k (by omega)
theorem gX_at {pre rest:List Nat} {s:Nat} (h:∀ y∈pre,y<s):gX (pre++s::rest) s (pre.length+1)=(headN rest,lastN pre):=by
  have e:(pre++s::rest).getD pre.length 0=s:=by simp[List.getD]
  rw[gX,if_pos e,gX_ahead h _ (Nat.le_refl _)]
  refine Prod.ext ?_ ?_
  · cases rest with
    | nil=>simp[headN]
    | cons y r =>
      simp[headN,List.getD]
  · rcases List.eq_nil_or_concat pre with rfl | ⟨p,x,rfl⟩
    · rfl
    · rw[List.concat_eq_append] at *
      rw[lastN_snoc]
      simp[List.getD]
theorem gX_behind {pre rest:List Nat} {s:Nat} (h:∀ y∈pre,y<s) (h2:∀ y∈rest,s<y):∀ k,k≤rest.length→gX (pre++s::rest) s (pre.length+1+k)=(headN rest,lastN pre)
  | 0,_=>gX_at h
  | k+1,hk=>by
    have e:(pre++s::rest).getD (pre.length+1+k) 0=rest[k]:=by
      have:pre.length+1+k-pre.length=k+1:=by omega
      simp[List.getD,List.getElem?_append,this,show k<rest.length by omega,show ¬ pre.length+1+k<pre.length by omega]
    have:=h2 _ (List.getElem_mem (show k<rest.length by omega))
    rw[←Nat.add_assoc,gX,if_neg (by rw[e];omega)]
    exact gX_behind h h2 k (by omega)
def nbX (L:List Int) (s:Nat):Nat×Nat:=gX (alI L (at_ L s)) s (alI L (at_ L s)).length
theorem nbX_is {L:List Int} {s:Nat} (h : -1≤at_ L s∧at_ L s≤9):Nxe L s (nbX L s).1∧Pve L s (nbX L s).2:=by
  unfold nbX
  by_cases hm:at_ L s = -1
  · have e:alI L (at_ L s) = []:=by rw[alI,if_neg (by rw[hm];decide)]
    rw[e]
    exact⟨.inl ⟨hm,rfl⟩,.inl ⟨hm,rfl⟩⟩
  · obtain⟨c,hc⟩:∃ c:Nat,at_ L s=c:=⟨(at_ L s).toNat,by omega⟩
    have e:alI L (at_ L s)=allL L (c:Int) 0:=by rw[hc,alI,if_pos (by simp[isL];omega)]
    rw[e]
    obtain⟨pre,rest,hp⟩:=List.append_of_mem (mem_all.2 hc)
    have hs:=all_sorted L (c:Int)
    rw[hp] at hs
    have h1:∀ y∈pre,y<s:=fun y hy=>(List.pairwise_append.1 hs).2.2 y hy s (by simp)
    have h2:∀ y∈rest,s<y:=fun y hy=>(List.pairwise_cons.1 (List.pairwise_append.1 hs).2.1).1 y hy
    have hx:=gX_behind h1 h2 rest.length (Nat.le_refl _)
    rw[hp,show (pre++s::rest).length=pre.length+1+rest.length by simp;omega,hx]
    refine⟨.inr ⟨hm,?_⟩,.inr ⟨hm,?_⟩⟩
    · rw[hc]
      refine split_nx (pre:=pre ++ [s]) (by rw[hp];simp) (fun y hy=>?_) (fun y hy=>by have:=h2 y hy;omega)
      rcases List.mem_append.1 hy with hy | hy
      · have:=h1 y hy;omega
      · simp at hy;omega
    · rw[hc]
      refine split_pv hp h1 (fun y hy=>?_)
      rcases List.mem_cons.1 hy with rfl | hy
      · omega
      · have:=h2 y hy;omega
def gtD (S:Nat) (H:List Hx) (L:List Int) (s:Int):Hd :=
  if 0≤s∧s<(S:Int) then ⟨(H.getD s.toNat (0,0,0)).1,(H.getD s.toNat (0,0,0)).2.1,(H.getD s.toNat (0,0,0)).2.2,(nbX L s.toNat).1,(nbX L s.toNat).2⟩ else Hd.zero
theorem gtH_is {S:Nat} {l0 l:List Int} {H:List Hx} {L:List Int} (h:Rep S l0 l H L) (s:Int):gtH S l s=gtD S H L s:=by
  unfold gtH gtD
  by_cases h0:0≤s∧s<(S:Int)
  · rw[if_pos h0,if_pos h0]
    obtain⟨n,rfl⟩:∃ n:Nat,s=n:=⟨s.toNat,by omega⟩
    rw[Int.toNat_natCast]
    have hn:n<S:=by omega
    obtain⟨q1,q2,q3⟩:=h.head n hn
    obtain⟨v,v1,v2⟩:=h.nxt n hn
    obtain⟨u,u1,u2⟩:=h.prv n hn
    obtain⟨p1,p2⟩:=nbX_is (h.cls n)
    have e1:v=(nbX L n).1:=by
      rcases v2 with⟨a1,rfl⟩ | ⟨a1,a2⟩<;>rcases p1 with⟨b1,b2⟩ | ⟨b1,b2⟩
      · exact b2.symm
      · exact absurd a1 b1
      · exact absurd b1 a1
      · exact nx_one a2 b2
    have e2:u=(nbX L n).2:=by
      rcases u2 with⟨a1,rfl⟩ | ⟨a1,a2⟩<;>rcases p2 with⟨b1,b2⟩ | ⟨b1,b2⟩
      · exact b2.symm
      · exact absurd a1 b1
      · exact absurd b1 a1
      · exact pv_one a2 b2
    rw[←e1,←e2,←q1,←q2,←q3,←v1,←u1]
    rfl
  · rw[if_neg h0,if_neg h0]
end Go.Proofs.YtmgeiaglandedaaGreatDoor.Lis
