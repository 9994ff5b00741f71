/- The statement's nth where there is none; looked. A block is moved, in both. The walk of moved. -/
import Derived.Test.YtmgeiaglandedaaGreatDoorJ30
import Derived.Test.YtmgeiaglandedaaGreatDoorJ31
import Derived.Test.YtmgeiaglandedaaGreatDoorJ27
import Derived.Deep.DeepCutAuto
namespace Go.Proofs.YtmgeiaglandedaaGreatDoor.Ind
open Go.RowKit Num
open Pro
open Mem (Mm MemC MRet Hm rd blkM)
open Sla (Sl St Lv pl aT pV Lo tkF Ts X0)
open Arn (wrL is64)
set_option linter.unusedVariables false
set_option maxRecDepth 100000
section
variable {h:Hm} {l lb lb':List Int} {T T':List Sl} {w0 w w' W W':World} {n g a x y i k k':Nat} {E:List Nat} {B:Nat→Bk} {hm K K':Nat→Nat} {e:Ending} {u v u' v':Value} {A A':List Rb} {b c:Rb} {T2:List Cel}
set_option maxHeartbeats 500000 in
theorem nth_none (d:Rx n W g u v T2 []) (N:Int) :
    Calls Tryz.prog 28 #[.pointer (some ⟨g,0,none⟩),.int .i64 N] W fun e W'=>e = .returned (.tuple #[.agg #[.int .i64 0,.bool false,.int .u32 0,.int .u16 0,.string { data := #[] },.int .u32 0],.bool false])∧Below W.heap.size W W':=by
  obtain⟨w0,hw0⟩:∃ w0,w0=W.alloc (.cells #[.int .i64 0,.bool false,.int .u32 0,.int .u16 0,.string { data := #[] },.int .u32 0] 62):=⟨_,rfl⟩
  have hb0:Below W.heap.size W w0:=by rw[hw0];exact below_made _ _
  have hbx:w0.heap[W.heap.size]? = some (.cells #[.int .i64 0,.bool false,.int .u32 0,.int .u16 0,.string { data := #[] },.int .u32 0] 62 (0,0)):=by rw[hw0];exact heap_alloc_new _ _
  have d2:=d.below hb0
  have c1:w0.cell? ⟨g,1,none⟩=some v:=(cell_block d2.box 1).trans rfl
  obtain⟨va,vc,rfl,v1,v2⟩:=d2.b.row.slice
  rw[show (([]:List Rb).length)=0 from rfl] at c1
  have r0:w0.cell? ⟨W.heap.size,0,none⟩=some (.int .i64 0):=(cell_block hbx 0).trans rfl
  have r1:w0.cell? ⟨W.heap.size,1,none⟩=some (.bool false):=(cell_block hbx 1).trans rfl
  have r2:w0.cell? ⟨W.heap.size,2,none⟩=some (.int .u32 0):=(cell_block hbx 2).trans rfl
  have r3:w0.cell? ⟨W.heap.size,3,none⟩=some (.int .u16 0):=(cell_block hbx 3).trans rfl
  have r4:w0.cell? ⟨W.heap.size,4,none⟩=some (.string { data := #[] }):=(cell_block hbx 4).trans rfl
  have r5:w0.cell? ⟨W.heap.size,5,none⟩=some (.int .u32 0):=(cell_block hbx 5).trans rfl
  have f0:w0.frozen? ⟨W.heap.size,0,none⟩=false:=Hea.frozen_block hbx 0
  have f1:w0.frozen? ⟨W.heap.size,1,none⟩=false:=Hea.frozen_block hbx 1
  have f2:w0.frozen? ⟨W.heap.size,2,none⟩=false:=Hea.frozen_block hbx 2
  have f3:w0.frozen? ⟨W.heap.size,3,none⟩=false:=Hea.frozen_block hbx 3
  have f4:w0.frozen? ⟨W.heap.size,4,none⟩=false:=Hea.frozen_block hbx 4
  have f5:w0.frozen? ⟨W.heap.size,5,none⟩=false:=Hea.frozen_block hbx 5
  have HS:=Lib.hid (s6_heap hbx (.int .i64 0) (.bool false) (.int .u32 0) (.int .u16 0) (.string { data := #[] }) (.int .u32 0))
  have HB:=Lib.hid (hb0.trans (s6_below (W:=w0) (n:=W.heap.size) (k:=W.heap.size) (Nat.le_refl _) (.int .i64 0) (.bool false) (.int .u32 0) (.int .u16 0) (.string { data := #[] }) (.int .u32 0)))
  clear d d2 hbx hb0
  go_enter Tryz.func28,Tryz.ntmps28
  go_upto_region 1 with fail
  rw[←hw0]
  clear hw0
  go_wp2
  show bodyPost _ _ _ _ _ (S6 w0 W.heap.size (.int .i64 0) (.bool false) (.int .u32 0) (.int .u16 0) (.string { data := #[] }) (.int .u32 0))
  generalize S6 w0 W.heap.size (.int .i64 0) (.bool false) (.int .u32 0) (.int .u16 0) (.string { data := #[] }) (.int .u32 0)=W9 at HS HB ⊢
  have q0:=(cell_block HS.out 0).trans rfl
  have q1:=(cell_block HS.out 1).trans rfl
  have q2:=(cell_block HS.out 2).trans rfl
  have q3:=(cell_block HS.out 3).trans rfl
  have q4:=(cell_block HS.out 4).trans rfl
  have q5:=(cell_block HS.out 5).trans rfl
  exact bodyPost_ret (v:=.tuple #[.agg #[.int .i64 0,.bool false,.int .u32 0,.int .u16 0,.string { data := #[] },.int .u32 0],.bool false]) (by simp[results,Tryz.results28,go_sem,q0,q1,q2,q3,q4,q5]) rfl ⟨rfl,HB.out⟩
theorem looked_any (P:Ps w0 h n T E B lb K g u v A k W) (hk:k≤1000) (b:Rb) (hb:b.Ty) :
    Calls Tryz.prog 34 #[pV h,.pointer (some ⟨g,0,none⟩),b.agg] W fun e W'=>e = .returned (.bool true)∧Ps w0 h n T E B lb K g u v A k W'∧Fr W.heap.size (blkM h) W W':=by
  obtain⟨V0,hV0⟩:∃ V0,V0=W.alloc (.cells #[.int .i64 b.pos,.bool b.node,.int .u32 (b.name:Int),.int .u16 (b.typ:Int),.string b.lab,.int .u32 (b.hash:Int)] 62):=⟨_,rfl⟩
  have hb0:Below W.heap.size W V0:=by rw[hV0];exact below_made _ _
  have hbx:V0.heap[W.heap.size]? = some (.cells #[.int .i64 b.pos,.bool b.node,.int .u32 (b.name:Int),.int .u16 (b.typ:Int),.string b.lab,.int .u32 (b.hash:Int)] 62 (0,0)):=by rw[hV0];exact heap_alloc_new _ _
  have hP0:=P.below hb0
  have hgb:¬ blkM h W.heap.size:=fun q=>by have:=P.d.lt _ q;omega
  have hgl:=(Array.getElem?_eq_some_iff.1 hbx).1
  have HG:Hid (∀ V,Fr V0.heap.size (blkM h) V0 V→V.heap[W.heap.size]? = some (.cells #[.int .i64 b.pos,.bool b.node,.int .u32 (b.name:Int),.int .u16 (b.typ:Int),.string b.lab,.int .u32 (b.hash:Int)] 62 (0,0))):=fun V hV=>(hV.block _ hgl hgb).trans hbx
  have HEn:=Lib.hid (fun V (hV:Ps w0 h n T E B lb K g u v A k V)=>hV.entry hk b.name b.typ b.hash hb.hash)
  have HNo:=Lib.hid (fun V (hV:Ps w0 h n T E B lb K g u v A k V)=>hV.node hk b.name b.lab b.hash hb.hash)
  have HF0:Hid (Fr W.heap.size (blkM h) W V0):=Fr.of_below hb0
  have HF:Hid (Fr V0.heap.size (blkM h) V0 V0):=Fr.refl _ _ _
  have HSz:Hid (W.heap.size≤V0.heap.size):=hb0.size
  unfold Rb.agg
  unfold pV at *
  obtain⟨c0,c1,c2,c3,c4,c5⟩:=@box6 V0 V0 h _ _ _ _ _ _ _ (HG.out _ HF.out)
  clear P hbx hgb hgl hb0 hb
  go_enter Tryz.func34,Tryz.ntmps34
  go_upto_region 1 with fail
  rw[←hV0]
  clear hV0
  go_wp2_with fail
  refine(HEn.out _ hP0).mono ?_
  rintro e w1 ⟨p1,o1,rfl,hf1,hP1,hc1⟩
  have HC1:=Lib.hid (hc1 w1 (Below.refl _ _))
  replace HF:=Lib.hid (HF.out.trans (hf1.mono HF.out.size (fun _ _ q=>q)))
  clear hP0 hf1 hc1 HEn c0 c1 c2 c3 c4 c5
  obtain⟨c0,c1,c2,c3,c4,c5⟩:=@box6 w1 w1 h _ _ _ _ _ _ _ (HG.out _ HF.out)
  go_wp2_with fail
  refine HC1.out.mono ?_
  rintro e w2 ⟨rfl,hb2⟩
  have hP2:=hP1.below hb2
  replace HF:=Lib.hid (HF.out.trans ((Fr.of_below hb2).mono HF.out.size (fun _ _ q=>q)))
  clear hP1 hb2 HC1 c0 c1 c2 c3 c4 c5
  obtain⟨c0,c1,c2,c3,c4,c5⟩:=@box6 w2 w2 h _ _ _ _ _ _ _ (HG.out _ HF.out)
  go_wp2_with fail
  refine(HNo.out _ hP2).mono ?_
  rintro e w3 ⟨p2,o2,rfl,hf3,hP3,hc3⟩
  have HC3:=Lib.hid (hc3 w3 (Below.refl _ _))
  replace HF:=Lib.hid (HF.out.trans (hf3.mono HF.out.size (fun _ _ q=>q)))
  clear hP2 hf3 hc3 HNo c0 c1 c2 c3 c4 c5
  obtain⟨c0,c1,c2,c3,c4,c5⟩:=@box6 w3 w3 h _ _ _ _ _ _ _ (HG.out _ HF.out)
  go_wp2_with fail
  refine HC3.out.mono ?_
  rintro e w4 ⟨rfl,hb4⟩
  have HE:Hid (Ps w0 h n T E B lb K g u v A k w4∧Fr W.heap.size (blkM h) W w4):=⟨hP3.below hb4,HF0.out.trans ((HF.out.trans ((Fr.of_below hb4).mono HF.out.size (fun _ _ q=>q))).mono HSz.out (fun _ _ q=>q))⟩
  have t1:((p1:Int) == (p1:Int))=true:=by simp
  have t2:((p2:Int) == (p2:Int))=true:=by simp
  have t3:(o1 == o1)=true:=by simp
  have t4:(o2 == o2)=true:=by simp
  clear hP3 hb4 HC3 c0 c1 c2 c3 c4 c5 HF HG HF0 HSz
  go_wp2
  go_ret
  exact⟨by first | rfl | simp,HE.out⟩
end
end Go.Proofs.YtmgeiaglandedaaGreatDoor.Ind

namespace Go.Proofs.YtmgeiaglandedaaGreatDoor.Ind
open Go.RowKit Num
open Pro
open Mem (Mm MemC MRet Hm rd blkM)
open Sla (Sl St Lv pl aT pV Lo tkF Ts X0)
open Arn (wrL is64)
set_option linter.unusedVariables false
set_option maxRecDepth 100000
section
variable {h:Hm} {l lb lb':List Int} {T T':List Sl} {w0 w w' W W':World} {n g a x y i k k':Nat} {E:List Nat} {B:Nat→Bk} {hm K K':Nat→Nat} {e:Ending} {u v u' v':Value} {A A':List Rb} {b c:Rb} {T2:List Cel}
theorem rx_setV (hbox:W.heap[g]? = some (.cells #[u,v] 76 (0,0))) (hng:n≤g) (ht:CRow W u T2) (ho:OwnR n W v' A') (htn:∀ b,u.ownBlock=some b→n≤b∧b≠g) (hg:v'.ownBlock≠some g) (hd:Dj v' u):Rx n (W.setCell ⟨g,1,none⟩ v') g u v' T2 A':=by
  have hkeep:∀ k,k≠g→(W.setCell ⟨g,1,none⟩ v').heap[k]? = W.heap[k]?:=fun k hk=>Below.heap_setCell _ _ _ _ (fun q=>hk q)
  refine⟨Arn.heap_setCell_own (o:=1) hbox v',hng,?_,?_,htn,hg,hd⟩
  · obtain⟨a,cap,rfl,h2,h3,h4⟩:=ht
    refine⟨a,cap,rfl,h2,h3,fun hne=>?_⟩
    obtain⟨b,o,rfl,hb2,hc⟩:=h4 hne
    have hbg:b≠g:=(htn b rfl).2
    refine⟨b,o,rfl,by simpa using hb2,fun i hi j x hx=>?_⟩
    rw[World.cell?_setCell_other _ _ _ _ (fun q=>hbg (congrArg Addr.block q).symm)]
    exact hc i hi j x hx
  · obtain⟨h1,h2⟩:=ho
    refine⟨h1,?_⟩
    rcases h2 with h2 | ⟨b,cap,cur,rfl,h3,h4,rest⟩
    · exact .inl h2
    · exact .inr ⟨b,cap,cur,rfl,h3,(hkeep b (fun q=>hg (by rw[q];rfl))).trans h4,rest⟩
structure PushR (n:Nat) (W:World) (g:Nat) (u v:Value) (T:List Cel) (A:List Rb) (c:Rb) (v':Value) (W':World):Prop where
  rx:Rx n (W'.setCell ⟨g,1,none⟩ v') g u v' T (A ++ [c])
  fr:Fr W.heap.size (fun k=>k=g∨v.ownBlock=some k) W (W'.setCell ⟨g,1,none⟩ v')
  c1:W'.cell? ⟨g,1,none⟩=some v
  z1:W'.frozen? ⟨g,1,none⟩=false
theorem Rx.push (d:Rx n W g u v T2 A) (hn:n≤W.heap.size) (hT:T2 ≠ []) (hA:A.length≤1000) (c:Rb) :
    ∃ v' W',(Builtin.append_ #[73,73] 73 #[v,.slice (some ⟨W.heap.size,0,none⟩) 1 1]).run Tryz.prog (W.alloc (.cells #[.int .i64 c.pos,.bool c.node,.int .u32 (c.name:Int),.int .u16 (c.typ:Int),.string c.lab,.int .u32 (c.hash:Int)] 62)) = .ok v' W'∧PushR n W g u v T2 A c v' W':=by
  obtain⟨v',W',h1,h2,h3,h4⟩:=push_run c d.b hn hA
  refine⟨v',W',h1,?_⟩
  have hgl:=(Array.getElem?_eq_some_iff.1 d.box).1
  have hbx:W'.heap[g]? = some (.cells #[u,v] 76 (0,0)):=(h3.block g hgl (fun q=>d.bg q.symm)).trans d.box
  have hvg:v'.ownBlock≠some g:=by
    rcases h4 with q | ⟨b,q,hb⟩
    · rw[q];exact d.bg
    · rw[q];intro e;injection e with e;omega
  have ht:CRow W' u T2:=by
    obtain⟨a,cap,rfl,k2,k3,k4⟩:=id d.t
    refine⟨a,cap,rfl,k2,k3,fun hne=>?_⟩
    obtain⟨b,o,rfl,hb2,hc⟩:=k4 hne
    refine⟨b,o,rfl,Nat.lt_of_lt_of_le hb2 h3.size,fun i hi j x hx=>?_⟩
    rw[←hc i hi j x hx]
    unfold World.cell?
    rw[h3.block b hb2 (fun q=>d.d b q.symm rfl)]
  have hdj:Dj v' u:=by
    rcases h4 with q | ⟨b,q,hb⟩
    · intro k hk hu;rw[q] at hk;exact d.d k hk hu
    · intro k hk hu
      rw[q] at hk
      injection hk with hk
      obtain⟨a,cap,rfl,k2,k3,k4⟩:=id d.t
      by_cases hne:T2 = []
      · exact hT hne
      · obtain⟨b2,o,rfl,hb2,-⟩:=k4 hne
        have:b2=k:=by cases hu;rfl
        omega
  refine⟨rx_setV hbx d.ng ht h2 d.tn hvg hdj,?_,(cell_block hbx 1).trans rfl,Hea.frozen_block hbx 1⟩
  have hf:Fr W.heap.size (fun k=>k=g∨v.ownBlock=some k) W W':=Fr.of_grown h3 (Nat.le_refl _) (fun k hk=>.inr (.inr hk))
  exact hf.setCell (p:=⟨g,1,none⟩) (.inr (.inl rfl)) _
structure Pn (w0:World) (h:Hm) (n:Nat) (T:List Sl) (E:List Nat) (B:Nat→Bk) (lb:List Int) (K:Nat→Nat) (g:Nat) (u v:Value) (A:List Rb) (k a:Nat) (b:Rb) (W:World):Prop where
  d:Wi w0 h n T (a::E) (upB B a b.bk) lb K W
  r:Rx n W g u v (tbl (hmB B) K) A
  f:Fp E B A
  z:∀ i,224≤i→K i=0
  kin:∀ i,i<224→K i≠0→K i∈E
  ka:A.length≤k
  ha:a ∉ E
  hf:b.few
  ht:b.Ty
theorem Pn.below (P:Pn w0 h n T E B lb K g u v A k a b W) (hb:Below W.heap.size W W'):Pn w0 h n T E B lb K g u v A k a b W':=⟨P.d.below hb,P.r.below hb,P.f,P.z,P.kin,P.ka,P.ha,P.hf,P.ht⟩
theorem Pn.drew (P:Pn w0 h n T E B lb K g u v A k a b W):Pn w0 h n T E B lb K g u v A k a b W.drew:=P.below (Below.refl _ _).drew
def Pm (w0:World) (h:Hm) (n:Nat) (T:List Sl) (E:List Nat) (B:Nat→Bk) (lb:List Int) (K:Nat→Nat) (g:Nat) (u v:Value) (A:List Rb) (k a:Nat) (b:Rb) (W:World) (v':Value) (W':World):Prop :=
  Ps w0 h n T (a::E) (upB B a b.bk) lb K g u v' (A ++ [{ b with pos:=(a:Int) }]) (k+1) (W'.setCell ⟨g,1,none⟩ v')∧Fr W.heap.size (fun k=>k=g∨v.ownBlock=some k) W (W'.setCell ⟨g,1,none⟩ v')∧W'.cell? ⟨g,1,none⟩=some v∧W'.frozen? ⟨g,1,none⟩=false∧(∀ q,q<224→(K q:Int)≠(a:Int))∧(v'.ownBlock≠some g)
theorem tbl_ne (hm K:Nat→Nat):tbl hm K ≠ []:=fun q=>by have:=tbl_len hm K;rw[q] at this;cases this
theorem Pn.push (P:Pn w0 h n T E B lb K g u v A k a b W) (hk:k≤999) :
    ∃ v' W',(Builtin.append_ #[73,73] 73 #[v,.slice (some ⟨W.heap.size,0,none⟩) 1 1]).run Tryz.prog (W.alloc (.cells #[.int .i64 (a:Int),.bool b.node,.int .u32 (b.name:Int),.int .u16 (b.typ:Int),.string b.lab,.int .u32 (b.hash:Int)] 62)) = .ok v' W'∧Pm w0 h n T E B lb K g u v A k a b W v' W':=by
  have hka:=P.ka
  have ha0:=P.d.facts (.head _)
  obtain⟨v',W',h1,h2⟩:=Rx.push P.r P.d.nn (tbl_ne _ _) (by omega) { b with pos:=(a:Int) }
  refine⟨v',W',h1,?_⟩
  have hne:∀ i,i<224→K i≠0→K i≠a:=fun i hi hk0 e=>P.ha (e ▸ P.kin i hi hk0)
  have hb:Below n W (W'.setCell ⟨g,1,none⟩ v'):=h2.fr.toBelow P.d.nn (fun j hj q=>by
    rcases q with q | q
    · have:=P.r.ng;omega
    · have:=P.r.b.base j q;omega)
  refine⟨⟨P.d.low hb,?_,P.f.push P.ha P.hf P.ht (by unfold is64;omega),P.z,by simp;omega⟩,h2.fr,h2.c1,h2.z1,fun q hq e=>?_,h2.rx.bg⟩
  · have e:tbl (hmB (upB B a b.bk)) K=tbl (hmB B) K:=tbl_congr (fun _ _=>rfl) (fun i hi hk0=>by unfold hmB;rw[upB_ne _ _ (hne i hi hk0)])
    rw[e]
    exact h2.rx
  · have e2:K q=a:=by omega
    exact hne q hq (by omega) e2
theorem Ps.block (P:Ps w0 h n T E B lb K g u v A k W) (b:Rb) (hb:b.Ty) (hf:b.few):Calls Tryz.prog 38 #[pV h,b.agg] W fun e W'=>∃ a:Nat,e = .returned ({ b with pos:=(a:Int) } : Rb).agg∧Fr W.heap.size (blkM h) W W' ∧
    ((a=0∧∃ lb',Ps w0 h n T E B lb' K g u v A k W')∨(a≠0∧∃ lb' T',Pn w0 h n T' E B lb' K g u v A k a b W')):=by
  refine(P.d.block b hb hf).mono ?_
  rintro e W' ⟨a,he,hfr,⟨h0,-,lb',hd⟩ | ⟨h0,hE,-,lb',hd⟩⟩
  · exact⟨a,he,hfr,.inl ⟨h0,lb',P.code hd hfr⟩⟩
  · exact⟨a,he,hfr,.inr ⟨h0,lb',_,hd,P.r.fr hfr P.d.lo,P.f,P.z,fun i hi hk=>P.d.ix.kin hi hk,P.ka,hE,hf,hb⟩⟩
end
end Go.Proofs.YtmgeiaglandedaaGreatDoor.Ind

namespace Go.Proofs.YtmgeiaglandedaaGreatDoor.Ind
open Go.RowKit Num
open Pro
open Mem (Mm MemC MRet Hm rd blkM)
open Sla (Sl St Lv pl aT pV Lo tkF Ts X0)
open Arn (wrL is64)
set_option linter.unusedVariables false
set_option maxRecDepth 100000
def PsX (w0:World) (h:Hm) (n g k:Nat) (W:World):Prop:=∃ T E B lb K u v A,Ps w0 h n T E B lb K g u v A k W
def prR (p:Int) (c:Rb):Bool:=decide (c.pos≠p)
section
variable {h:Hm} {l lb lb':List Int} {T T':List Sl} {w0 w w' W W':World} {n g a x y i k k':Nat} {E:List Nat} {B:Nat→Bk} {hm K K':Nat→Nat} {e:Ending} {u v u' v':Value} {A A':List Rb} {b c:Rb} {T2:List Cel}
theorem Ps.ex (P:Ps w0 h n T E B lb K g u v A k W):PsX w0 h n g k W:=⟨_,_,_,_,_,_,_,_,P⟩
theorem getD_l (A:List Rb) (c:Rb) {i:Nat} (hi:i<A.length):(A ++ [c]).getD i Rb.zero=A.getD i Rb.zero:=by
  rw[getR _ (by simp;omega),getR A hi,List.getElem_append_left hi]
theorem getD_r (A:List Rb) (c:Rb):(A ++ [c]).getD A.length Rb.zero=c:=by
  rw[getR _ (by simp),List.getElem_append_right (Nat.le_refl _)]
  simp
theorem filt_yes {pr:Rb→Bool} {s:Nat} (hs:s<A.length) (h:pr (A.getD s Rb.zero)=true):(A.take (s+1)).filter pr=(A.take s).filter pr ++ [A.getD s Rb.zero]:=by
  rw[getR A hs] at h ⊢
  rw[List.take_succ_eq_append_getElem hs,List.filter_append]
  simp[h]
theorem filt_no {pr:Rb→Bool} {s:Nat} (hs:s<A.length) (h:pr (A.getD s Rb.zero)=false):(A.take (s+1)).filter pr=(A.take s).filter pr:=by
  rw[getR A hs] at h
  rw[List.take_succ_eq_append_getElem hs,List.filter_append]
  simp[h]
theorem push_own (c:Rb) {n0:Nat} (d:OwnR n0 W u A) (hn:n0≤W.heap.size) (hA:A.length≤1000) (hb:Below n0 w W) :
    ∃ u' W',(Builtin.append_ #[73,73] 73 #[u,.slice (some ⟨W.heap.size,0,none⟩) 1 1]).run Tryz.prog (W.alloc (.cells #[.int .i64 c.pos,.bool c.node,.int .u32 (c.name:Int),.int .u16 (c.typ:Int),.string c.lab,.int .u32 (c.hash:Int)] 62)) = .ok u' W'∧OwnR n0 W' u' (A ++ [c])∧Below n0 w W':=by
  obtain⟨u',W',h1,h2,h3,h4⟩:=push_run c d hn hA
  exact⟨u',W',h1,h2,hb.trans (grown_low h3 hn d.base)⟩
theorem Ps.less (P:Ps w0 h n T E B lb K g u v A k W) {n0:Nat} (hn0:n0=W.heap.size) {w2:World} (hb:Below n0 W w2) {l:Value} (ho:OwnR n0 w2 l (A.filter (prR (x:Int)))) :
    Wi w0 h n T E B lb K (w2.setCell ⟨g,1,none⟩ l)∧Rx n (w2.setCell ⟨g,1,none⟩ l) g u l (tbl (hmB B) K) (A.filter (prR (x:Int))):=by
  subst hn0
  have P2:=P.below hb
  have hgl:=(Array.getElem?_eq_some_iff.1 P.r.box).1
  refine⟨P2.d.low ((Below.refl _ _).setCell (p:=⟨g,1,none⟩) P.r.ng _),rx_setV P2.r.box P.r.ng P2.r.t (ho.lower P.d.nn) P.r.tn (fun q=>by have:=ho.base g q;omega) (fun b hb1 hb2=>?_)⟩
  have h1:=ho.base b hb1
  obtain⟨a,cap,rfl,k2,k3,k4⟩:=id P.r.t
  obtain⟨b2,o,rfl,hb3,-⟩:=k4 (tbl_ne _ _)
  have:b2=b:=by cases hb2;rfl
  omega
theorem Ps.given (P:Ps w0 h n T E B lb K g u v A k W) (hx:x∈E) (hno:∀ q,q<224→(K q:Int)≠(x:Int)) {W:World} (d:Wi w0 h n T E B lb K W) (r:Rx n W g u v' (tbl (hmB B) K) (A.filter (prR (x:Int)))) :
    Calls Tryz.prog 52 #[pV h,.int .i64 (x:Int)] W fun e W'=>e = .returned (.int .i64 0)∧PsX w0 h n g k W':=by
  refine(d.give hx (fun q hq e=>hno q hq (by rw[e]))).mono ?_
  rintro e W' ⟨T',lb',rfl,hd,hf⟩
  refine⟨rfl,T',_,B,lb',K,u,v',_,hd,r.fr hf d.lo,P.f.rm x,P.z,?_⟩
  exact Nat.le_trans (List.length_filter_le _ _) P.ka
set_option maxHeartbeats 4000000 in
theorem moved_any (P:Ps w0 h n T E B lb K g u v A k W) (hi:i<A.length) (hk:k≤990) :
    Calls Tryz.prog 33 #[pV h,.pointer (some ⟨g,0,none⟩),(A.getD i Rb.zero).agg] W fun e W'=>e = .returned (.bool true)∧PsX w0 h n g (k+1) W':=by
  obtain⟨x,hx1,hx2,-,-,-,-,-,-⟩:=P.kth hi
  have hfw:=P.f.fw _ (memR hi)
  have HI:Hid (i<A.length):=hi
  obtain⟨c,hc⟩:∃ c,c=A.getD i Rb.zero:=⟨_,rfl⟩
  rw[←hc] at hx1 hfw ⊢
  have HCc:Hid (c=A.getD i Rb.zero):=hc
  have HX:Hid (c.pos=(x:Int)∧x∈E):=⟨hx1,hx2⟩
  obtain⟨V0,hV0⟩:∃ V0,V0=W.alloc (.cells #[.int .i64 c.pos,.bool c.node,.int .u32 (c.name:Int),.int .u16 (c.typ:Int),.string c.lab,.int .u32 (c.hash:Int)] 62):=⟨_,rfl⟩
  have hb0:Below W.heap.size W V0:=by rw[hV0];exact below_made _ _
  have hbx:V0.heap[W.heap.size]? = some (.cells #[.int .i64 c.pos,.bool c.node,.int .u32 (c.name:Int),.int .u16 (c.typ:Int),.string c.lab,.int .u32 (c.hash:Int)] 62 (0,0)):=by rw[hV0];exact heap_alloc_new _ _
  have hP0:=P.below hb0
  have hgl:=(Array.getElem?_eq_some_iff.1 hbx).1
  have HBl:=Lib.hid (hP0.block c hfw.2 hfw.1)
  have hbg:g<W.heap.size:=(Array.getElem?_eq_some_iff.1 P.r.box).1
  have hbv:∀ q,v.ownBlock=some q→q<W.heap.size:=P.r.b.lt
  have hbm:∀ q,blkM h q→q<W.heap.size:=P.d.lt
  obtain⟨bb,hbb⟩:∃ bb,bb=W.heap.size:=⟨_,rfl⟩
  rw[←hbb] at hbx hgl hbg hbv hbm
  have HGb:Hid (g<bb∧(∀ q,v.ownBlock=some q→q<bb)∧∀ q,blkM h q→q<bb):=⟨hbg,hbv,hbm⟩
  obtain⟨c0,c1,c2,c3,c4,c5⟩:=@box6 V0 V0 h _ _ _ _ _ _ _ hbx
  have HBX:=Lib.hid hbx
  unfold Rb.agg at HBl ⊢
  unfold pV at *
  clear P hc hfw hx1 hx2 hb0 hbx hP0 hbg hbv hbm hi
  go_enter Tryz.func33,Tryz.ntmps33
  go_upto_region 1 with fail
  rw[←hV0,←hbb]
  clear hV0 hbb
  go_wp2_with fail
  refine HBl.out.mono ?_
  rintro e w1 ⟨a,rfl,hf1,hcs⟩
  have hbx1:=(hf1.block _ hgl (fun q=>by have:=HGb.out.2.2 _ q;omega)).trans HBX.out
  clear c0 c1 c2 c3 c4 c5 HBX HBl hf1 hgl
  rcases hcs with⟨rfl,lb1,hP1⟩ | ⟨ha0,lb1,T1,hP1⟩
  · have HE:Hid (PsX w0 h n g (k+1) (w1.alloc (.cells #[.int .i64 0,.bool c.node,.int .u32 (c.name:Int),.int .u16 (c.typ:Int),.string c.lab,.int .u32 (c.hash:Int)] 62))):=((hP1.below (below_made _ _)).next (Nat.le_succ k)).ex
    rw[show ((0:Nat):Int)=0 from rfl]
    clear hP1 hbx1 HGb HX HCc HI
    go_wp2
    go_ret
    exact⟨rfl,HE.out⟩
  · have ha1:((a:Int) == 0)=false:=by rw[beq_eq_false_iff_ne];omega
    obtain⟨nb,hnb⟩:∃ nb,nb=w1.heap.size:=⟨_,rfl⟩
    obtain⟨W2,hW2⟩:∃ W2,W2=w1.alloc (.cells #[.int .i64 (a:Int),.bool c.node,.int .u32 (c.name:Int),.int .u16 (c.typ:Int),.string c.lab,.int .u32 (c.hash:Int)] 62):=⟨_,rfl⟩
    have hb2:Below w1.heap.size w1 W2:=by rw[hW2];exact below_made _ _
    have hnx:W2.heap[nb]? = some (.cells #[.int .i64 (a:Int),.bool c.node,.int .u32 (c.name:Int),.int .u16 (c.typ:Int),.string c.lab,.int .u32 (c.hash:Int)] 62 (0,0)):=by rw[hW2,hnb];exact heap_alloc_new _ _
    have hP2:=hP1.below hb2
    have hbl1:=(Array.getElem?_eq_some_iff.1 hbx1).1
    have hbx2:=(hb2.block bb hbl1).trans hbx1
    have hbn:bb<nb:=by omega
    have hW2s:nb<W2.heap.size:=(Array.getElem?_eq_some_iff.1 hnx).1
    have HB2:Hid (W2.heap[bb]? = some (.cells #[.int .i64 c.pos,.bool c.node,.int .u32 (c.name:Int),.int .u16 (c.typ:Int),.string c.lab,.int .u32 (c.hash:Int)] 62 (0,0))∧W2.heap[nb]? = some (.cells #[.int .i64 (a:Int),.bool c.node,.int .u32 (c.name:Int),.int .u16 (c.typ:Int),.string c.lab,.int .u32 (c.hash:Int)] 62 (0,0))∧bb<nb∧nb<W2.heap.size):=⟨hbx2,hnx,hbn,hW2s⟩
    have HPn:=Lib.hid hP2
    have HD2:=Lib.hid hP2.drew
    obtain⟨c0,c1,c2,c3,c4,c5⟩:=@box6 W2 W2 h _ _ _ _ _ _ _ hnx
    have g1:W2.cell? ⟨g,1,none⟩=some v:=(cell_block hP2.r.box 1).trans rfl
    have hal:=below_made W2 (.cells #[.int .i64 (a:Int),.bool c.node,.int .u32 (c.name:Int),.int .u16 (c.typ:Int),.string c.lab,.int .u32 (c.hash:Int)] 62)
    have g2:(W2.alloc (.cells #[.int .i64 (a:Int),.bool c.node,.int .u32 (c.name:Int),.int .u16 (c.typ:Int),.string c.lab,.int .u32 (c.hash:Int)] 62)).cell? ⟨g,1,none⟩=some v:=(hal.cell (p:=⟨g,1,none⟩) (Array.getElem?_eq_some_iff.1 hP2.r.box).1).trans g1
    clear hP1 hP2 hb2 hnx hbx1 hbx2 hbl1 hbn hW2s hal
    go_upto_region 4 with fail
    rw[←hW2,←hnb]
    clear hW2 hnb
    have hk9:k≤999:=by omega
    obtain⟨v2,W3',hrun2,hm2⟩:=HD2.out.push hk9
    obtain⟨-,-,x3,x4,-,-⟩:=id hm2
    obtain⟨va2,vc2,rfl,-,-⟩:=(id hm2).1.r.b.row.slice
    have HM2:=Lib.hid hm2
    clear hm2
    obtain⟨W4,hW4⟩:∃ W4,W4=W3'.setCell ⟨g,1,none⟩ (.slice va2 (A ++ [{ c with pos:=(a:Int) }]).length vc2):=⟨_,rfl⟩
    go_cut [24] from 17 to 26 (fun s24 wc=>wc=W4)
    case first =>
      rw[List.length_append,List.length_singleton] at hrun2 hW4
      go_region_law (first
        | (refine step_append_run (by rfl) (.tmp 21) (.tmp 23) 73 _ (by rfl) (by rfl) _ _ _ W3' (by rfl) (by rfl) hrun2 ?_))
      all_goals go_wp2_with fail
      all_goals go_meet
      all_goals exact hW4.symm
    case rest =>
      subst hcut
      obtain⟨hP4,hf4,-,-,hkq,-⟩:=HM2.out
      rw[←hW4] at hP4 hf4
      clear hrun2 x3 x4 HM2 c0 c1 c2 c3 c4 c5 g1 g2 hW4
      have hi1:=HI.out
      have hbv:¬ (bb=g∨v.ownBlock=some bb):=by
        rintro (q | q)
        · have:=HGb.out.1;omega
        · have:=HGb.out.2.1 _ q;omega
      have hnv:¬ (nb=g∨v.ownBlock=some nb):=by
        have h3:=HB2.out.2.2.1
        rintro (q | q)
        · have:=HGb.out.1;omega
        · have:=HGb.out.2.1 _ q;omega
      have hbm:¬ blkM h bb:=fun q=>by have:=HGb.out.2.2 _ q;omega
      have hnm:¬ blkM h nb:=fun q=>by have:=HGb.out.2.2 _ q;have:=HB2.out.2.2.1;omega
      have hbl:bb<W2.drew.heap.size:=by show bb<W2.heap.size;have:=HB2.out.2.2;omega
      have hnl:nb<W2.drew.heap.size:=HB2.out.2.2.2
      have hbb4:wc.heap[bb]? = some (.cells #[.int .i64 c.pos,.bool c.node,.int .u32 (c.name:Int),.int .u16 (c.typ:Int),.string c.lab,.int .u32 (c.hash:Int)] 62 (0,0)):=(hf4.block bb hbl hbv).trans HB2.out.1
      have hnb4:wc.heap[nb]? = some (.cells #[.int .i64 (a:Int),.bool c.node,.int .u32 (c.name:Int),.int .u16 (c.typ:Int),.string c.lab,.int .u32 (c.hash:Int)] 62 (0,0)):=(hf4.block nb hnl hnv).trans HB2.out.2.1
      have HNe:Hid (bb≠g∧nb≠g∧¬ blkM h bb∧¬ blkM h nb):=⟨fun q=>hbv (.inl q),fun q=>hnv (.inl q),hbm,hnm⟩
      have HMv:=Lib.hid (hP4.move (i:=i) (j:=A.length) (by simp;omega) (by simp) (fun q hq=>by rw[getD_r];exact hkq q hq) (by omega))
      rw[getD_l _ _ hi1,getD_r,←HCc.out] at HMv
      simp only at HMv
      obtain⟨c0,c1,c2,c3,c4,c5⟩:=@box6 wc wc h _ _ _ _ _ _ _ hbb4
      obtain⟨m0,m1,m2,m3,m4,m5⟩:=@box6 wc wc h _ _ _ _ _ _ _ hnb4
      unfold pV at HMv
      clear hP4 hf4 hkq hbv hnv hbm hnm hbl hnl HB2 HD2 HPn hi1 c1 c2 c3 c4 c5 m1 m2 m3 m4 m5
      go_wp2_with fail
      refine HMv.out.mono ?_
      rintro e w5 ⟨r,rfl,hf5,hc5⟩
      have hbb5:=(hf5.block bb (Array.getElem?_eq_some_iff.1 hbb4).1 HNe.out.2.2.1).trans hbb4
      have hnb5:=(hf5.block nb (Array.getElem?_eq_some_iff.1 hnb4).1 HNe.out.2.2.2).trans hnb4
      have HC5:=Lib.hid (hc5 w5 (Below.refl _ _))
      clear hf5 hc5 HMv c0 m0 hbb4 hnb4
      obtain⟨c0,c1,c2,c3,c4,c5⟩:=@box6 w5 w5 h _ _ _ _ _ _ _ hbb5
      obtain⟨m0,m1,m2,m3,m4,m5⟩:=@box6 w5 w5 h _ _ _ _ _ _ _ hnb5
      clear c1 c2 c3 c4 c5 m1 m2 m3 m4 m5
      go_wp2_with fail
      refine HC5.out.mono ?_
      rintro e w6 ⟨rfl,hf6,K6,u6,hP6,hno⟩
      have hbb6:=(hf6.block bb (Array.getElem?_eq_some_iff.1 hbb5).1 HNe.out.1).trans hbb5
      have HP6:=Lib.hid hP6
      have t1:(r != r)=false:=by simp
      clear hf6 hP6 HC5 c0 m0 hbb5 hnb5
      by_cases hr0:r=0
      · have HNo:Hid (∀ q,q<224→(K6 q:Int)≠(x:Int)):=fun q hq=>by
          have:=hno hr0 (by have:=HI.out;omega) q hq
          rw[HX.out.1] at this
          exact this
        have HX2:Hid (x∈a::E):=List.mem_cons_of_mem _ HX.out.2
        have HXp:Hid (c.pos=(x:Int)):=HX.out.1
        have HBb:=Lib.hid hbb6
        obtain⟨A2,hA2⟩:∃ A2,A2=A ++ [{ c with pos:=(a:Int) }]:=⟨_,rfl⟩
        rw[←hA2] at HP6
        have hla:A2.length≤1000:=by have:=HP6.out.ka;omega
        have HGx:Hid (∀ V,Below w6.heap.size w6 V→V.cell? ⟨g,1,none⟩=some (.slice va2 A2.length vc2)∧V.frozen? ⟨g,1,none⟩=false∧V.cell? ⟨bb,0,none⟩=some (.int .i64 c.pos)∧RRow V (.slice va2 A2.length vc2) A2):=fun V hV =>
          ⟨(cell_block (HP6.out.below hV).r.box 1).trans rfl,Hea.frozen_block (HP6.out.below hV).r.box 1,(cell_block ((hV.block _ (Array.getElem?_eq_some_iff.1 HBb.out).1).trans HBb.out) 0).trans rfl,(HP6.out.below hV).r.b.row⟩
        obtain⟨g1,g2,g3,-⟩:=HGx.out w6 (Below.refl _ _)
        rw[HXp.out] at HGx g3
        subst hr0
        have HBg:Hid (bb≠g):=HNe.out.1
        clear hno hbb6 hA2 HX HCc HI HNe
        go_wp2
        go_loopw [9,10] (fun sv iv wr=>∃ s:Nat,s≤A2.length∧iv = .int .i64 s∧Hid (OwnR w6.heap.size wr sv ((A2.take s).filter (prR (x:Int))))∧Hid (Below w6.heap.size w6 wr)) (fun _ iv _=>A2.length-(intOf iv).toNat)
        case atStart=>exact⟨0,Nat.zero_le _,rfl,World.ownsRow_nil _ _ _ _,Below.refl _ _⟩
        case round =>
          clear g1 g2 g3
          obtain⟨s,hs,rfl,HO,HB⟩:=hrel
          obtain⟨g1,g2,g3,hrow⟩:=HGx.out wr HB.out
          by_cases hlt:s<A2.length
          · have hlt1:(s:Int)<(A2.length:Int):=by omega
            have hlt0:(0:Int)≤(s:Int):=by omega
            have hkw:IntKind.i64.wrap ((s:Int)+1)=((s+1:Nat):Int):=(Ind.wrap_id (by omega) (by omega)).trans (by omega)
            obtain⟨gv,o,rfl,-,hc⟩:=hrow.at hlt
            have HFy:=Lib.hid (fun hq=>filt_yes (pr:=prR (x:Int)) hlt hq)
            have HFn:=Lib.hid (fun hq=>filt_no (pr:=prR (x:Int)) hlt hq)
            obtain⟨z,hz⟩:∃ z,z=A2.getD s Rb.zero:=⟨_,rfl⟩
            rw[←hz] at hc HFy HFn
            have HLn:Hid (((A2.take s).filter (prR (x:Int))).length≤1000):=by
              have h1:=List.length_filter_le (prR (x:Int)) (A2.take s)
              have h2:=List.length_take_le s A2
              unfold Hid
              omega
            generalize (A2.take s).filter (prR (x:Int))=F at *
            have d0:World.cell? wr ⟨gv,o+s*6,none⟩=some (.int .i64 z.pos):=hc 0 _ rfl
            have HD:Hid (∀ V,Below wr.heap.size wr V→V.cell? ⟨g,1,none⟩=some (.slice (some ⟨gv,o,none⟩) A2.length vc2)∧V.cell? ⟨gv,o+s*6,none⟩=some (.int .i64 z.pos)∧V.cell? ⟨gv,o+s*6+1,none⟩=some (.bool z.node)∧V.cell? ⟨gv,o+s*6+2,none⟩=some (.int .u32 (z.name:Int))∧V.cell? ⟨gv,o+s*6+3,none⟩=some (.int .u16 (z.typ:Int))∧V.cell? ⟨gv,o+s*6+4,none⟩=some (.string z.lab)∧V.cell? ⟨gv,o+s*6+5,none⟩=some (.int .u32 (z.hash:Int))):=fun V hV=>by
              obtain⟨q1,-,-,q4⟩:=HGx.out V (HB.out.trans (hV.mono HB.out.size))
              obtain⟨gv',o',e,-,hc'⟩:=q4.at hlt
              injection e with e
              injection e with e1 e2
              subst e1 e2
              rw[←hz] at hc'
              exact⟨q1,hc' 0 _ rfl,hc' 1 _ rfl,hc' 2 _ rfl,hc' 3 _ rfl,hc' 4 _ rfl,hc' 5 _ rfl⟩
            clear hc hrow hz g2 hlt
            by_cases hzp:z.pos=(x:Int)
            · have t2:(z.pos != (x:Int))=false:=by simp[hzp]
              have HF2:=Lib.hid (HFn.out (by unfold prR;simp[hzp]))
              clear HFy HFn hzp HD
              go_wp2_with fail
              go_quiet (fail)
              have HB2:=Lib.hid (HB.out.trans ((below_drewN (Below.refl _ _) nq).mono HB.out.size))
              have HO2:=Lib.hid (OwnR.below HO.out (below_drewN (Below.refl _ _) nq))
              generalize wr.drewN nq=wz at HB2 HO2 ⊢
              clear d0 g1 g3 HB HO
              go_wp2
              go_roundw
              case rel=>exact⟨s+1,by omega,by go_num,by unfold Hid;rw[HF2.out];exact HO2.out,HB2.out⟩
              case measure=>simp[intOf];omega
            · have t2:(z.pos != (x:Int))=true:=by simp[hzp]
              have HF2:=Lib.hid (HFy.out (by unfold prR;simp[hzp]))
              clear HFy HFn hzp
              go_wp2_with fail
              go_quiet (fail)
              have hw0:=below_drewN (Below.refl wr.heap.size wr) nq
              have HB2:=Lib.hid (HB.out.trans (hw0.mono HB.out.size))
              have HO2:=Lib.hid (OwnR.below HO.out hw0)
              have hd2:=HD.out _ hw0
              generalize wr.drewN nq=wz at HB2 HO2 hd2 ⊢
              obtain⟨q1,q2,q3,q4,q5,q6,q7⟩:=hd2
              obtain⟨u9',w9,hrun9,ho9,hb9⟩:=push_own z HO2.out HB2.out.size HLn.out HB2.out
              have HRun:=Lib.hid hrun9
              have HO9:=Lib.hid ho9
              have HB9:=Lib.hid hb9
              clear d0 g1 g3 HB HO hw0 hrun9 ho9 hb9 HD
              go_wp2_with (at_builtin;refine wpList_append_run rfl (.tmp 63) (.tmp 71) 73 73 rfl rfl _ _ _ _ rfl rfl HRun.out ?_)
              go_roundw
              case rel=>exact⟨s+1,by omega,by go_num,by unfold Hid;rw[HF2.out];exact HO9.out,HB9.out⟩
              case measure=>simp[intOf];omega
          · obtain rfl:s=A2.length:=by omega
            rw[List.take_length] at HO
            have hls:=HP6.out.less rfl HB.out HO.out
            have HGv:=Lib.hid (HP6.out.given HX2.out HNo.out hls.1 hls.2)
            obtain⟨al,cl,rfl,-,-⟩:=(OwnR.row HO.out).slice
            have HNg:Hid (bb≠g):=HBg.out
            have g4:=(show (wr.setCell ⟨g,1,none⟩ (.slice al (A2.filter (prR (x:Int))).length cl)).cell? ⟨bb,0,none⟩=some (.int .i64 (x:Int)) from sc_keep HNg.out g3)
            generalize (A2.filter (prR (x:Int))).length=ln at *
            unfold pV at HGv
            clear hls hrow hlt HO
            go_wp2_with fail
            refine HGv.out.mono ?_
            rintro e w9 ⟨rfl,hx9⟩
            have HE:=Lib.hid hx9
            clear hx9 HGv g1 g2 g3 g4
            go_wp2
            go_ret
            exact⟨rfl,HE.out⟩
      · have HE:=Lib.hid HP6.out.ex
        have t2:(r != 0)=true:=by simpa using hr0
        clear hno hr0 HP6 hbb6
        go_wp2
        go_ret
        exact⟨rfl,HE.out⟩
end
end Go.Proofs.YtmgeiaglandedaaGreatDoor.Ind
