/- The document's index: what it holds; find, home. The document's index: Insert, Delete. The document's index: Place. The document's index: New; the statement's nth. The statement's same: the slots are the document's cells. The document's table: a cell holds another place. The document's index: Move. -/
import Derived.Test.YtmgeiaglandedaaGreatDoorJ22
import Derived.Test.YtmgeiaglandedaaGreatDoorJ3
import Derived.Test.YtmgeiaglandedaaGreatDoorJ25
import Derived.Test.YtmgeiaglandedaaGreatDoorJ1
import Derived.BigQuiet
import Derived.Deep.RegionHeld3
import Derived.Deep.Cut
import Derived.Test.YtmgeiaglandedaaGreatDoorJ23
import Derived.Test.YtmgeiaglandedaaGreatDoorJ0
namespace Go.Proofs.YtmgeiaglandedaaGreatDoor.Ind
open Go.RowKit Num
open Pro
open Mem (Mm MemC MRet Hm rd blkM)
open Arn (wrL is64)
set_option linter.unusedVariables false
set_option maxRecDepth 100000
structure Rx (n:Nat) (W:World) (g:Nat) (u v:Value) (T:List Cel) (A:List Rb):Prop where
  box:W.heap[g]? = some (.cells #[u,v] 76 (0,0))
  ng:n≤g
  t:CRow W u T
  b:OwnR n W v A
  tn:∀ b,u.ownBlock=some b→n≤b∧b≠g
  bg:v.ownBlock≠some g
  d:Dj v u
def fdK (A:List Rb) (p:Int):Nat:=sk (fun j=>decide ((A.getD j Rb.zero).pos=p)) A.length
def fdR (A:List Rb) (p:Int):Int:=if fdK A p<A.length then (fdK A p:Int) else -1
theorem fdR_here {A:List Rb} {p:Int} {i:Nat} (hi:i<A.length) (h1:∀ j,j<i→(A.getD j Rb.zero).pos≠p) (h2:(A.getD i Rb.zero).pos=p):fdR A p=i:=by
  have:fdK A p=i:=sk_eq (Nat.le_of_lt hi) (fun j hj=>by simpa using h1 j hj) (fun _=>by simpa using h2)
  unfold fdR
  rw[this,if_pos hi]
theorem fdR_none {A:List Rb} {p:Int} (h:∀ j,j<A.length→(A.getD j Rb.zero).pos≠p):fdR A p = -1:=by
  have:fdK A p=A.length:=sk_eq (Nat.le_refl _) (fun j hj=>by simpa using h j hj) (fun h=>absurd h (Nat.lt_irrefl _))
  unfold fdR
  rw[this,if_neg (Nat.lt_irrefl _)]
theorem rfind_any (g:Nat) (u v:Value) (A:List Rb) (p:Int) (w:World) (hb:w.heap[g]? = some (.cells #[u,v] 76 (0,0))) (hr:RRow w v A) (hn:A.length≤1000) :
    Calls Tryz.prog 72 #[.pointer (some ⟨g,0,none⟩),.int .i64 p] w fun e w'=>e = .returned (.int .i64 (fdR A p))∧w=w':=by
  have c0:w.cell? ⟨g,0,none⟩=some u:=(cell_block hb 0).trans rfl
  have c1:w.cell? ⟨g,1,none⟩=some v:=(cell_block hb 1).trans rfl
  have HR:=Lib.hid hr
  obtain⟨a,cap,rfl,q1,q2⟩:=hr.slice
  have HY:=Lib.hid (fun i hi h1 h2=>fdR_here (A:=A) (p:=p) (i:=i) hi h1 h2)
  have HN:=Lib.hid (fdR_none (A:=A) (p:=p))
  clear hr hb
  go_enter Tryz.func72,Tryz.ntmps72
  go_wp2
  go_loopw [5] (fun i wr=>∃ k:Nat,k≤A.length∧i = .int .i64 k∧w=wr∧Hid (∀ j,j<k→(A.getD j Rb.zero).pos≠p)) (fun i _=>A.length-(intOf i).toNat)
  case atStart=>exact⟨0,Nat.zero_le _,rfl,rfl,fun j hj=>by omega⟩
  case round =>
    obtain⟨k,hk,rfl,rfl,HK⟩:=hrel
    by_cases hlt:k<A.length
    · have hlt1:(k:Int)<(A.length:Int):=by omega
      have hlt0:(0:Int)≤(k:Int):=by omega
      obtain⟨g',o,rfl,hgl,hc⟩:=HR.out.at hlt
      have d0:w.cell? ⟨g',o+k*6,none⟩=some (.int .i64 (A.getD k Rb.zero).pos):=hc 0 _ rfl
      have HYk:=Lib.hid (HY.out k hlt HK.out)
      have HKn:Hid ((A.getD k Rb.zero).pos≠p→∀ j,j<k+1→(A.getD j Rb.zero).pos≠p):=fun q j hj=>by
        by_cases e:j=k
        · subst e;exact q
        · exact HK.out j (by omega)
      clear hc HK
      generalize (A.getD k Rb.zero).pos=z at *
      by_cases hz:z=p
      · have HF:=Lib.hid (HYk.out hz)
        have hz1:(z == p)=true:=by simp[hz]
        clear HKn HYk hz
        go_wp2
        go_ret
        exact⟨ret_int HF.out.symm,rfl⟩
      · have hz1:(z == p)=false:=by simp[hz]
        have HK2:=Lib.hid (HKn.out hz)
        clear HKn HYk hz
        go_wp2
        go_roundw
        case rel=>exact⟨k+1,by omega,by go_num,by first | rfl | trivial,HK2⟩
        case measure=>simp[intOf];omega
    · obtain rfl:k=A.length:=by omega
      have HF:=Lib.hid (HN.out HK.out)
      go_wp2
      go_ret
      exact⟨ret_int HF.out.symm,rfl⟩
theorem refHome_q (y:Nat) (hy:y<4294967296) (w:World):Calls Tryz.prog 156 #[.int .u32 (y:Int),.int .i64 224] w fun e w'=>e = .returned (.int .i64 ((y % 224:Nat):Int))∧w'=w:=by
  have h:=Mix.refHome_any (y:Int) 224 w (by omega) (by omega) (by omega) (by omega)
  rw[show Mix.hom (y:Int) 224=((y % 224:Nat):Int) by unfold Mix.hom;rw[if_neg (by omega)];omega] at h
  exact h.mono fun _ _ ⟨a,b⟩=>⟨a,b.symm⟩
theorem rhome_any (g:Nat) (u v:Value) (T:List Cel) (b:Rb) (w:World) (hb:w.heap[g]? = some (.cells #[u,v] 76 (0,0))) (hr:CRow w u T) (hl:T.length=224) (hh:b.hash<4294967296) :
    Calls Tryz.prog 74 #[.pointer (some ⟨g,0,none⟩),b.agg] w fun e w'=>e = .returned (.int .i64 ((b.hash % 224:Nat):Int))∧Below w.heap.size w w':=by
  obtain⟨a,cap,rfl,q1,q2,-⟩:=id hr
  rw[hl] at hb hr q1
  obtain⟨w0,hw0⟩:∃ w0,w0=w.alloc (.cells #[.int .i64 b.pos,.bool b.node,.int .u32 (b.name:Int),.int .u16 (b.typ:Int),.string b.lab,.int .u32 (b.hash:Int)] 62):=⟨_,rfl⟩
  have hb0:Below w.heap.size w w0:=by rw[hw0];exact below_made _ _
  have hbx:w0.heap[w.heap.size]? = some (.cells #[.int .i64 b.pos,.bool b.node,.int .u32 (b.name:Int),.int .u16 (b.typ:Int),.string b.lab,.int .u32 (b.hash:Int)] 62 (0,0)):=by rw[hw0];exact heap_alloc_new _ _
  have d5:w0.cell? ⟨w.heap.size,5,none⟩=some (.int .u32 (b.hash:Int)):=(cell_block hbx 5).trans rfl
  have c0:w0.cell? ⟨g,0,none⟩=some (.slice a 224 cap):=(cell_block ((hb0.block g (Array.getElem?_eq_some_iff.1 hb).1).trans hb) 0).trans rfl
  have HB:=Lib.hid hb0
  have HH:=Lib.hid (fun W=>refHome_q b.hash hh W)
  unfold Rb.agg
  clear hb hr hb0 hbx
  generalize b.hash % 224=y at HH ⊢
  go_enter Tryz.func74,Tryz.ntmps74
  go_wp2_with fail
  rw[←hw0]
  clear hw0
  go_quiet ((go_at_call 156;exact Calls.quiet_of_same (HH.out _)))
  go_wp2
  go_ret
  exact⟨rfl,below_drewN HB.out _⟩
end Go.Proofs.YtmgeiaglandedaaGreatDoor.Ind

namespace Go.Proofs.YtmgeiaglandedaaGreatDoor.Ind
open Go.RowKit Num
open Pro
open Mem (Mm MemC MRet Hm rd blkM)
open Arn (wrL is64)
set_option linter.unusedVariables false
set_option maxRecDepth 100000
section
variable {n g:Nat} {W W':World} {u u' v v':Value} {T T':List Cel} {A A':List Rb} {b:Rb}
theorem Rx.below (d:Rx n W g u v T A) (hb:Below W.heap.size W W'):Rx n W' g u v T A :=
  ⟨(hb.block g (Array.getElem?_eq_some_iff.1 d.box).1).trans d.box,d.ng,d.t.mono hb (Nat.le_refl _),d.b.below hb,d.tn,d.bg,d.d⟩
theorem Rx.setT (d:Rx n W g u v T A) (hb:Below W.heap.size W W') (hn:n≤W.heap.size) (ht:CRow W' u' T') (hu:∀ b,u'.ownBlock=some b→W.heap.size≤b):Rx n (W'.setCell ⟨g,0,none⟩ u') g u' v T' A∧Fr W.heap.size (fun k=>k=g) W (W'.setCell ⟨g,0,none⟩ u'):=by
  have d2:=d.below hb
  have hlt:=(Array.getElem?_eq_some_iff.1 d.box).1
  have hbl:=d.b.lt
  have hug:∀ b,u'.ownBlock=some b→b≠g:=fun b h=>by have:=hu b h;omega
  have hkeep:∀ k,k≠g→(W'.setCell ⟨g,0,none⟩ u').heap[k]? = W'.heap[k]?:=fun k hk=>Below.heap_setCell _ _ _ _ (fun q=>hk q)
  refine⟨⟨Arn.heap_setCell_own d2.box u',d.ng,?_,?_,fun b h=>⟨Nat.le_trans hn (hu b h),hug b h⟩,d.bg,fun b h q=>by have:=hbl b h;have:=hu b q;omega⟩,?_⟩
  · obtain⟨a,cap,rfl,h2,h3,h4⟩:=ht
    refine⟨a,cap,rfl,h2,h3,fun hne=>?_⟩
    obtain⟨b,o,rfl,hb2,hc⟩:=h4 hne
    have hbg:b≠g:=hug b rfl
    refine⟨b,o,rfl,by simpa using hb2,fun i hi j x hx=>?_⟩
    rw[World.cell?_setCell_other _ _ _ _ (fun q=>hbg (congrArg Addr.block q).symm)]
    exact hc i hi j x hx
  · obtain⟨h1,h2⟩:=d2.b
    refine⟨h1,?_⟩
    rcases h2 with h2 | ⟨b,cap,cur,rfl,h3,h4,rest⟩
    · exact .inl h2
    · exact .inr ⟨b,cap,cur,rfl,h3,(hkeep b (fun q=>d.bg (by rw[q];rfl))).trans h4,rest⟩
  · exact(Fr.of_below (S:=fun k=>k=g) hb).setCell (p:=⟨g,0,none⟩) (.inr rfl) _
set_option maxHeartbeats 2000000 in
theorem rInsI_ok (d:Rx n W g u v T A) (hn:n≤W.heap.size) (hl:T.length=224) (hA:A.length≤1000) {i x:Nat} (hi:i<A.length) (hf:fdR A (x:Int)=i) (hx:x<4294967296) (hh:(A.getD i Rb.zero).hash<4294967296)
    (he:eI T ((x:Int),(((A.getD i Rb.zero).hash % 224:Nat):Int))=0) :
    Calls Tryz.prog 32 #[.pointer (some ⟨g,0,none⟩),.int .i64 (x:Int)] W fun e W'=>e = .returned (.int .i64 0)∧Fr W.heap.size (fun k=>k=g) W W'∧∃ u',Rx n W' g u' v (rI T ((x:Int),(((A.getD i Rb.zero).hash % 224:Nat):Int))) A:=by
  have HFi:=Lib.hid (rfind_any g u v A (x:Int) W d.box d.b.row hA)
  rw[hf] at HFi
  obtain⟨b,hbb⟩:∃ b,b=A.getD i Rb.zero:=⟨_,rfl⟩
  rw[←hbb] at hh he ⊢
  have HHo:Hid (∀ V,Below W.heap.size W V→Calls Tryz.prog 74 #[.pointer (some ⟨g,0,none⟩),b.agg] V fun e w'=>e = .returned (.int .i64 ((b.hash % 224:Nat):Int))∧Below V.heap.size V w'):=fun V hV=>rhome_any g u v T b V (d.below hV).box (d.below hV).t hl hh
  have HIn:Hid (∀ V,Below W.heap.size W V→Calls Tryz.prog 78 #[u,.int .u32 (x:Int),.int .i64 ((b.hash % 224:Nat):Int)] V (InsG V T.length (rI T ((x:Int),((b.hash % 224:Nat):Int))))):=fun V hV=>by
    have:=rInsert_new u T (x:Int) (b.hash % 224) V (d.t.mono hV (Nat.le_refl _)) (by omega) he
    have e:rI T ((x:Int),((b.hash % 224:Nat):Int))=insT T ((x:Int),((b.hash % 224:Nat):Int)) (b.hash % 224):=by unfold rI;rw[if_pos he,Int.toNat_natCast]
    rw[e]
    exact this
  have hm:b.hash % 224<224:=Nat.mod_lt _ (by omega)
  have HD:=Lib.hid d
  have HSet:Hid (∀ V u' T',Below W.heap.size W V→CRow V u' T'→(∀ k,u'.ownBlock=some k→W.heap.size≤k)→Rx n (V.setCell ⟨g,0,none⟩ u') g u' v T' A∧Fr W.heap.size (fun k=>k=g) W (V.setCell ⟨g,0,none⟩ u')):=fun V u' T' h1 h2 h3=>d.setT h1 hn h2 h3
  have HBox:Hid (∀ V,Below W.heap.size W V→V.cell? ⟨g,0,none⟩=some u∧V.cell? ⟨g,1,none⟩=some v∧V.frozen? ⟨g,0,none⟩=false):=fun V hV=>⟨(cell_block (d.below hV).box 0).trans rfl,(cell_block (d.below hV).box 1).trans rfl,Hea.frozen_block (d.below hV).box 0⟩
  obtain⟨c0,c1,-⟩:=HBox.out W (Below.refl _ _)
  obtain⟨va,vc,rfl,v1,v2⟩:=d.b.row.slice
  obtain⟨gv,o,rfl,hgl,hc⟩:=d.b.row.at hi
  obtain⟨ua,uc,rfl,u1,u2,-⟩:=id d.t
  rw[←hbb] at hc
  have d0:W.cell? ⟨gv,o+i*6,none⟩=some (.int .i64 b.pos):=hc 0 _ rfl
  have d1:W.cell? ⟨gv,o+i*6+1,none⟩=some (.bool b.node):=hc 1 _ rfl
  have d2:W.cell? ⟨gv,o+i*6+2,none⟩=some (.int .u32 (b.name:Int)):=hc 2 _ rfl
  have d3:W.cell? ⟨gv,o+i*6+3,none⟩=some (.int .u16 (b.typ:Int)):=hc 3 _ rfl
  have d4:W.cell? ⟨gv,o+i*6+4,none⟩=some (.string b.lab):=hc 4 _ rfl
  have d5:W.cell? ⟨gv,o+i*6+5,none⟩=some (.int .u32 (b.hash:Int)):=hc 5 _ rfl
  have HAll:Hid (∀ V,Below W.heap.size W V→V.cell? ⟨g,0,none⟩=some (.slice ua T.length uc)∧V.cell? ⟨g,1,none⟩=some (.slice (some ⟨gv,o,none⟩) A.length vc)∧V.cell? ⟨gv,o+i*6,none⟩=some (.int .i64 b.pos)∧V.cell? ⟨gv,o+i*6+1,none⟩=some (.bool b.node)∧V.cell? ⟨gv,o+i*6+2,none⟩=some (.int .u32 (b.name:Int))∧V.cell? ⟨gv,o+i*6+3,none⟩=some (.int .u16 (b.typ:Int))∧V.cell? ⟨gv,o+i*6+4,none⟩=some (.string b.lab)∧V.cell? ⟨gv,o+i*6+5,none⟩=some (.int .u32 (b.hash:Int))):=fun V hV=>by
    obtain⟨g0,g1,-⟩:=HBox.out V hV
    have hk:=fun j x (hx:W.cell? ⟨gv,o+i*6+j,none⟩=some x)=>(hV.cell (p:=⟨gv,o+i*6+j,none⟩) hgl).trans hx
    exact⟨g0,g1,hk 0 _ d0,hk 1 _ d1,hk 2 _ d2,hk 3 _ d3,hk 4 _ d4,hk 5 _ d5⟩
  have hi1:(i:Int)<(A.length:Int):=by omega
  have hi0:(0:Int)≤(i:Int):=by omega
  have hxw:IntKind.u32.wrap (x:Int)=(x:Int):=Lis.u32_id (by omega) (by omega)
  have hin:¬ (i:Int)<0:=by omega
  have hrl:=True.intro
  generalize rI T ((x:Int),((b.hash % 224:Nat):Int))=R at *
  unfold Rb.agg at HHo
  rw[hl] at HIn c0 HAll
  clear d hc hbb he hf hi hh
  generalize b.hash % 224=y at *
  go_enter Tryz.func32,Tryz.ntmps32
  go_wp2_with fail
  refine HFi.out.mono ?_
  rintro e w1 ⟨rfl,rfl⟩
  go_wp2_with fail
  have hb2:=Below.refl W.heap.size W
  go_region_held3 (fun V=>V.cell? ⟨g,0,none⟩=some (.slice ua 224 uc)∧V.cell? ⟨g,1,none⟩=some (.slice (some ⟨gv,o,none⟩) A.length vc)∧V.cell? ⟨gv,o+i*6,none⟩=some (.int .i64 b.pos)∧V.cell? ⟨gv,o+i*6+1,none⟩=some (.bool b.node)∧V.cell? ⟨gv,o+i*6+2,none⟩=some (.int .u32 (b.name:Int))∧V.cell? ⟨gv,o+i*6+3,none⟩=some (.int .u16 (b.typ:Int))∧V.cell? ⟨gv,o+i*6+4,none⟩=some (.string b.lab)∧V.cell? ⟨gv,o+i*6+5,none⟩=some (.int .u32 (b.hash:Int))) (first | exact⟨c0,c1,d0,d1,d2,d3,d4,d5⟩ | go_keep) ((first
    | (go_at_call 78;refine(HIn.out _ (by first | exact hb2 | exact hb2.drew)).mono ?_;rintro e w3 ⟨g3,cap3,rfl,k3,hb3',hr3⟩;have hb3:=(by first | exact hb2.trans (hb3'.mono hb2.size) | exact hb2.drew.trans (hb3'.mono hb2.drew.size));have hk3:=(by first | exact Nat.le_trans hb2.size k3 | exact Nat.le_trans hb2.drew.size k3);clear c0 c1 d0 d1 d2 d3 d4 d5;obtain⟨c0,c1,d0,d1,d2,d3,d4,d5⟩:=HAll.out _ hb3)
    | (go_at_call 74;refine(HHo.out _ (by first | exact hb2 | exact hb2.drew)).mono ?_;rintro e w2 ⟨rfl,hb2'⟩;replace hb2:=(by first | exact hb2.trans (hb2'.mono hb2.size) | exact hb2.drew.trans (hb2'.mono hb2.drew.size));clear c0 c1 d0 d1 d2 d3 d4 d5;obtain⟨c0,c1,d0,d1,d2,d3,d4,d5⟩:=HAll.out _ hb2)))
  all_goals
    obtain⟨HE1,HE2⟩:=HSet.out w3 _ _ hb3 hr3 (fun k q=>by
      have e:k=g3:=by cases q;rfl
      omega)
    have HE:=Lib.hid (And.intro HE1 HE2)
    obtain⟨-,-,f0⟩:=HBox.out _ hb3
    clear hb2 hb3 hb3' hr3 hb2' HSet HBox HAll HIn HHo HD HFi HE1 HE2 d0 d1 d2 d3 d4 d5
    go_wp2
    go_ret
    exact⟨rfl,HE.out.2,_,HE.out.1⟩
theorem rDel_new (u:Value) (T:List Cel) (x h:Nat) (w:World) (hr:CRow w u T) (hn:T.length≤1000) (he:eD T ((x:Int),(h:Int))=0) :
    Calls Tryz.prog 73 #[u,.int .u32 (x:Int),.int .i64 (h:Int)] w (InsG w T.length (rD T ((x:Int),(h:Int)))):=by
  have hck:ckC T ((x:Int),(h:Int))=0:=by
    by_cases q:ckC T ((x:Int),(h:Int))=0
    · exact q
    · unfold eD at he
      rw[if_neg q] at he
      exact absurd he q
  obtain⟨hna,hrc⟩:=ck_ok hck
  have h3:(x:Int)≠0∧(0:Int)≤h∧(h:Int)<T.length:=by simpa[naC] using hna
  have hf2:(fiC T ((x:Int),(h:Int)) h).2=true:=by
    cases q:(fiC T ((x:Int),(h:Int)) h).2 with
    | true=>rfl
    | false =>
      unfold eD at he
      rw[if_pos hck,Int.toNat_natCast,q] at he
      exact absurd he (by decide)
  have hp:(fiC T ((x:Int),(h:Int)) h).1<T.length:=by
    unfold fiC
    split
    · exact Nat.mod_lt _ (by omega)
    · show 0<_;omega
  have hfi:FiC T ((x:Int),(h:Int))=((fiC T ((x:Int),(h:Int)) h).1,true):=by
    unfold FiC
    rw[if_pos hck,Int.toNat_natCast,←hf2]
  have e:rD T ((x:Int),(h:Int))=delT T (fiC T ((x:Int),(h:Int)) h).1:=by unfold rD;rw[if_pos he,Int.toNat_natCast]
  rw[e]
  exact rDelete_new u T (x:Int) h _ w hr hn (by omega) h3.1 hrc hfi hp
set_option maxHeartbeats 2000000 in
theorem rDelI_ok (d:Rx n W g u v T A) (hn:n≤W.heap.size) (hl:T.length=224) (hA:A.length≤1000) {i x:Nat} (hi:i<A.length) (hf:fdR A (x:Int)=i) (hx:x<4294967296) (hh:(A.getD i Rb.zero).hash<4294967296)
    (he:eD T ((x:Int),(((A.getD i Rb.zero).hash % 224:Nat):Int))=0) :
    Calls Tryz.prog 30 #[.pointer (some ⟨g,0,none⟩),.int .i64 (x:Int)] W fun e W'=>e = .returned (.int .i64 0)∧Fr W.heap.size (fun k=>k=g) W W'∧∃ u',Rx n W' g u' v (rD T ((x:Int),(((A.getD i Rb.zero).hash % 224:Nat):Int))) A:=by
  have HFi:=Lib.hid (rfind_any g u v A (x:Int) W d.box d.b.row hA)
  rw[hf] at HFi
  obtain⟨b,hbb⟩:∃ b,b=A.getD i Rb.zero:=⟨_,rfl⟩
  rw[←hbb] at hh he ⊢
  have HHo:Hid (∀ V,Below W.heap.size W V→Calls Tryz.prog 74 #[.pointer (some ⟨g,0,none⟩),b.agg] V fun e w'=>e = .returned (.int .i64 ((b.hash % 224:Nat):Int))∧Below V.heap.size V w'):=fun V hV=>rhome_any g u v T b V (d.below hV).box (d.below hV).t hl hh
  have HIn:Hid (∀ V,Below W.heap.size W V→Calls Tryz.prog 73 #[u,.int .u32 (x:Int),.int .i64 ((b.hash % 224:Nat):Int)] V (InsG V T.length (rD T ((x:Int),((b.hash % 224:Nat):Int))))):=fun V hV=>rDel_new u T x (b.hash % 224) V (d.t.mono hV (Nat.le_refl _)) (by omega) he
  have hm:b.hash % 224<224:=Nat.mod_lt _ (by omega)
  have HD:=Lib.hid d
  have HSet:Hid (∀ V u' T',Below W.heap.size W V→CRow V u' T'→(∀ k,u'.ownBlock=some k→W.heap.size≤k)→Rx n (V.setCell ⟨g,0,none⟩ u') g u' v T' A∧Fr W.heap.size (fun k=>k=g) W (V.setCell ⟨g,0,none⟩ u')):=fun V u' T' h1 h2 h3=>d.setT h1 hn h2 h3
  have HBox:Hid (∀ V,Below W.heap.size W V→V.cell? ⟨g,0,none⟩=some u∧V.cell? ⟨g,1,none⟩=some v∧V.frozen? ⟨g,0,none⟩=false):=fun V hV=>⟨(cell_block (d.below hV).box 0).trans rfl,(cell_block (d.below hV).box 1).trans rfl,Hea.frozen_block (d.below hV).box 0⟩
  obtain⟨c0,c1,-⟩:=HBox.out W (Below.refl _ _)
  obtain⟨va,vc,rfl,v1,v2⟩:=d.b.row.slice
  obtain⟨gv,o,rfl,hgl,hc⟩:=d.b.row.at hi
  obtain⟨ua,uc,rfl,u1,u2,-⟩:=id d.t
  rw[←hbb] at hc
  have d0:W.cell? ⟨gv,o+i*6,none⟩=some (.int .i64 b.pos):=hc 0 _ rfl
  have d1:W.cell? ⟨gv,o+i*6+1,none⟩=some (.bool b.node):=hc 1 _ rfl
  have d2:W.cell? ⟨gv,o+i*6+2,none⟩=some (.int .u32 (b.name:Int)):=hc 2 _ rfl
  have d3:W.cell? ⟨gv,o+i*6+3,none⟩=some (.int .u16 (b.typ:Int)):=hc 3 _ rfl
  have d4:W.cell? ⟨gv,o+i*6+4,none⟩=some (.string b.lab):=hc 4 _ rfl
  have d5:W.cell? ⟨gv,o+i*6+5,none⟩=some (.int .u32 (b.hash:Int)):=hc 5 _ rfl
  have HAll:Hid (∀ V,Below W.heap.size W V→V.cell? ⟨g,0,none⟩=some (.slice ua T.length uc)∧V.cell? ⟨g,1,none⟩=some (.slice (some ⟨gv,o,none⟩) A.length vc)∧V.cell? ⟨gv,o+i*6,none⟩=some (.int .i64 b.pos)∧V.cell? ⟨gv,o+i*6+1,none⟩=some (.bool b.node)∧V.cell? ⟨gv,o+i*6+2,none⟩=some (.int .u32 (b.name:Int))∧V.cell? ⟨gv,o+i*6+3,none⟩=some (.int .u16 (b.typ:Int))∧V.cell? ⟨gv,o+i*6+4,none⟩=some (.string b.lab)∧V.cell? ⟨gv,o+i*6+5,none⟩=some (.int .u32 (b.hash:Int))):=fun V hV=>by
    obtain⟨g0,g1,-⟩:=HBox.out V hV
    have hk:=fun j x (hx:W.cell? ⟨gv,o+i*6+j,none⟩=some x)=>(hV.cell (p:=⟨gv,o+i*6+j,none⟩) hgl).trans hx
    exact⟨g0,g1,hk 0 _ d0,hk 1 _ d1,hk 2 _ d2,hk 3 _ d3,hk 4 _ d4,hk 5 _ d5⟩
  have hi1:(i:Int)<(A.length:Int):=by omega
  have hi0:(0:Int)≤(i:Int):=by omega
  have hxw:IntKind.u32.wrap (x:Int)=(x:Int):=Lis.u32_id (by omega) (by omega)
  have hin:¬ (i:Int)<0:=by omega
  have hrl:=True.intro
  generalize rD T ((x:Int),((b.hash % 224:Nat):Int))=R at *
  unfold Rb.agg at HHo
  rw[hl] at HIn c0 HAll
  clear d hc hbb he hf hi hh
  generalize b.hash % 224=y at *
  go_enter Tryz.func30,Tryz.ntmps30
  go_wp2_with fail
  refine HFi.out.mono ?_
  rintro e w1 ⟨rfl,rfl⟩
  go_wp2_with fail
  have hb2:=Below.refl W.heap.size W
  go_region_held3 (fun V=>V.cell? ⟨g,0,none⟩=some (.slice ua 224 uc)∧V.cell? ⟨g,1,none⟩=some (.slice (some ⟨gv,o,none⟩) A.length vc)∧V.cell? ⟨gv,o+i*6,none⟩=some (.int .i64 b.pos)∧V.cell? ⟨gv,o+i*6+1,none⟩=some (.bool b.node)∧V.cell? ⟨gv,o+i*6+2,none⟩=some (.int .u32 (b.name:Int))∧V.cell? ⟨gv,o+i*6+3,none⟩=some (.int .u16 (b.typ:Int))∧V.cell? ⟨gv,o+i*6+4,none⟩=some (.string b.lab)∧V.cell? ⟨gv,o+i*6+5,none⟩=some (.int .u32 (b.hash:Int))) (first | exact⟨c0,c1,d0,d1,d2,d3,d4,d5⟩ | go_keep) ((first
    | (go_at_call 73;refine(HIn.out _ (by first | exact hb2 | exact hb2.drew)).mono ?_;rintro e w3 ⟨g3,cap3,rfl,k3,hb3',hr3⟩;have hb3:=(by first | exact hb2.trans (hb3'.mono hb2.size) | exact hb2.drew.trans (hb3'.mono hb2.drew.size));have hk3:=(by first | exact Nat.le_trans hb2.size k3 | exact Nat.le_trans hb2.drew.size k3);clear c0 c1 d0 d1 d2 d3 d4 d5;obtain⟨c0,c1,d0,d1,d2,d3,d4,d5⟩:=HAll.out _ hb3)
    | (go_at_call 74;refine(HHo.out _ (by first | exact hb2 | exact hb2.drew)).mono ?_;rintro e w2 ⟨rfl,hb2'⟩;replace hb2:=(by first | exact hb2.trans (hb2'.mono hb2.size) | exact hb2.drew.trans (hb2'.mono hb2.drew.size));clear c0 c1 d0 d1 d2 d3 d4 d5;obtain⟨c0,c1,d0,d1,d2,d3,d4,d5⟩:=HAll.out _ hb2)))
  all_goals
    obtain⟨HE1,HE2⟩:=HSet.out w3 _ _ hb3 hr3 (fun k q=>by
      have e:k=g3:=by cases q;rfl
      omega)
    have HE:=Lib.hid (And.intro HE1 HE2)
    obtain⟨-,-,f0⟩:=HBox.out _ hb3
    clear hb2 hb3 hb3' hr3 hb2' HSet HBox HAll HIn HHo HD HFi HE1 HE2 d0 d1 d2 d3 d4 d5
    go_wp2
    go_ret
    exact⟨rfl,HE.out.2,_,HE.out.1⟩
set_option maxHeartbeats 2000000 in
theorem rInsI_no (d:Rx n W g u v T A) (hn:n≤W.heap.size) (hl:T.length=224) (hA:A.length≤1000) {i x:Nat} (hi:i<A.length) (hf:fdR A (x:Int)=i) (hx:x<4294967296) (hh:(A.getD i Rb.zero).hash<4294967296)
    (he:eI T ((x:Int),(((A.getD i Rb.zero).hash % 224:Nat):Int))≠0) :
    Calls Tryz.prog 32 #[.pointer (some ⟨g,0,none⟩),.int .i64 (x:Int)] W fun e W'=>e = .returned (.int .i64 (eI T ((x:Int),(((A.getD i Rb.zero).hash % 224:Nat):Int))))∧Below W.heap.size W W':=by
  have HFi:=Lib.hid (rfind_any g u v A (x:Int) W d.box d.b.row hA)
  rw[hf] at HFi
  obtain⟨b,hbb⟩:∃ b,b=A.getD i Rb.zero:=⟨_,rfl⟩
  rw[←hbb] at hh he ⊢
  have HHo:Hid (∀ V,Below W.heap.size W V→Calls Tryz.prog 74 #[.pointer (some ⟨g,0,none⟩),b.agg] V fun e w'=>e = .returned (.int .i64 ((b.hash % 224:Nat):Int))∧Below V.heap.size V w'):=fun V hV=>rhome_any g u v T b V (d.below hV).box (d.below hV).t hl hh
  have HIn:Hid (∀ V,Below W.heap.size W V→Calls Tryz.prog 78 #[u,.int .u32 (x:Int),.int .i64 ((b.hash % 224:Nat):Int)] V (InsR V (rI T ((x:Int),((b.hash % 224:Nat):Int))) (eI T ((x:Int),((b.hash % 224:Nat):Int))))):=fun V hV=>rInsert_any u T (x:Int) ((b.hash % 224:Nat):Int) V (d.t.mono hV (Nat.le_refl _)) (by omega)
  have hm:b.hash % 224<224:=Nat.mod_lt _ (by omega)
  have HD:=Lib.hid d
  have HSet:Hid (∀ V u' T',Below W.heap.size W V→CRow V u' T'→(∀ k,u'.ownBlock=some k→W.heap.size≤k)→Rx n (V.setCell ⟨g,0,none⟩ u') g u' v T' A∧Fr W.heap.size (fun k=>k=g) W (V.setCell ⟨g,0,none⟩ u')):=fun V u' T' h1 h2 h3=>d.setT h1 hn h2 h3
  have HBox:Hid (∀ V,Below W.heap.size W V→V.cell? ⟨g,0,none⟩=some u∧V.cell? ⟨g,1,none⟩=some v∧V.frozen? ⟨g,0,none⟩=false):=fun V hV=>⟨(cell_block (d.below hV).box 0).trans rfl,(cell_block (d.below hV).box 1).trans rfl,Hea.frozen_block (d.below hV).box 0⟩
  obtain⟨c0,c1,-⟩:=HBox.out W (Below.refl _ _)
  obtain⟨va,vc,rfl,v1,v2⟩:=d.b.row.slice
  obtain⟨gv,o,rfl,hgl,hc⟩:=d.b.row.at hi
  obtain⟨ua,uc,rfl,u1,u2,-⟩:=id d.t
  rw[←hbb] at hc
  have d0:W.cell? ⟨gv,o+i*6,none⟩=some (.int .i64 b.pos):=hc 0 _ rfl
  have d1:W.cell? ⟨gv,o+i*6+1,none⟩=some (.bool b.node):=hc 1 _ rfl
  have d2:W.cell? ⟨gv,o+i*6+2,none⟩=some (.int .u32 (b.name:Int)):=hc 2 _ rfl
  have d3:W.cell? ⟨gv,o+i*6+3,none⟩=some (.int .u16 (b.typ:Int)):=hc 3 _ rfl
  have d4:W.cell? ⟨gv,o+i*6+4,none⟩=some (.string b.lab):=hc 4 _ rfl
  have d5:W.cell? ⟨gv,o+i*6+5,none⟩=some (.int .u32 (b.hash:Int)):=hc 5 _ rfl
  have HAll:Hid (∀ V,Below W.heap.size W V→V.cell? ⟨g,0,none⟩=some (.slice ua T.length uc)∧V.cell? ⟨g,1,none⟩=some (.slice (some ⟨gv,o,none⟩) A.length vc)∧V.cell? ⟨gv,o+i*6,none⟩=some (.int .i64 b.pos)∧V.cell? ⟨gv,o+i*6+1,none⟩=some (.bool b.node)∧V.cell? ⟨gv,o+i*6+2,none⟩=some (.int .u32 (b.name:Int))∧V.cell? ⟨gv,o+i*6+3,none⟩=some (.int .u16 (b.typ:Int))∧V.cell? ⟨gv,o+i*6+4,none⟩=some (.string b.lab)∧V.cell? ⟨gv,o+i*6+5,none⟩=some (.int .u32 (b.hash:Int))):=fun V hV=>by
    obtain⟨g0,g1,-⟩:=HBox.out V hV
    have hk:=fun j x (hx:W.cell? ⟨gv,o+i*6+j,none⟩=some x)=>(hV.cell (p:=⟨gv,o+i*6+j,none⟩) hgl).trans hx
    exact⟨g0,g1,hk 0 _ d0,hk 1 _ d1,hk 2 _ d2,hk 3 _ d3,hk 4 _ d4,hk 5 _ d5⟩
  have hi1:(i:Int)<(A.length:Int):=by omega
  have hi0:(0:Int)≤(i:Int):=by omega
  have hxw:IntKind.u32.wrap (x:Int)=(x:Int):=Lis.u32_id (by omega) (by omega)
  have hin:¬ (i:Int)<0:=by omega
  have hrl:=True.intro
  generalize rI T ((x:Int),((b.hash % 224:Nat):Int))=R at *
  generalize eI T ((x:Int),((b.hash % 224:Nat):Int))=er at *
  have her:(er == 0)=false:=by simp[he]
  unfold Rb.agg at HHo
  rw[hl] at HIn c0 HAll
  clear d hc hbb he hf hi hh
  generalize b.hash % 224=y at *
  go_enter Tryz.func32,Tryz.ntmps32
  go_wp2_with fail
  refine HFi.out.mono ?_
  rintro e w1 ⟨rfl,rfl⟩
  go_wp2_with fail
  have hb2:=Below.refl W.heap.size W
  go_region_held3 (fun V=>V.cell? ⟨g,0,none⟩=some (.slice ua 224 uc)∧V.cell? ⟨g,1,none⟩=some (.slice (some ⟨gv,o,none⟩) A.length vc)∧V.cell? ⟨gv,o+i*6,none⟩=some (.int .i64 b.pos)∧V.cell? ⟨gv,o+i*6+1,none⟩=some (.bool b.node)∧V.cell? ⟨gv,o+i*6+2,none⟩=some (.int .u32 (b.name:Int))∧V.cell? ⟨gv,o+i*6+3,none⟩=some (.int .u16 (b.typ:Int))∧V.cell? ⟨gv,o+i*6+4,none⟩=some (.string b.lab)∧V.cell? ⟨gv,o+i*6+5,none⟩=some (.int .u32 (b.hash:Int))) (first | exact⟨c0,c1,d0,d1,d2,d3,d4,d5⟩ | go_keep) ((first
    | (go_at_call 78;refine(HIn.out _ (by first | exact hb2 | exact hb2.drew)).mono ?_;rintro e w3 ⟨u3,rfl,hb3',-⟩;have hb3:=(by first | exact hb2.trans (hb3'.mono hb2.size) | exact hb2.drew.trans (hb3'.mono hb2.drew.size));clear c0 c1 d0 d1 d2 d3 d4 d5;obtain⟨c0,c1,d0,d1,d2,d3,d4,d5⟩:=HAll.out _ hb3)
    | (go_at_call 74;refine(HHo.out _ (by first | exact hb2 | exact hb2.drew)).mono ?_;rintro e w2 ⟨rfl,hb2'⟩;replace hb2:=(by first | exact hb2.trans (hb2'.mono hb2.size) | exact hb2.drew.trans (hb2'.mono hb2.drew.size));clear c0 c1 d0 d1 d2 d3 d4 d5;obtain⟨c0,c1,d0,d1,d2,d3,d4,d5⟩:=HAll.out _ hb2)))
  all_goals
    have HE:=Lib.hid hb3
    clear hb2 hb3 hb3' hb2' HSet HBox HAll HIn HHo HD HFi d0 d1 d2 d3 d4 d5
    go_wp2
    go_ret
    exact⟨rfl,HE.out⟩
set_option maxHeartbeats 2000000 in
theorem rDelI_no (d:Rx n W g u v T A) (hn:n≤W.heap.size) (hl:T.length=224) (hA:A.length≤1000) {i x:Nat} (hi:i<A.length) (hf:fdR A (x:Int)=i) (hx:x<4294967296) (hh:(A.getD i Rb.zero).hash<4294967296)
    (he:eD T ((x:Int),(((A.getD i Rb.zero).hash % 224:Nat):Int))≠0) :
    Calls Tryz.prog 30 #[.pointer (some ⟨g,0,none⟩),.int .i64 (x:Int)] W fun e W'=>e = .returned (.int .i64 (eD T ((x:Int),(((A.getD i Rb.zero).hash % 224:Nat):Int))))∧Below W.heap.size W W':=by
  have HFi:=Lib.hid (rfind_any g u v A (x:Int) W d.box d.b.row hA)
  rw[hf] at HFi
  obtain⟨b,hbb⟩:∃ b,b=A.getD i Rb.zero:=⟨_,rfl⟩
  rw[←hbb] at hh he ⊢
  have HHo:Hid (∀ V,Below W.heap.size W V→Calls Tryz.prog 74 #[.pointer (some ⟨g,0,none⟩),b.agg] V fun e w'=>e = .returned (.int .i64 ((b.hash % 224:Nat):Int))∧Below V.heap.size V w'):=fun V hV=>rhome_any g u v T b V (d.below hV).box (d.below hV).t hl hh
  have HIn:Hid (∀ V,Below W.heap.size W V→Calls Tryz.prog 73 #[u,.int .u32 (x:Int),.int .i64 ((b.hash % 224:Nat):Int)] V (InsR V (rD T ((x:Int),((b.hash % 224:Nat):Int))) (eD T ((x:Int),((b.hash % 224:Nat):Int))))):=fun V hV=>rDelete_any u T (x:Int) ((b.hash % 224:Nat):Int) V (d.t.mono hV (Nat.le_refl _)) (by omega)
  have hm:b.hash % 224<224:=Nat.mod_lt _ (by omega)
  have HD:=Lib.hid d
  have HSet:Hid (∀ V u' T',Below W.heap.size W V→CRow V u' T'→(∀ k,u'.ownBlock=some k→W.heap.size≤k)→Rx n (V.setCell ⟨g,0,none⟩ u') g u' v T' A∧Fr W.heap.size (fun k=>k=g) W (V.setCell ⟨g,0,none⟩ u')):=fun V u' T' h1 h2 h3=>d.setT h1 hn h2 h3
  have HBox:Hid (∀ V,Below W.heap.size W V→V.cell? ⟨g,0,none⟩=some u∧V.cell? ⟨g,1,none⟩=some v∧V.frozen? ⟨g,0,none⟩=false):=fun V hV=>⟨(cell_block (d.below hV).box 0).trans rfl,(cell_block (d.below hV).box 1).trans rfl,Hea.frozen_block (d.below hV).box 0⟩
  obtain⟨c0,c1,-⟩:=HBox.out W (Below.refl _ _)
  obtain⟨va,vc,rfl,v1,v2⟩:=d.b.row.slice
  obtain⟨gv,o,rfl,hgl,hc⟩:=d.b.row.at hi
  obtain⟨ua,uc,rfl,u1,u2,-⟩:=id d.t
  rw[←hbb] at hc
  have d0:W.cell? ⟨gv,o+i*6,none⟩=some (.int .i64 b.pos):=hc 0 _ rfl
  have d1:W.cell? ⟨gv,o+i*6+1,none⟩=some (.bool b.node):=hc 1 _ rfl
  have d2:W.cell? ⟨gv,o+i*6+2,none⟩=some (.int .u32 (b.name:Int)):=hc 2 _ rfl
  have d3:W.cell? ⟨gv,o+i*6+3,none⟩=some (.int .u16 (b.typ:Int)):=hc 3 _ rfl
  have d4:W.cell? ⟨gv,o+i*6+4,none⟩=some (.string b.lab):=hc 4 _ rfl
  have d5:W.cell? ⟨gv,o+i*6+5,none⟩=some (.int .u32 (b.hash:Int)):=hc 5 _ rfl
  have HAll:Hid (∀ V,Below W.heap.size W V→V.cell? ⟨g,0,none⟩=some (.slice ua T.length uc)∧V.cell? ⟨g,1,none⟩=some (.slice (some ⟨gv,o,none⟩) A.length vc)∧V.cell? ⟨gv,o+i*6,none⟩=some (.int .i64 b.pos)∧V.cell? ⟨gv,o+i*6+1,none⟩=some (.bool b.node)∧V.cell? ⟨gv,o+i*6+2,none⟩=some (.int .u32 (b.name:Int))∧V.cell? ⟨gv,o+i*6+3,none⟩=some (.int .u16 (b.typ:Int))∧V.cell? ⟨gv,o+i*6+4,none⟩=some (.string b.lab)∧V.cell? ⟨gv,o+i*6+5,none⟩=some (.int .u32 (b.hash:Int))):=fun V hV=>by
    obtain⟨g0,g1,-⟩:=HBox.out V hV
    have hk:=fun j x (hx:W.cell? ⟨gv,o+i*6+j,none⟩=some x)=>(hV.cell (p:=⟨gv,o+i*6+j,none⟩) hgl).trans hx
    exact⟨g0,g1,hk 0 _ d0,hk 1 _ d1,hk 2 _ d2,hk 3 _ d3,hk 4 _ d4,hk 5 _ d5⟩
  have hi1:(i:Int)<(A.length:Int):=by omega
  have hi0:(0:Int)≤(i:Int):=by omega
  have hxw:IntKind.u32.wrap (x:Int)=(x:Int):=Lis.u32_id (by omega) (by omega)
  have hin:¬ (i:Int)<0:=by omega
  have hrl:=True.intro
  generalize rD T ((x:Int),((b.hash % 224:Nat):Int))=R at *
  generalize eD T ((x:Int),((b.hash % 224:Nat):Int))=er at *
  have her:(er == 0)=false:=by simp[he]
  unfold Rb.agg at HHo
  rw[hl] at HIn c0 HAll
  clear d hc hbb he hf hi hh
  generalize b.hash % 224=y at *
  go_enter Tryz.func30,Tryz.ntmps30
  go_wp2_with fail
  refine HFi.out.mono ?_
  rintro e w1 ⟨rfl,rfl⟩
  go_wp2_with fail
  have hb2:=Below.refl W.heap.size W
  go_region_held3 (fun V=>V.cell? ⟨g,0,none⟩=some (.slice ua 224 uc)∧V.cell? ⟨g,1,none⟩=some (.slice (some ⟨gv,o,none⟩) A.length vc)∧V.cell? ⟨gv,o+i*6,none⟩=some (.int .i64 b.pos)∧V.cell? ⟨gv,o+i*6+1,none⟩=some (.bool b.node)∧V.cell? ⟨gv,o+i*6+2,none⟩=some (.int .u32 (b.name:Int))∧V.cell? ⟨gv,o+i*6+3,none⟩=some (.int .u16 (b.typ:Int))∧V.cell? ⟨gv,o+i*6+4,none⟩=some (.string b.lab)∧V.cell? ⟨gv,o+i*6+5,none⟩=some (.int .u32 (b.hash:Int))) (first | exact⟨c0,c1,d0,d1,d2,d3,d4,d5⟩ | go_keep) ((first
    | (go_at_call 73;refine(HIn.out _ (by first | exact hb2 | exact hb2.drew)).mono ?_;rintro e w3 ⟨u3,rfl,hb3',-⟩;have hb3:=(by first | exact hb2.trans (hb3'.mono hb2.size) | exact hb2.drew.trans (hb3'.mono hb2.drew.size));clear c0 c1 d0 d1 d2 d3 d4 d5;obtain⟨c0,c1,d0,d1,d2,d3,d4,d5⟩:=HAll.out _ hb3)
    | (go_at_call 74;refine(HHo.out _ (by first | exact hb2 | exact hb2.drew)).mono ?_;rintro e w2 ⟨rfl,hb2'⟩;replace hb2:=(by first | exact hb2.trans (hb2'.mono hb2.size) | exact hb2.drew.trans (hb2'.mono hb2.drew.size));clear c0 c1 d0 d1 d2 d3 d4 d5;obtain⟨c0,c1,d0,d1,d2,d3,d4,d5⟩:=HAll.out _ hb2)))
  all_goals
    have HE:=Lib.hid hb3
    clear hb2 hb3 hb3' hb2' HSet HBox HAll HIn HHo HD HFi d0 d1 d2 d3 d4 d5
    go_wp2
    go_ret
    exact⟨rfl,HE.out⟩
end
end Go.Proofs.YtmgeiaglandedaaGreatDoor.Ind

namespace Go.Proofs.YtmgeiaglandedaaGreatDoor.Ind
open Go.RowKit Num
open Pro
open Mem (Mm MemC MRet Hm rd blkM)
open Arn (wrL is64)
set_option linter.unusedVariables false
set_option maxRecDepth 100000
section
variable {n g:Nat} {W W':World} {u u' v v':Value} {T T':List Cel} {A A':List Rb} {b:Rb}
set_option maxHeartbeats 2000000 in
theorem rPlaceI (d:Rx n W g u v T A) (hn:n≤W.heap.size) (hl:T.length=224) (hA:A.length≤1000) {i x:Nat} (hi:i<A.length) (hf:fdR A (x:Int)=i) (hx:x<4294967296) (hh:(A.getD i Rb.zero).hash<4294967296) :
    Calls Tryz.prog 40 #[.pointer (some ⟨g,0,none⟩),.int .i64 (x:Int)] W fun e W'=>e = .returned (.tuple #[.int .i64 ((FiC T ((x:Int),(((A.getD i Rb.zero).hash % 224:Nat):Int))).1:Int),.bool (FiC T ((x:Int),(((A.getD i Rb.zero).hash % 224:Nat):Int))).2])∧Below W.heap.size W W':=by
  have HFi:=Lib.hid (rfind_any g u v A (x:Int) W d.box d.b.row hA)
  rw[hf] at HFi
  obtain⟨b,hbb⟩:∃ b,b=A.getD i Rb.zero:=⟨_,rfl⟩
  rw[←hbb] at hh ⊢
  have HHo:Hid (∀ V,Below W.heap.size W V→Calls Tryz.prog 74 #[.pointer (some ⟨g,0,none⟩),b.agg] V fun e w'=>e = .returned (.int .i64 ((b.hash % 224:Nat):Int))∧Below V.heap.size V w'):=fun V hV=>rhome_any g u v T b V (d.below hV).box (d.below hV).t hl hh
  have HIn:Hid (∀ V,Below W.heap.size W V→Calls Tryz.prog 89 #[u,.int .u32 (x:Int),.int .i64 ((b.hash % 224:Nat):Int)] V (fun e w'=>e = .returned (.tuple #[.int .i64 ((FiC T ((x:Int),((b.hash % 224:Nat):Int))).1:Int),.bool (FiC T ((x:Int),((b.hash % 224:Nat):Int))).2])∧Below V.heap.size V w')):=fun V hV=>rFind_any u T (x:Int) ((b.hash % 224:Nat):Int) V (d.t.mono hV (Nat.le_refl _)) (by omega)
  have hm:b.hash % 224<224:=Nat.mod_lt _ (by omega)
  have HD:=Lib.hid d
  have HSet:Hid (∀ V u' T',Below W.heap.size W V→CRow V u' T'→(∀ k,u'.ownBlock=some k→W.heap.size≤k)→Rx n (V.setCell ⟨g,0,none⟩ u') g u' v T' A∧Fr W.heap.size (fun k=>k=g) W (V.setCell ⟨g,0,none⟩ u')):=fun V u' T' h1 h2 h3=>d.setT h1 hn h2 h3
  have HBox:Hid (∀ V,Below W.heap.size W V→V.cell? ⟨g,0,none⟩=some u∧V.cell? ⟨g,1,none⟩=some v∧V.frozen? ⟨g,0,none⟩=false):=fun V hV=>⟨(cell_block (d.below hV).box 0).trans rfl,(cell_block (d.below hV).box 1).trans rfl,Hea.frozen_block (d.below hV).box 0⟩
  obtain⟨c0,c1,-⟩:=HBox.out W (Below.refl _ _)
  obtain⟨va,vc,rfl,v1,v2⟩:=d.b.row.slice
  obtain⟨gv,o,rfl,hgl,hc⟩:=d.b.row.at hi
  obtain⟨ua,uc,rfl,u1,u2,-⟩:=id d.t
  rw[←hbb] at hc
  have d0:W.cell? ⟨gv,o+i*6,none⟩=some (.int .i64 b.pos):=hc 0 _ rfl
  have d1:W.cell? ⟨gv,o+i*6+1,none⟩=some (.bool b.node):=hc 1 _ rfl
  have d2:W.cell? ⟨gv,o+i*6+2,none⟩=some (.int .u32 (b.name:Int)):=hc 2 _ rfl
  have d3:W.cell? ⟨gv,o+i*6+3,none⟩=some (.int .u16 (b.typ:Int)):=hc 3 _ rfl
  have d4:W.cell? ⟨gv,o+i*6+4,none⟩=some (.string b.lab):=hc 4 _ rfl
  have d5:W.cell? ⟨gv,o+i*6+5,none⟩=some (.int .u32 (b.hash:Int)):=hc 5 _ rfl
  have HAll:Hid (∀ V,Below W.heap.size W V→V.cell? ⟨g,0,none⟩=some (.slice ua T.length uc)∧V.cell? ⟨g,1,none⟩=some (.slice (some ⟨gv,o,none⟩) A.length vc)∧V.cell? ⟨gv,o+i*6,none⟩=some (.int .i64 b.pos)∧V.cell? ⟨gv,o+i*6+1,none⟩=some (.bool b.node)∧V.cell? ⟨gv,o+i*6+2,none⟩=some (.int .u32 (b.name:Int))∧V.cell? ⟨gv,o+i*6+3,none⟩=some (.int .u16 (b.typ:Int))∧V.cell? ⟨gv,o+i*6+4,none⟩=some (.string b.lab)∧V.cell? ⟨gv,o+i*6+5,none⟩=some (.int .u32 (b.hash:Int))):=fun V hV=>by
    obtain⟨g0,g1,-⟩:=HBox.out V hV
    have hk:=fun j x (hx:W.cell? ⟨gv,o+i*6+j,none⟩=some x)=>(hV.cell (p:=⟨gv,o+i*6+j,none⟩) hgl).trans hx
    exact⟨g0,g1,hk 0 _ d0,hk 1 _ d1,hk 2 _ d2,hk 3 _ d3,hk 4 _ d4,hk 5 _ d5⟩
  have hi1:(i:Int)<(A.length:Int):=by omega
  have hi0:(0:Int)≤(i:Int):=by omega
  have hxw:IntKind.u32.wrap (x:Int)=(x:Int):=Lis.u32_id (by omega) (by omega)
  have hin:¬ (i:Int)<0:=by omega
  have hrl:=True.intro
  generalize FiC T ((x:Int),((b.hash % 224:Nat):Int))=R at *
  obtain⟨r1,r2⟩:=R
  unfold Rb.agg at HHo
  rw[hl] at HIn c0 HAll
  clear d hc hbb hf hi hh
  generalize b.hash % 224=y at *
  go_enter Tryz.func40,Tryz.ntmps40
  go_wp2_with fail
  refine HFi.out.mono ?_
  rintro e w1 ⟨rfl,rfl⟩
  go_wp2_with fail
  have hb2:=Below.refl W.heap.size W
  go_region_held3 (fun V=>V.cell? ⟨g,0,none⟩=some (.slice ua 224 uc)∧V.cell? ⟨g,1,none⟩=some (.slice (some ⟨gv,o,none⟩) A.length vc)∧V.cell? ⟨gv,o+i*6,none⟩=some (.int .i64 b.pos)∧V.cell? ⟨gv,o+i*6+1,none⟩=some (.bool b.node)∧V.cell? ⟨gv,o+i*6+2,none⟩=some (.int .u32 (b.name:Int))∧V.cell? ⟨gv,o+i*6+3,none⟩=some (.int .u16 (b.typ:Int))∧V.cell? ⟨gv,o+i*6+4,none⟩=some (.string b.lab)∧V.cell? ⟨gv,o+i*6+5,none⟩=some (.int .u32 (b.hash:Int))) (first | exact⟨c0,c1,d0,d1,d2,d3,d4,d5⟩ | go_keep) ((first
    | (go_at_call 89;refine(HIn.out _ (by first | exact hb2 | exact hb2.drew)).mono ?_;rintro e w3 ⟨rfl,hb3'⟩;have hb3:=(by first | exact hb2.trans (hb3'.mono hb2.size) | exact hb2.drew.trans (hb3'.mono hb2.drew.size));clear c0 c1 d0 d1 d2 d3 d4 d5;obtain⟨c0,c1,d0,d1,d2,d3,d4,d5⟩:=HAll.out _ hb3)
    | (go_at_call 74;refine(HHo.out _ (by first | exact hb2 | exact hb2.drew)).mono ?_;rintro e w2 ⟨rfl,hb2'⟩;replace hb2:=(by first | exact hb2.trans (hb2'.mono hb2.size) | exact hb2.drew.trans (hb2'.mono hb2.drew.size));clear c0 c1 d0 d1 d2 d3 d4 d5;obtain⟨c0,c1,d0,d1,d2,d3,d4,d5⟩:=HAll.out _ hb2)))
  all_goals
    have HE:=Lib.hid hb3
    clear hb2 hb3 hb3' hb2' HSet HBox HAll HIn HHo HD HFi d0 d1 d2 d3 d4 d5
    go_wp2
    go_ret2
    exact⟨rfl,HE.out⟩
end
end Go.Proofs.YtmgeiaglandedaaGreatDoor.Ind

namespace Go.Proofs.YtmgeiaglandedaaGreatDoor.Ind
open Go.RowKit Num
open Pro
open Mem (Mm MemC MRet Hm rd blkM)
open Arn (wrL is64)
set_option linter.unusedVariables false
set_option maxRecDepth 100000
section
variable {n g:Nat} {W W':World} {u u' v v':Value} {T T':List Cel} {A A':List Rb} {b:Rb} {hm K:Nat→Nat}
theorem gt_rep (n i:Nat):gt (List.replicate n (0,0)) i=(0,0):=by
  unfold gt
  by_cases h:i<n<;>simp[List.getD,h]
theorem tbl_zero (h:∀ i,i<224→K i=0):List.replicate 224 (0,0)=tbl hm K:=by
  refine eq_tbl (List.length_replicate ..) (fun i hi=>?_)
  rw[gt_rep]
  unfold tb ce
  rw[h i hi,if_pos rfl]
theorem run_make_r (w:World) :
    (Instr.makeSlice 74 (.int .i64 224) (.int .i64 224)).run Tryz.prog w = .ok (.slice (some ⟨w.heap.size,0,none⟩) 224 224) (w.alloc (.cells (madeCells #[.int .u32 0,.int .i64 0] (224*2)) 132)):=by
  obtain⟨i0,hi,hz0,hz1,hz2⟩:=info_parts Pro.infoR
  have hbb:(i0.bytes:Int)*((224:Nat):Int)≤281474976710656:=by rw[hz2];omega
  have hr:=run_make (P:=Tryz.prog) w 74 132 i0 _ Tryz.underlying74 hi hz0 .i64 .i64 ((224:Nat):Int) ((224:Nat):Int) (by omega) (by omega) hbb (by omega)
  simp only[Int.toNat_natCast,hz1] at hr
  exact hr
theorem row_make_r (n:Nat) (hn:n≤1000) (w:World) (t:TypeId):CRow (w.alloc (.cells (madeCells #[.int .u32 0,.int .i64 0] (n*2)) t)) (.slice (some ⟨w.heap.size,0,none⟩) n n) (List.replicate n (0,0)):=by
  refine⟨_,n,by rw[List.length_replicate],by rw[List.length_replicate];omega,by omega,fun hne=>⟨w.heap.size,0,rfl,by rw[size_alloc];omega,fun i hi j x hx=>?_⟩⟩
  rw[List.length_replicate] at hi
  have e:(List.replicate n ((0,0):Cel)).getD i (0,0)=(0,0):=gt_rep n i
  rw[e] at hx
  rw[Nat.zero_add,cell_block (heap_alloc_new w _)]
  have hm:∀ j,j<n*2→(madeCells #[Value.int .u32 0,.int .i64 0] (n*2))[j]? = some (#[Value.int .u32 0,.int .i64 0][j % 2]!):=fun j hj=>by simp[madeCells,hj]
  match j,hx with
  | 0,hx=>simp[encC] at hx;subst hx;rw[hm _ (by omega),show (i*2+0) % 2=0 by omega];rfl
  | 1,hx=>simp[encC] at hx;subst hx;rw[hm _ (by omega),show (i*2+1) % 2=1 by omega];rfl
  | j+2,hx=>simp[encC] at hx
theorem rnew_any (w:World):Calls Tryz.prog 27 #[.int .i64 224] w fun e W=>∃ g u,e = .returned (.pointer (some ⟨g,0,none⟩))∧Rx w.heap.size W g u (.slice none 0 0) (List.replicate 224 (0,0)) []∧Below w.heap.size w W:=by
  have hmk:=fun W=>run_make_r W
  have HRow:=Lib.hid (row_make_r 224 (by omega) w 132)
  have HB1:=Lib.hid (below_made w (.cells (madeCells #[.int .u32 0,.int .i64 0] (224*2)) 132))
  have HS:=Lib.hid (size_alloc w (.cells (madeCells #[.int .u32 0,.int .i64 0] (224*2)) 132))
  generalize madeCells #[.int .u32 0,.int .i64 0] (224*2)=M at *
  go_enter Tryz.func27,Tryz.ntmps27
  go_wp2
  clear hmk
  have HE:Hid (Rx w.heap.size ((w.alloc (.cells M 132)).alloc (.cells #[.slice (some ⟨w.heap.size,0,none⟩) 224 224,.slice none 0 0] 76)) (w.heap.size+1) (.slice (some ⟨w.heap.size,0,none⟩) 224 224) (.slice none 0 0) (List.replicate 224 (0,0)) []∧Below w.heap.size w ((w.alloc (.cells M 132)).alloc (.cells #[.slice (some ⟨w.heap.size,0,none⟩) 224 224,.slice none 0 0] 76))):=by
    have hb2:=below_made (w.alloc (.cells M 132)) (.cells #[.slice (some ⟨w.heap.size,0,none⟩) 224 224,.slice none 0 0] 76)
    refine⟨⟨?_,Nat.le_succ _,HRow.out.mono hb2 (Nat.le_refl _),World.ownsRow_nil _ _ _ _,fun b h=>?_,(by intro h;cases h),Dj.nil _⟩,HB1.out.trans (hb2.mono HB1.out.size)⟩
    · rw[←HS.out];exact heap_alloc_new _ _
    · cases h
      exact⟨Nat.le_refl _,Nat.ne_of_lt (Nat.lt_succ_self _)⟩
  clear HRow HB1 HS
  go_ret
  exact⟨_,_,rfl,HE.out⟩
def nthI (A:List Rb) (N:Int):Nat:=(Int.tmod N (A.length:Int)).natAbs
theorem nthI_lt {A:List Rb} (h:0<A.length) (N:Int):nthI A N<A.length:=by
  unfold nthI
  have:=Int.natAbs_tmod N (A.length:Int)
  rw[this]
  exact Nat.mod_lt _ (by omega)
theorem s6_heap {k:Nat} {t:TypeId} {a0 a1 a2 a3 a4 a5:Value} (h:W.heap[k]? = some (.cells #[a0,a1,a2,a3,a4,a5] t (0,0))) (v0 v1 v2 v3 v4 v5:Value):(S6 W k v0 v1 v2 v3 v4 v5).heap[k]? = some (.cells #[v0,v1,v2,v3,v4,v5] t (0,0)):=by
  have:=Arn.heap_setCell_own (o:=5) (Arn.heap_setCell_own (o:=4) (Arn.heap_setCell_own (o:=3) (Arn.heap_setCell_own (o:=2) (Arn.heap_setCell_own (o:=1) (Arn.heap_setCell_own (o:=0) h v0) v1) v2) v3) v4) v5
  simpa[S3,S4,S5,S6] using this
theorem s6_below {k:Nat} (hb:n≤k) (v0 v1 v2 v3 v4 v5:Value):Below n W (S6 W k v0 v1 v2 v3 v4 v5) :=
  (((((((Below.refl _ _).setCell (p:=⟨k,0,none⟩) hb v0).setCell (p:=⟨k,1,none⟩) hb v1).setCell (p:=⟨k,2,none⟩) hb v2).setCell (p:=⟨k,3,none⟩) hb v3).setCell (p:=⟨k,4,none⟩) hb v4).setCell (p:=⟨k,5,none⟩) hb v5)
set_option maxHeartbeats 500000 in
theorem nth_some (d:Rx n W g u v T A) (hA:A.length≤1000) (h0:0<A.length) (N:Int) (h64:is64 N) :
    Calls Tryz.prog 28 #[.pointer (some ⟨g,0,none⟩),.int .i64 N] W fun e W'=>e = .returned (.tuple #[(A.getD (nthI A N) Rb.zero).agg,.bool true])∧Below W.heap.size W W':=by
  have hi:=nthI_lt h0 N
  have hti:(Int.tmod N (A.length:Int)).natAbs=nthI A N:=rfl
  generalize nthI A N=i at *
  obtain⟨b,hbb⟩:∃ b,b=A.getD i Rb.zero:=⟨_,rfl⟩
  obtain⟨w0,hw0⟩:∃ w0,w0=W.alloc (.cells #[.int .i64 0,.bool false,.int .u32 0,.int .u16 0,.string { data := #[] },.int .u32 0] 62):=⟨_,rfl⟩
  have hb0:Below W.heap.size W w0:=by rw[hw0];exact below_made _ _
  have hbx:w0.heap[W.heap.size]? = some (.cells #[.int .i64 0,.bool false,.int .u32 0,.int .u16 0,.string { data := #[] },.int .u32 0] 62 (0,0)):=by rw[hw0];exact heap_alloc_new _ _
  have d2:=d.below hb0
  have c1:w0.cell? ⟨g,1,none⟩=some v:=(cell_block d2.box 1).trans rfl
  obtain⟨va,vc,rfl,v1,v2⟩:=d2.b.row.slice
  obtain⟨gv,o,rfl,hgl,hc⟩:=d2.b.row.at hi
  rw[←hbb] at hc ⊢
  have e0:w0.cell? ⟨gv,o+i*6,none⟩=some (.int .i64 b.pos):=hc 0 _ rfl
  have e1:w0.cell? ⟨gv,o+i*6+1,none⟩=some (.bool b.node):=hc 1 _ rfl
  have e2:w0.cell? ⟨gv,o+i*6+2,none⟩=some (.int .u32 (b.name:Int)):=hc 2 _ rfl
  have e3:w0.cell? ⟨gv,o+i*6+3,none⟩=some (.int .u16 (b.typ:Int)):=hc 3 _ rfl
  have e4:w0.cell? ⟨gv,o+i*6+4,none⟩=some (.string b.lab):=hc 4 _ rfl
  have e5:w0.cell? ⟨gv,o+i*6+5,none⟩=some (.int .u32 (b.hash:Int)):=hc 5 _ rfl
  have r0:w0.cell? ⟨W.heap.size,0,none⟩=some (.int .i64 0):=(cell_block hbx 0).trans rfl
  have r1:w0.cell? ⟨W.heap.size,1,none⟩=some (.bool false):=(cell_block hbx 1).trans rfl
  have r2:w0.cell? ⟨W.heap.size,2,none⟩=some (.int .u32 0):=(cell_block hbx 2).trans rfl
  have r3:w0.cell? ⟨W.heap.size,3,none⟩=some (.int .u16 0):=(cell_block hbx 3).trans rfl
  have r4:w0.cell? ⟨W.heap.size,4,none⟩=some (.string { data := #[] }):=(cell_block hbx 4).trans rfl
  have r5:w0.cell? ⟨W.heap.size,5,none⟩=some (.int .u32 0):=(cell_block hbx 5).trans rfl
  have f0:w0.frozen? ⟨W.heap.size,0,none⟩=false:=Hea.frozen_block hbx 0
  have f1:w0.frozen? ⟨W.heap.size,1,none⟩=false:=Hea.frozen_block hbx 1
  have f2:w0.frozen? ⟨W.heap.size,2,none⟩=false:=Hea.frozen_block hbx 2
  have f3:w0.frozen? ⟨W.heap.size,3,none⟩=false:=Hea.frozen_block hbx 3
  have f4:w0.frozen? ⟨W.heap.size,4,none⟩=false:=Hea.frozen_block hbx 4
  have f5:w0.frozen? ⟨W.heap.size,5,none⟩=false:=Hea.frozen_block hbx 5
  have HS:=Lib.hid (s6_heap hbx (.int .i64 b.pos) (.bool b.node) (.int .u32 (b.name:Int)) (.int .u16 (b.typ:Int)) (.string b.lab) (.int .u32 (b.hash:Int)))
  have HB:=Lib.hid (hb0.trans (s6_below (W:=w0) (n:=W.heap.size) (k:=W.heap.size) (Nat.le_refl _) (.int .i64 b.pos) (.bool b.node) (.int .u32 (b.name:Int)) (.int .u16 (b.typ:Int)) (.string b.lab) (.int .u32 (b.hash:Int))))
  have hA1:((A.length:Int) == 0)=false:=by rw[beq_eq_false_iff_ne];omega
  have hi1:(i:Int)<(A.length:Int):=by omega
  have hi0:(0:Int)≤(i:Int):=by omega
  obtain⟨t,ht⟩:∃ t,Int.tmod N (A.length:Int)=t:=⟨_,rfl⟩
  rw[ht] at hti
  have hmx:max t (-t)=(i:Int):=by omega
  have ht1:t<1000:=by omega
  have ht2 : -1000<t:=by omega
  have hneg:IntKind.i64.wrap (-t) = -t:=Ind.wrap_id (by omega) (by omega)
  unfold Rb.agg
  clear d d2 hc hbb hbx hb0 hti h64
  go_enter Tryz.func28,Tryz.ntmps28
  go_upto_region 1 with fail
  rw[←hw0]
  clear hw0
  go_upto_region 4 with fail
  have hcs:t=(i:Int)∨(t<0 ∧ -t=(i:Int)):=by omega
  clear ht hneg hmx hA1
  rcases hcs with rfl | ⟨htn,hcs⟩
  · have hn:IntKind.i64.wrap (-(i:Int)) = -(i:Int):=Ind.wrap_id (by omega) (by omega)
    have hm:max (i:Int) (-(i:Int))=(i:Int):=by omega
    clear ht1 ht2
    go_wp2
    show bodyPost _ _ _ _ _ (S6 w0 W.heap.size (.int .i64 b.pos) (.bool b.node) (.int .u32 (b.name:Int)) (.int .u16 (b.typ:Int)) (.string b.lab) (.int .u32 (b.hash:Int)))
    generalize S6 w0 W.heap.size (.int .i64 b.pos) (.bool b.node) (.int .u32 (b.name:Int)) (.int .u16 (b.typ:Int)) (.string b.lab) (.int .u32 (b.hash:Int))=W9 at HS HB ⊢
    have q0:=(cell_block HS.out 0).trans rfl
    have q1:=(cell_block HS.out 1).trans rfl
    have q2:=(cell_block HS.out 2).trans rfl
    have q3:=(cell_block HS.out 3).trans rfl
    have q4:=(cell_block HS.out 4).trans rfl
    have q5:=(cell_block HS.out 5).trans rfl
    exact bodyPost_ret (v:=.tuple #[.agg #[.int .i64 b.pos,.bool b.node,.int .u32 (b.name:Int),.int .u16 (b.typ:Int),.string b.lab,.int .u32 (b.hash:Int)],.bool true]) (by simp[results,Tryz.results28,go_sem,q0,q1,q2,q3,q4,q5]) rfl ⟨rfl,HB.out⟩
  · have hn:IntKind.i64.wrap (-t)=(i:Int):=(Ind.wrap_id (by omega) (by omega)).trans hcs
    have hm:max t (i:Int)=(i:Int):=by omega
    have hm2:max t (-t)=(i:Int):=by omega
    have hl1:t < -t:=by omega
    have hl2:t<(i:Int):=by omega
    have hl3:¬ -t<t:=by omega
    go_wp2
    show bodyPost _ _ _ _ _ (S6 w0 W.heap.size (.int .i64 b.pos) (.bool b.node) (.int .u32 (b.name:Int)) (.int .u16 (b.typ:Int)) (.string b.lab) (.int .u32 (b.hash:Int)))
    generalize S6 w0 W.heap.size (.int .i64 b.pos) (.bool b.node) (.int .u32 (b.name:Int)) (.int .u16 (b.typ:Int)) (.string b.lab) (.int .u32 (b.hash:Int))=W9 at HS HB ⊢
    have q0:=(cell_block HS.out 0).trans rfl
    have q1:=(cell_block HS.out 1).trans rfl
    have q2:=(cell_block HS.out 2).trans rfl
    have q3:=(cell_block HS.out 3).trans rfl
    have q4:=(cell_block HS.out 4).trans rfl
    have q5:=(cell_block HS.out 5).trans rfl
    exact bodyPost_ret (v:=.tuple #[.agg #[.int .i64 b.pos,.bool b.node,.int .u32 (b.name:Int),.int .u16 (b.typ:Int),.string b.lab,.int .u32 (b.hash:Int)],.bool true]) (by simp[results,Tryz.results28,go_sem,q0,q1,q2,q3,q4,q5]) rfl ⟨rfl,HB.out⟩
end
end Go.Proofs.YtmgeiaglandedaaGreatDoor.Ind

namespace Go.Proofs.YtmgeiaglandedaaGreatDoor.Ind
open Go.RowKit Num
open Pro
open Mem (Mm MemC MRet Hm rd blkM)
open Sla (Sl St Lv pl aT pV Lo)
open Arn (wrL is64)
set_option linter.unusedVariables false
set_option maxRecDepth 100000
section
variable {n g:Nat} {W W' w:World} {u u' v v':Value} {T T':List Cel} {A A':List Rb} {h:Hm}
theorem Rx.fr (d:Rx n W g u v T A) (hf:Fr W.heap.size (blkM h) W W') (hl:Lo h n):Rx n W' g u v T A:=by
  have hk:∀ k,n≤k→k<W.heap.size→W'.heap[k]? = W.heap[k]?:=fun k h1 h2=>hf.block k h2 (fun q=>by have:=hl.m k q;omega)
  refine⟨(hk g d.ng (Array.getElem?_eq_some_iff.1 d.box).1).trans d.box,d.ng,?_,d.b.fr hf hl,d.tn,d.bg,d.d⟩
  obtain⟨a,cap,e,h2,h3,h4⟩:=id d.t
  refine⟨a,cap,e,h2,h3,fun hne=>?_⟩
  obtain⟨b,o,rfl,hb,hc⟩:=h4 hne
  have hn:=(d.tn b (by rw[e];rfl)).1
  refine⟨b,o,rfl,Nat.lt_of_lt_of_le hb hf.size,fun i hi j x hx=>?_⟩
  rw[←hc i hi j x hx]
  unfold World.cell?
  rw[hk b hn hb]
theorem same_any {X:Fx} {K:Nat→Nat} {hm:Nat→Nat} (d:Ix X K w) (r:Rx n w g u v (tbl hm K) A) (hl:Lo X.h n) :
    Calls Tryz.prog 39 #[pV X.h,.pointer (some ⟨g,0,none⟩)] w fun e W=>e = .returned (.bool true)∧Ix X K W∧Fr w.heap.size (blkM X.h) w W:=by
  have HS:=Lib.hid (Slots_any d)
  have HR:Hid (∀ V,Fr w.heap.size (blkM X.h) w V→Rx n V g u v (tbl hm K) A):=fun V hV=>r.fr hV hl
  clear d r
  unfold pV at *
  go_enter Tryz.func39,Tryz.ntmps39
  go_wp2_with fail
  refine HS.out.mono ?_
  rintro e w1 ⟨us,rfl,hx1,hf1,b1,cs,rfl,hb1,hcs,-,-⟩
  have r1:=HR.out _ hf1
  obtain⟨bt,off,c,rfl,q1,q2,hblt,hc⟩:=r1.t.open (by rw[tbl_len];omega)
  rw[tbl_len] at q1 hc
  have HC:Hid (∀ V,Below w1.heap.size w1 V→V.cell? ⟨g,0,none⟩=some (.slice (some ⟨bt,off,none⟩) 224 c)∧∀ j,j<224→V.cell? ⟨b1,j,none⟩=some (.int .u32 (K j:Int))∧V.cell? ⟨bt,off+j*2,none⟩=some (.int .u32 (K j:Int))):=fun V hV=>by
    refine⟨(cell_block ((r1.below hV).box) 0).trans (by rw[tbl_len];rfl),fun j hj=>⟨(cell_block ((hV.block b1 (Array.getElem?_eq_some_iff.1 hb1).1).trans hb1) j).trans (hcs j hj),?_⟩⟩
    refine(hV.cell (p:=⟨bt,off+j*2,none⟩) hblt).trans ?_
    rw[(hc j hj).1,gt_in _ _ hj,tb_one]
  have HX:=Lib.hid hx1
  have HF:=Lib.hid hf1
  obtain⟨c0,-⟩:=HC.out w1 (Below.refl _ _)
  clear hx1 hf1 hb1 hcs r1 hblt hc HS HR
  go_wp2
  go_loopw [6] (fun i wr=>∃ j:Nat,j≤224∧i = .int .i64 j∧Hid (Below w1.heap.size w1 wr)) (fun i _=>224-(intOf i).toNat)
  case atStart=>exact⟨0,by omega,rfl,Below.refl _ _⟩
  case round =>
    clear c0
    obtain⟨j,hj,rfl,HB⟩:=hrel
    obtain⟨c0,hc⟩:=HC.out wr HB.out
    by_cases hlt:j<224
    · have hlt1:(j:Int)<224:=by omega
      have hlt0:(0:Int)≤(j:Int):=by omega
      obtain⟨c1,c2⟩:=hc j hlt
      clear hc
      generalize K j=y at c1 c2
      have hyy:((y:Int) != (y:Int))=false:=by simp
      have hkw:IntKind.i64.wrap ((j:Int)+1)=((j+1:Nat):Int):=(Ind.wrap_id (by omega) (by omega)).trans (by omega)
      go_wp2_with fail
      go_quiet (fail)
      have HB2:=Lib.hid (below_drewN HB.out nq)
      generalize wr.drewN nq=wz at HB2 ⊢
      clear c0 c1 c2
      go_wp2
      go_roundw
      case rel=>exact⟨j+1,by omega,by go_num,HB2.out⟩
      case measure=>simp[intOf];omega
    · obtain rfl:j=224:=by omega
      have HE:Hid (Ix X K wr∧Fr w.heap.size (blkM X.h) w wr):=⟨HX.out.below HB.out,HF.out.trans ((Fr.of_below HB.out).mono HF.out.size (fun _ _ q=>q))⟩
      clear hc c0
      go_wp2
      go_ret
      exact⟨rfl,HE.out⟩
end
end Go.Proofs.YtmgeiaglandedaaGreatDoor.Ind

namespace Go.Proofs.YtmgeiaglandedaaGreatDoor.Ind
open Go.RowKit Num
open Pro
open Arn (wrL is64)
set_option linter.unusedVariables false
set_option maxRecDepth 100000
theorem ta_id {w:World} {g:Nat} {T:List Cel} (h:TA w g T) (j:Nat) (hj:j<T.length) (x:Int):TA (w.setCell ⟨g,j*2,none⟩ (.int .u32 x)) g (T.set j (x,(gt T j).2)):=by
  refine⟨by simpa using h.1,fun i hi=>?_⟩
  rw[List.length_set] at hi
  obtain⟨⟨h1,h2⟩,h3,h4⟩:=h.2 i hi
  obtain⟨⟨k1,k2⟩,k3,k4⟩:=h.2 j hj
  have hne:∀ {o o':Nat},o≠o'→(⟨g,o,none⟩:Addr)≠⟨g,o',none⟩:=fun hq e=>hq (congrArg Addr.off e)
  rw[gt_set T j i _ hj]
  refine⟨⟨?_,?_⟩,?_,?_⟩
  · by_cases e : i = j
    · subst e
      rw[if_pos rfl]
      exact World.cell?_setCell_same _ _ _ h1
    · rw[if_neg e,World.cell?_setCell_other _ _ _ _ (hne (by omega))]
      exact h1
  · rw[World.cell?_setCell_other _ _ _ _ (hne (by omega))]
    by_cases e:i=j
    · subst e;rw[if_pos rfl];exact h2
    · rw[if_neg e];exact h2
  · rw[World.frozen?_setCell];exact h3
  · rw[World.frozen?_setCell];exact h4
theorem tbl_move {hm K:Nat→Nat} {q y:Nat} (hq:q<224) (hk:K q≠0) (hy:y≠0) (hh:hm y=hm (K q)):(tbl hm K).set q ((y:Int),(gt (tbl hm K) q).2)=tbl hm (up K q y):=by
  refine eq_tbl (by rw[List.length_set,tbl_len]) (fun i hi=>?_)
  rw[gt_set _ _ _ _ (by rw[tbl_len];exact hq),gt_in _ _ hq]
  by_cases e:i=q
  · subst e
    rw[if_pos rfl]
    have e2:tb hm (up K i y) i=ce hm y:=by unfold tb;rw[up_at]
    rw[e2]
    refine Prod.ext (ce_one hm y).symm ?_
    rw[ce_two hy,hh]
    exact ce_two hk
  · rw[if_neg e,gt_in _ _ hi]
    unfold tb
    rw[up_ne _ _ e]
end Go.Proofs.YtmgeiaglandedaaGreatDoor.Ind

namespace Go.Proofs.YtmgeiaglandedaaGreatDoor.Ind
open Go.RowKit Num
open Pro
open Arn (wrL is64)
set_option linter.unusedVariables false
set_option maxRecDepth 100000
section
variable {n g:Nat} {W W':World} {u u' v v':Value} {T T':List Cel} {A A':List Rb} {b:Rb}
set_option maxHeartbeats 2000000 in
theorem rMoveI_ok (d:Rx n W g u v T A) (hn:n≤W.heap.size) (hl:T.length=224) (hA:A.length≤1000) {i k x y q:Nat} (hi:i<A.length) (hk:k<A.length) (hf:fdR A (x:Int)=i) (hf2:fdR A (y:Int)=k) (hx:x<4294967296) (hy:y<4294967296) (hh:(A.getD i Rb.zero).hash<4294967296)
    (heq:(A.getD k Rb.zero).hash=(A.getD i Rb.zero).hash) (hq:q<224) (hFi:FiC T ((x:Int),(((A.getD i Rb.zero).hash % 224:Nat):Int))=(q,true)) :
    Calls Tryz.prog 79 #[.pointer (some ⟨g,0,none⟩),.int .i64 (x:Int),.int .i64 (y:Int)] W fun e W'=>e = .returned (.int .i64 0)∧Fr W.heap.size (fun k=>k=g) W W'∧∃ u',Rx n W' g u' v (T.set q ((y:Int),(gt T q).2)) A:=by
  have HF1:=Lib.hid (rfind_any g u v A (x:Int) W d.box d.b.row hA)
  have HF2:=Lib.hid (rfind_any g u v A (y:Int) W d.box d.b.row hA)
  rw[hf] at HF1
  rw[hf2] at HF2
  have HPl:Hid (∀ V,Below W.heap.size W V→Calls Tryz.prog 40 #[.pointer (some ⟨g,0,none⟩),.int .i64 (x:Int)] V fun e w'=>e = .returned (.tuple #[.int .i64 (q:Int),.bool true])∧Below V.heap.size V w'):=fun V hV=>by
    have:=rPlaceI (d.below hV) (Nat.le_trans hn hV.size) hl hA hi hf hx hh
    rw[hFi] at this
    exact this
  have HSet:Hid (∀ V u' T',Below W.heap.size W V→CRow V u' T'→(∀ k,u'.ownBlock=some k→W.heap.size≤k)→Rx n (V.setCell ⟨g,0,none⟩ u') g u' v T' A∧Fr W.heap.size (fun k=>k=g) W (V.setCell ⟨g,0,none⟩ u')):=fun V u' T' h1 h2 h3=>d.setT h1 hn h2 h3
  have HBox:Hid (∀ V,Below W.heap.size W V→V.cell? ⟨g,0,none⟩=some u∧V.cell? ⟨g,1,none⟩=some v∧V.frozen? ⟨g,0,none⟩=false):=fun V hV=>⟨(cell_block (d.below hV).box 0).trans rfl,(cell_block (d.below hV).box 1).trans rfl,Hea.frozen_block (d.below hV).box 0⟩
  have HRow:Hid (∀ V,Below W.heap.size W V→CRow V u T):=fun V hV=>(d.below hV).t
  have hgn:=d.ng
  have hgl:=(Array.getElem?_eq_some_iff.1 d.box).1
  obtain⟨c0,c1,-⟩:=HBox.out W (Below.refl _ _)
  obtain⟨va,vc,rfl,v1,v2⟩:=d.b.row.slice
  obtain⟨gv,o,rfl,-,hc⟩:=d.b.row.at hi
  obtain⟨gv',o',e0,-,hc'⟩:=d.b.row.at hk
  injection e0 with e0
  injection e0 with e0 e1
  subst e0 e1
  obtain⟨b,off,c,rfl,u1,u2,hblt,-⟩:=d.t.open (by omega)
  obtain⟨z,hz⟩:∃ z,z=(A.getD i Rb.zero).hash:=⟨_,rfl⟩
  have d5:W.cell? ⟨gv,o+i*6+5,none⟩=some (.int .u32 (z:Int)):=by rw[hz];exact hc 5 _ rfl
  have d5':W.cell? ⟨gv,o+k*6+5,none⟩=some (.int .u32 (z:Int)):=by rw[hz,←heq];exact hc' 5 _ rfl
  have hzz:((z:Int) != (z:Int))=false:=by simp
  have hi1:(i:Int)<(A.length:Int):=by omega
  have hi0:(0:Int)≤(i:Int):=by omega
  have hk1:(k:Int)<(A.length:Int):=by omega
  have hk0:(0:Int)≤(k:Int):=by omega
  have hin:¬ (i:Int)<0:=by omega
  have hkn:¬ (k:Int)<0:=by omega
  have hyw:IntKind.u32.wrap (y:Int)=(y:Int):=Lis.u32_id (by omega) (by omega)
  have hq1:(q:Int)<224:=by omega
  have hq0:(0:Int)≤(q:Int):=by omega
  obtain⟨i0,hi',hz0,hz1,hz2⟩:=info_parts Pro.infoR
  have HV:=Lib.hid (valsA_length encC_len T)
  have HV1:=Lib.hid (valsC_one T)
  have HTA:=Lib.hid (fun(V:World) (v:Value) (hO:V.ownsRow W.heap.size 132 2 v T.length (valsA encC T))=>TA.own hO (by omega))
  have HSt:=Lib.hid (fun(V:World) gg (hV:TA V gg T)=>ta_id hV q (by omega) (y:Int))
  have HHl:Hid (T.length=224):=hl
  rw[hl] at u1 HRow c0 HBox
  clear d hc hc' hz heq hf hf2 hh hFi hi hk
  go_enter Tryz.func79,Tryz.ntmps79
  go_wp2_with fail
  refine HF1.out.mono ?_
  rintro e w1 ⟨rfl,rfl⟩
  go_wp2_with fail
  refine HF2.out.mono ?_
  rintro e w1 ⟨rfl,rfl⟩
  go_wp2_with fail
  go_quiet (fail)
  have HB1:Hid (Below W.heap.size W (W.drewN nq)):=below_drewN (Below.refl _ _) _
  generalize W.drewN nq=w1 at HB1 ⊢
  clear c0 c1 d5 d5'
  go_wp2_with fail
  refine(HPl.out _ HB1.out).mono ?_
  rintro e w2 ⟨rfl,hb2⟩
  have HB2:=Lib.hid (HB1.out.trans (hb2.mono HB1.out.size))
  clear hb2
  have HOw:Hid ((w2.alloc (.cells #[] 132)).ownsRow W.heap.size 132 2 (.slice (some ⟨w2.heap.size,0,none⟩) 0 0) 0 (valsA encC [])) :=
    ⟨rfl,.inr ⟨w2.heap.size,0,#[],rfl,HB2.out.size,heap_alloc_new _ _,by omega,by unfold maxLen;omega,rfl,rfl⟩⟩
  have HB3:=Lib.hid (HB2.out.alloc HB2.out.size (.cells #[] 132))
  have HCe:=Lib.hid (cell_cells (HRow.out _ HB3.out))
  obtain⟨c0,-,-⟩:=HBox.out _ HB3.out
  have hsz:=size_alloc w2 (.cells #[] 132)
  have hsz1:=HB2.out.size
  go_wp2_with (at_builtin;refine wpList_append_own _ rfl (.tmp 51) (.tmp 55) 74 rfl W.heap.size 132 i0 (.agg #[.int .u32 0,.int .i64 0]) 2 16 Tryz.underlying74 hi' hz0 hz1 hz2 rfl (by decide) _ _ _ rfl HOw.out ⟨b,off,none⟩ 224 c (valsA encC T) rfl (HV.out.trans (by rw[HHl.out])) HCe.out HV1.out (by unfold maxLen;omega) (by omega) (by omega) ?_)
  intro v' w4 hown' hgrow _
  have HB4:Hid (Below W.heap.size W w4):=HB3.out.grown hgrow (by omega) (fun r hr=>by have:w2.heap.size=r:=Option.some.inj hr;omega)
  rw[←HHl.out] at hown'
  obtain⟨g3,cap,rfl,k1,k2,k3,k4⟩:=HTA.out _ _ hown'
  rw[HHl.out] at k1
  obtain⟨⟨e0,-⟩,e1,-⟩:=k4.2 q (by rw[HHl.out];exact hq)
  have HT5:=Lib.hid (HSt.out _ _ k4)
  have HB5:Hid (Below W.heap.size W (w4.setCell ⟨g3,q*2,none⟩ (.int .u32 (y:Int)))):=HB4.out.setCell (by show W.heap.size≤g3;omega) _
  obtain⟨s1,-,s3⟩:=HBox.out _ HB5.out
  have HE:=Lib.hid (HSet.out _ (.slice (some ⟨g3,0,none⟩) 224 cap) _ HB5.out (by
    have:=HT5.out.row (cap:=cap) (by rw[List.length_set,HHl.out];exact k1) k2
    rw[List.length_set,HHl.out] at this
    exact this) (fun kk hkk=>by
      have:kk=g3:=by cases hkk;rfl
      omega))
  have hg3:¬ g3=g:=fun e=>by omega
  clear hown' hgrow k4 HOw HCe HB3 hsz c0 HSet HBox HRow HSt HTA HF1 HF2 HPl HB2 HB1
  rw[HHl.out]
  go_wp2
  go_ret
  exact⟨rfl,HE.out.2,_,HE.out.1⟩
set_option maxHeartbeats 2000000 in
theorem rMoveI_out (d:Rx n W g u v T A) (hn:n≤W.heap.size) (hl:T.length=224) (hA:A.length≤1000) {i k x y q:Nat} (hi:i<A.length) (hk:k<A.length) (hf:fdR A (x:Int)=i) (hf2:fdR A (y:Int)=k) (hx:x<4294967296) (hy:y<4294967296) (hh:(A.getD i Rb.zero).hash<4294967296)
    (heq:(A.getD k Rb.zero).hash=(A.getD i Rb.zero).hash) (hFi:FiC T ((x:Int),(((A.getD i Rb.zero).hash % 224:Nat):Int))=(q,false)) :
    Calls Tryz.prog 79 #[.pointer (some ⟨g,0,none⟩),.int .i64 (x:Int),.int .i64 (y:Int)] W fun e W'=>e = .returned (.int .i64 7)∧Below W.heap.size W W':=by
  have HF1:=Lib.hid (rfind_any g u v A (x:Int) W d.box d.b.row hA)
  have HF2:=Lib.hid (rfind_any g u v A (y:Int) W d.box d.b.row hA)
  rw[hf] at HF1
  rw[hf2] at HF2
  have HPl:Hid (∀ V,Below W.heap.size W V→Calls Tryz.prog 40 #[.pointer (some ⟨g,0,none⟩),.int .i64 (x:Int)] V fun e w'=>e = .returned (.tuple #[.int .i64 (q:Int),.bool false])∧Below V.heap.size V w'):=fun V hV=>by
    have:=rPlaceI (d.below hV) (Nat.le_trans hn hV.size) hl hA hi hf hx hh
    rw[hFi] at this
    exact this
  have HSet:Hid (∀ V u' T',Below W.heap.size W V→CRow V u' T'→(∀ k,u'.ownBlock=some k→W.heap.size≤k)→Rx n (V.setCell ⟨g,0,none⟩ u') g u' v T' A∧Fr W.heap.size (fun k=>k=g) W (V.setCell ⟨g,0,none⟩ u')):=fun V u' T' h1 h2 h3=>d.setT h1 hn h2 h3
  have HBox:Hid (∀ V,Below W.heap.size W V→V.cell? ⟨g,0,none⟩=some u∧V.cell? ⟨g,1,none⟩=some v∧V.frozen? ⟨g,0,none⟩=false):=fun V hV=>⟨(cell_block (d.below hV).box 0).trans rfl,(cell_block (d.below hV).box 1).trans rfl,Hea.frozen_block (d.below hV).box 0⟩
  have HRow:Hid (∀ V,Below W.heap.size W V→CRow V u T):=fun V hV=>(d.below hV).t
  have hgn:=d.ng
  have hgl:=(Array.getElem?_eq_some_iff.1 d.box).1
  obtain⟨c0,c1,-⟩:=HBox.out W (Below.refl _ _)
  obtain⟨va,vc,rfl,v1,v2⟩:=d.b.row.slice
  obtain⟨gv,o,rfl,-,hc⟩:=d.b.row.at hi
  obtain⟨gv',o',e0,-,hc'⟩:=d.b.row.at hk
  injection e0 with e0
  injection e0 with e0 e1
  subst e0 e1
  obtain⟨b,off,c,rfl,u1,u2,hblt,-⟩:=d.t.open (by omega)
  obtain⟨z,hz⟩:∃ z,z=(A.getD i Rb.zero).hash:=⟨_,rfl⟩
  have d5:W.cell? ⟨gv,o+i*6+5,none⟩=some (.int .u32 (z:Int)):=by rw[hz];exact hc 5 _ rfl
  have d5':W.cell? ⟨gv,o+k*6+5,none⟩=some (.int .u32 (z:Int)):=by rw[hz,←heq];exact hc' 5 _ rfl
  have hzz:((z:Int) != (z:Int))=false:=by simp
  have hi1:(i:Int)<(A.length:Int):=by omega
  have hi0:(0:Int)≤(i:Int):=by omega
  have hk1:(k:Int)<(A.length:Int):=by omega
  have hk0:(0:Int)≤(k:Int):=by omega
  have hin:¬ (i:Int)<0:=by omega
  have hkn:¬ (k:Int)<0:=by omega
  rw[hl] at u1 HRow c0 HBox
  clear d hc hc' hz heq hf hf2 hh hFi hi hk
  go_enter Tryz.func79,Tryz.ntmps79
  go_wp2_with fail
  refine HF1.out.mono ?_
  rintro e w1 ⟨rfl,rfl⟩
  go_wp2_with fail
  refine HF2.out.mono ?_
  rintro e w1 ⟨rfl,rfl⟩
  go_wp2_with fail
  go_quiet (fail)
  have HB1:Hid (Below W.heap.size W (W.drewN nq)):=below_drewN (Below.refl _ _) _
  generalize W.drewN nq=w1 at HB1 ⊢
  clear c0 c1 d5 d5'
  go_wp2_with fail
  refine(HPl.out _ HB1.out).mono ?_
  rintro e w2 ⟨rfl,hb2⟩
  have HB2:=Lib.hid (HB1.out.trans (hb2.mono HB1.out.size))
  clear hb2
  clear HSet HBox HRow HF1 HF2 HPl HB1
  go_wp2
  go_ret
  exact⟨rfl,HB2.out⟩
set_option maxHeartbeats 2000000 in
theorem rMoveI_unlike (d:Rx n W g u v T A) (hn:n≤W.heap.size) (hl:T.length=224) (hA:A.length≤1000) {i k x y:Nat} (hi:i<A.length) (hk:k<A.length) (hf:fdR A (x:Int)=i) (hf2:fdR A (y:Int)=k) (hx:x<4294967296) (hy:y<4294967296) (hh:(A.getD i Rb.zero).hash<4294967296)
    (heq:(A.getD i Rb.zero).hash≠(A.getD k Rb.zero).hash) :
    Calls Tryz.prog 79 #[.pointer (some ⟨g,0,none⟩),.int .i64 (x:Int),.int .i64 (y:Int)] W fun e W'=>e = .returned (.int .i64 30)∧Below W.heap.size W W':=by
  have HF1:=Lib.hid (rfind_any g u v A (x:Int) W d.box d.b.row hA)
  have HF2:=Lib.hid (rfind_any g u v A (y:Int) W d.box d.b.row hA)
  rw[hf] at HF1
  rw[hf2] at HF2
  have HBox:Hid (∀ V,Below W.heap.size W V→V.cell? ⟨g,0,none⟩=some u∧V.cell? ⟨g,1,none⟩=some v∧V.frozen? ⟨g,0,none⟩=false):=fun V hV=>⟨(cell_block (d.below hV).box 0).trans rfl,(cell_block (d.below hV).box 1).trans rfl,Hea.frozen_block (d.below hV).box 0⟩
  have HRow:Hid (∀ V,Below W.heap.size W V→CRow V u T):=fun V hV=>(d.below hV).t
  have hgn:=d.ng
  have hgl:=(Array.getElem?_eq_some_iff.1 d.box).1
  obtain⟨c0,c1,-⟩:=HBox.out W (Below.refl _ _)
  obtain⟨va,vc,rfl,v1,v2⟩:=d.b.row.slice
  obtain⟨gv,o,rfl,-,hc⟩:=d.b.row.at hi
  obtain⟨gv',o',e0,-,hc'⟩:=d.b.row.at hk
  injection e0 with e0
  injection e0 with e0 e1
  subst e0 e1
  obtain⟨b,off,c,rfl,u1,u2,hblt,-⟩:=d.t.open (by omega)
  obtain⟨z,hz⟩:∃ z,z=(A.getD i Rb.zero).hash:=⟨_,rfl⟩
  obtain⟨z',hz'⟩:∃ z,z=(A.getD k Rb.zero).hash:=⟨_,rfl⟩
  rw[←hz,←hz'] at heq
  have d5:W.cell? ⟨gv,o+i*6+5,none⟩=some (.int .u32 (z:Int)):=by rw[hz];exact hc 5 _ rfl
  have d5':W.cell? ⟨gv,o+k*6+5,none⟩=some (.int .u32 (z':Int)):=by rw[hz'];exact hc' 5 _ rfl
  have hzz:((z:Int) != (z':Int))=true:=by simp;omega
  have hi1:(i:Int)<(A.length:Int):=by omega
  have hi0:(0:Int)≤(i:Int):=by omega
  have hk1:(k:Int)<(A.length:Int):=by omega
  have hk0:(0:Int)≤(k:Int):=by omega
  have hin:¬ (i:Int)<0:=by omega
  have hkn:¬ (k:Int)<0:=by omega
  rw[hl] at u1 HRow c0 HBox
  clear d hc hc' hz hz' heq hf hf2 hh hi hk
  go_enter Tryz.func79,Tryz.ntmps79
  go_wp2_with fail
  refine HF1.out.mono ?_
  rintro e w1 ⟨rfl,rfl⟩
  go_wp2_with fail
  refine HF2.out.mono ?_
  rintro e w1 ⟨rfl,rfl⟩
  go_wp2_with fail
  go_quiet (fail)
  have HB1:Hid (Below W.heap.size W (W.drewN nq)):=below_drewN (Below.refl _ _) _
  generalize W.drewN nq=w1 at HB1 ⊢
  clear c0 c1 d5 d5'
  clear HBox HRow HF1 HF2
  go_wp2
  go_ret
  exact⟨rfl,HB1.out⟩
end
end Go.Proofs.YtmgeiaglandedaaGreatDoor.Ind
