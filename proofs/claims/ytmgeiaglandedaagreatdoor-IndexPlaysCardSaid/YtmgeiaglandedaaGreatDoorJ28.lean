/- What IndexPlays keeps: the blocks that are there, in both indexes. -/
import Derived.Test.YtmgeiaglandedaaGreatDoorJ26
import Derived.Test.YtmgeiaglandedaaGreatDoorJ23
import Derived.Test.YtmgeiaglandedaaGreatDoorJ27
import Derived.Test.YtmgeiaglandedaaGreatDoorJ22
namespace Go.Proofs.YtmgeiaglandedaaGreatDoor.Ind
open Go.RowKit Num
open Pro
open Mem (Mm MemC MRet Hm rd blkM)
open Sla (Sl St Lv pl aT pV Lo tkF Ts X0)
open Arn (wrL is64)
set_option linter.unusedVariables false
set_option maxRecDepth 100000
structure Fp (E:List Nat) (B:Nat→Bk) (A:List Rb):Prop where
  a:∀ c∈A,∃ x:Nat,c.pos=(x:Int)∧x∈E∧B x=c.bk
  all:∀ x∈E,∃ c∈A,c.pos=(x:Int)
  nd:(A.map (·.pos)).Nodup
  fw:∀ c∈A,c.few∧c.Ty
section
variable {E:List Nat} {B:Nat→Bk} {A:List Rb} {a i j x:Nat} {b c:Rb} {p:Int}
theorem Fp.nil (B:Nat→Bk):Fp [] B []:=⟨fun c hc=>(by cases hc),fun x hx=>(by cases hx),List.nodup_nil,fun c hc=>(by cases hc)⟩
theorem Fp.push (F:Fp E B A) (ha:a ∉ E) (hf:b.few) (ht:b.Ty) (hp:is64 (a:Int)):Fp (a::E) (upB B a b.bk) (A ++ [{ b with pos:=(a:Int) }]):=by
  refine⟨fun c hc=>?_,fun x hx=>?_,?_,fun c hc=>?_⟩
  · rcases List.mem_append.1 hc with hc | hc
    · obtain⟨x,h1,h2,h3⟩:=F.a c hc
      exact⟨x,h1,List.mem_cons_of_mem _ h2,by rw[upB_ne _ _ (by rintro rfl;exact ha h2)];exact h3⟩
    · obtain rfl:=List.mem_singleton.1 hc
      exact⟨a,rfl,.head _,upB_at _ _ _⟩
  · rcases List.mem_cons.1 hx with rfl | hx
    · exact⟨_,List.mem_append_right _ (.head _),rfl⟩
    · obtain⟨c,hc,hp⟩:=F.all x hx
      exact⟨c,List.mem_append_left _ hc,hp⟩
  · rw[List.map_append,List.nodup_append]
    refine⟨F.nd,by simp,fun p hp q hq=>?_⟩
    obtain⟨c,hc,rfl⟩:=List.mem_map.1 hp
    obtain rfl:q=(a:Int):=by simpa using hq
    obtain⟨x,h1,h2,-⟩:=F.a c hc
    intro e
    have:x=a:=by omega
    exact ha (this ▸ h2)
  · rcases List.mem_append.1 hc with hc | hc
    · exact F.fw c hc
    · obtain rfl:=List.mem_singleton.1 hc
      exact⟨hf,⟨hp,ht.name,ht.typ,ht.hash,ht.lab⟩⟩
theorem nd_getR (h:(A.map (·.pos)).Nodup) (hi:i<A.length) (hj:j<A.length) (hne:j≠i):(A.getD j Rb.zero).pos≠(A.getD i Rb.zero).pos:=by
  rw[List.Nodup,List.pairwise_iff_getElem] at h
  rw[getR A hi,getR A hj]
  rcases Nat.lt_or_gt_of_ne hne with q | q
  · have:=h j i (by simpa using hj) (by simpa using hi) q
    simpa using this
  · have:=h i j (by simpa using hi) (by simpa using hj) q
    simpa using this.symm
theorem Fp.fd (F:Fp E B A) (hi:i<A.length):fdR A (A.getD i Rb.zero).pos=(i:Int):=fdR_here hi (fun j hj=>nd_getR F.nd hi (by omega) (by omega)) rfl
theorem Fp.fd_of (F:Fp E B A) (hi:i<A.length) (hp:(A.getD i Rb.zero).pos=p):fdR A p=(i:Int):=by rw[←hp];exact F.fd hi
theorem Fp.rm (F:Fp E B A) (x:Nat):Fp (E.filter (fun y=>decide (y≠x))) B (A.filter (fun c=>decide (c.pos≠(x:Int)))):=by
  refine⟨fun c hc=>?_,fun y hy=>?_,F.nd.sublist (List.filter_sublist.map _),fun c hc=>F.fw c (List.mem_filter.1 hc).1⟩
  · obtain⟨h1,h2⟩:=List.mem_filter.1 hc
    obtain⟨y,g1,g2,g3⟩:=F.a c h1
    have h3:c.pos≠(x:Int):=by simpa using h2
    exact⟨y,g1,List.mem_filter.2 ⟨g2,by simp;omega⟩,g3⟩
  · obtain⟨h1,h2⟩:=List.mem_filter.1 hy
    obtain⟨c,hc,hp⟩:=F.all y h1
    have h3:y≠x:=by simpa using h2
    exact⟨c,List.mem_filter.2 ⟨hc,by simp;omega⟩,hp⟩
end
def nzK (K:Nat→Nat) (i:Nat):Nat:=if i<224 then K i else 0
theorem nzK_in (K:Nat→Nat) {i:Nat} (hi:i<224):nzK K i=K i:=if_pos hi
theorem nzK_out (K:Nat→Nat) {i:Nat} (hi:224≤i):nzK K i=0:=if_neg (by omega)
theorem tbl_nz (hm K:Nat→Nat):tbl hm (nzK K)=tbl hm K:=tbl_congr (fun i hi=>nzK_in K hi) (fun _ _ _=>rfl)
structure Ps (w0:World) (h:Hm) (n:Nat) (T:List Sl) (E:List Nat) (B:Nat→Bk) (lb:List Int) (K:Nat→Nat) (g:Nat) (u v:Value) (A:List Rb) (k:Nat) (W:World):Prop where
  d:Wi w0 h n T E B lb K W
  r:Rx n W g u v (tbl (hmB B) K) A
  f:Fp E B A
  z:∀ i,224≤i→K i=0
  ka:A.length≤k
section
variable {h:Hm} {l lb lb':List Int} {T T':List Sl} {w0 w w' W W':World} {n g a x y i k k':Nat} {E:List Nat} {B:Nat→Bk} {K K':Nat→Nat} {e:Ending} {u v u' v':Value} {A A':List Rb} {b c:Rb} {T2:List Cel}
theorem Ps.below (P:Ps w0 h n T E B lb K g u v A k W) (hb:Below W.heap.size W W'):Ps w0 h n T E B lb K g u v A k W':=⟨P.d.below hb,P.r.below hb,P.f,P.z,P.ka⟩
theorem Ps.drew (P:Ps w0 h n T E B lb K g u v A k W):Ps w0 h n T E B lb K g u v A k W.drew:=P.below (Below.refl _ _).drew
theorem Ps.next (P:Ps w0 h n T E B lb K g u v A k W) (hk:k≤k'):Ps w0 h n T E B lb K g u v A k' W:=⟨P.d,P.r,P.f,P.z,Nat.le_trans P.ka hk⟩
theorem Ps.code (P:Ps w0 h n T E B lb K g u v A k W) (hd:Wi w0 h n T' E B lb' K W') (hf:Fr W.heap.size (blkM h) W W'):Ps w0 h n T' E B lb' K g u v A k W':=⟨hd,P.r.fr hf P.d.lo,P.f,P.z,P.ka⟩
theorem Wi.ref (d:Wi w0 h n T E B lb K W) (hf:Fr W.heap.size (fun k=>k=g) W W') (hg:n≤g):Wi w0 h n T E B lb K W':=d.low (hf.toBelow d.nn (fun k hk q=>by omega))
theorem Ps.kth (P:Ps w0 h n T E B lb K g u v A k W) (hi:i<A.length):∃ x:Nat,(A.getD i Rb.zero).pos=(x:Int)∧x∈E∧B x=(A.getD i Rb.zero).bk∧x≠0∧x<4294967296∧(A.getD i Rb.zero).hash<4294967296∧hmB B x=(A.getD i Rb.zero).hash % 224∧fdR A (x:Int)=(i:Int):=by
  obtain⟨x,h1,h2,h3⟩:=P.f.a _ (memR hi)
  have hf:=P.d.facts h2
  refine⟨x,h1,h2,h3,by omega,by omega,(P.f.fw _ (memR hi)).2.hash,?_,P.f.fd_of hi h1⟩
  unfold hmB hom
  rw[h3]
  rfl
def DcR (w0:World) (h:Hm) (n:Nat) (T:List Sl) (E:List Nat) (B:Nat→Bk) (lb:List Int) (g:Nat) (v:Value) (A:List Rb) (k:Nat) (r:Int) (W:World) (e:Ending) (W':World):Prop :=
  e = .returned (.int .i64 r)∧Fr W.heap.size (fun k=>k=g) W W'∧∃ K' u',Ps w0 h n T E B lb K' g u' v A k W'
theorem Ps.same (P:Ps w0 h n T E B lb K g u v A k W) {r:Int} (hb:Below W.heap.size W W'):DcR w0 h n T E B lb g v A k r W (.returned (.int .i64 r)) W':=⟨rfl,Fr.of_below hb,K,u,P.below hb⟩
theorem dc_turn {r:Int} (f:Fp E B A) (ka:A.length≤k) (hd:Wi w0 h n T E B lb K' W) (hf:Fr W.heap.size (fun k=>k=g) W W') (hr:Rx n W' g u' v (tbl (hmB B) K') A):DcR w0 h n T E B lb g v A k r W (.returned (.int .i64 r)) W' :=
  ⟨rfl,hf,nzK K',u',(hd.ref hf hr.ng).congr (fun i hi=>nzK_in K' hi),by rw[tbl_nz];exact hr,f,fun i hi=>nzK_out K' hi,ka⟩
theorem Ps.delete (P:Ps w0 h n T E B lb K g u v A k W) (hi:i<A.length) (hk:k≤1000) :
    Calls Tryz.prog 29 #[pV h,.int .i64 (A.getD i Rb.zero).pos] W fun e W'=>∃ r:Int,e = .returned (.int .i64 r)∧Fr W.heap.size (blkM h) W W' ∧
      ∀ V,Below W'.heap.size W' V→Calls Tryz.prog 30 #[.pointer (some ⟨g,0,none⟩),.int .i64 (A.getD i Rb.zero).pos] V (DcR w0 h n T E B lb g v A k r V):=by
  have hA:A.length≤1000:=Nat.le_trans P.ka hk
  obtain⟨x,h1,h2,h3,hx0,hx,hh,hm,hfd⟩:=P.kth hi
  rw[h1]
  refine(P.d.delete h2).mono ?_
  rintro e W' ⟨hf,⟨he,hn,hW⟩ | ⟨j,he,hj,hkj,hW⟩⟩
  · refine⟨7,he,hf,fun V hV=>?_⟩
    have P':=(P.code hW hf).below hV
    have h7:=eD_out P.d.ok P.z hx0 (hom_lt (B x)) hn
    rw[hm] at h7
    refine(rDelI_no P'.r P'.d.nn (tbl_len _ _) hA hi hfd hx hh (by rw[h7];omega)).mono ?_
    rintro e V' ⟨rfl,hb⟩
    rw[h7]
    exact P'.same hb
  · refine⟨0,he,hf,fun V hV=>?_⟩
    have hr:=(P.r.fr hf P.d.lo).below hV
    have hW2:=hW.below hV
    obtain⟨h7,h8⟩:=eD_in P.d.ok P.z hx0 hj hkj
    rw[hm] at h7 h8
    refine(rDelI_ok hr hW2.nn (tbl_len _ _) hA hi hfd hx hh h7).mono ?_
    rintro e V' ⟨rfl,hb,u',hr'⟩
    rw[h8] at hr'
    exact dc_turn P.f P.ka hW2 hb hr'
theorem Ps.insert (P:Ps w0 h n T E B lb K g u v A k W) (hi:i<A.length) (hk:k≤1000) :
    Calls Tryz.prog 31 #[pV h,.int .i64 (A.getD i Rb.zero).pos] W fun e W'=>∃ r:Int,e = .returned (.int .i64 r)∧Fr W.heap.size (blkM h) W W' ∧
      ∀ V,Below W'.heap.size W' V→Calls Tryz.prog 32 #[.pointer (some ⟨g,0,none⟩),.int .i64 (A.getD i Rb.zero).pos] V (DcR w0 h n T E B lb g v A k r V):=by
  have hA:A.length≤1000:=Nat.le_trans P.ka hk
  obtain⟨x,h1,h2,h3,hx0,hx,hh,hm,hfd⟩:=P.kth hi
  rw[h1]
  refine(P.d.insert h2).mono ?_
  rintro e W' ⟨hf,⟨he,hn,hW⟩ | ⟨he,hn,hz,hW⟩ | ⟨he,hn,hz,hW⟩⟩
  · refine⟨8,he,hf,fun V hV=>?_⟩
    have P':=(P.code hW hf).below hV
    have h7:=eI_in P.d.ok hx0 (hom_lt (B x)) hn
    change eI _ ((x:Int),(hmB B x:Int))=8 at h7
    rw[hm] at h7
    refine(rInsI_no P'.r P'.d.nn (tbl_len _ _) hA hi hfd hx hh (by rw[h7];omega)).mono ?_
    rintro e V' ⟨rfl,hb⟩
    rw[h7]
    exact P'.same hb
  · refine⟨5,he,hf,fun V hV=>?_⟩
    have P':=(P.code hW hf).below hV
    have h7:=eI_full P.d.ok hx0 (hom_lt (B x)) (fun⟨q,h4,h5⟩=>hn q h4 h5) hz
    change eI _ ((x:Int),(hmB B x:Int))=5 at h7
    rw[hm] at h7
    refine(rInsI_no P'.r P'.d.nn (tbl_len _ _) hA hi hfd hx hh (by rw[h7];omega)).mono ?_
    rintro e V' ⟨rfl,hb⟩
    rw[h7]
    exact P'.same hb
  · refine⟨0,he,hf,fun V hV=>?_⟩
    have hr:=(P.r.fr hf P.d.lo).below hV
    have hW2:=hW.below hV
    have hni:¬ In 224 K x:=fun⟨q,h4,h5⟩=>hn q h4 h5
    have h7:=eI_ok P.d.ok hx0 (hom_lt (B x)) hni hz
    have h8:=rI_tbl P.d.ok P.z hx0 (hom_lt (B x)) hni hz
    change eI _ ((x:Int),(hmB B x:Int))=0 at h7
    rw[hm] at h7 h8
    refine(rInsI_ok hr hW2.nn (tbl_len _ _) hA hi hfd hx hh h7).mono ?_
    rintro e V' ⟨rfl,hb,u',hr'⟩
    rw[h8] at hr'
    exact dc_turn P.f P.ka hW2 hb hr'
theorem Ps.place (P:Ps w0 h n T E B lb K g u v A k W) (hi:i<A.length) (hk:k≤1000) :
    Calls Tryz.prog 36 #[pV h,.int .i64 (A.getD i Rb.zero).pos] W fun e W'=>∃ (p:Nat) (o:Bool),e = .returned (.tuple #[.int .i64 (p:Int),.bool o])∧Fr W.heap.size (blkM h) W W'∧Ps w0 h n T E B lb K g u v A k W' ∧
      ∀ V,Below W'.heap.size W' V→Calls Tryz.prog 40 #[.pointer (some ⟨g,0,none⟩),.int .i64 (A.getD i Rb.zero).pos] V fun e V'=>e = .returned (.tuple #[.int .i64 (p:Int),.bool o])∧Below V.heap.size V V':=by
  have hA:A.length≤1000:=Nat.le_trans P.ka hk
  obtain⟨x,h1,h2,h3,hx0,hx,hh,hm,hfd⟩:=P.kth hi
  rw[h1]
  refine(P.d.place h2).mono ?_
  rintro e W' ⟨he,hW,hf⟩
  have P':=P.code hW hf
  refine⟨_,_,he,hf,P',fun V hV=>?_⟩
  refine(rPlaceI (P'.below hV).r (P'.below hV).d.nn (tbl_len _ _) hA hi hfd hx hh).mono ?_
  rintro e V' ⟨rfl,hb⟩
  have h9:FiC (tbl (hmB B) K) ((x:Int),(((A.getD i Rb.zero).hash % 224:Nat):Int))=slP (slF 224 (hmB B) K (hmB B x) (isP (x:Int))):=by
    rw[←hm,isP_nat]
    have:=Fi_tbl P.d.ok P.z hx0 (hom_lt (B x))
    unfold FiC
    exact this
  rw[h9]
  exact⟨rfl,hb⟩
theorem Ps.move (P:Ps w0 h n T E B lb K g u v A k W) (hi:i<A.length) {j:Nat} (hj:j<A.length) (hn:∀ q,q<224→(K q:Int)≠(A.getD j Rb.zero).pos) (hk:k≤1000) :
    Calls Tryz.prog 37 #[pV h,.int .i64 (A.getD i Rb.zero).pos,.int .i64 (A.getD j Rb.zero).pos] W fun e W'=>∃ r:Int,e = .returned (.int .i64 r)∧Fr W.heap.size (blkM h) W W' ∧
      ∀ V,Below W'.heap.size W' V→Calls Tryz.prog 79 #[.pointer (some ⟨g,0,none⟩),.int .i64 (A.getD i Rb.zero).pos,.int .i64 (A.getD j Rb.zero).pos] V fun e V'=>e = .returned (.int .i64 r)∧Fr V.heap.size (fun k=>k=g) V V' ∧
        ∃ K' u',Ps w0 h n T E B lb K' g u' v A k V'∧(r=0→i≠j→∀ q,q<224→(K' q:Int)≠(A.getD i Rb.zero).pos):=by
  have hA:A.length≤1000:=Nat.le_trans P.ka hk
  obtain⟨x,h1,h2,h3,hx0,hx,hh,hm,hfd⟩:=P.kth hi
  obtain⟨y,g1,g2,g3,hy0,hy,hhy,hmy,hfdy⟩:=P.kth hj
  rw[h1,g1]
  have hny:∀ q,q<224→K q≠y:=fun q hq e=>hn q hq (by rw[g1,e])
  have hhx:(B x).hash=(A.getD i Rb.zero).hash:=by rw[h3];rfl
  have hhy2:(B y).hash=(A.getD j Rb.zero).hash:=by rw[g3];rfl
  refine(P.d.move h2 g2 hny).mono ?_
  rintro e W' ⟨hf,⟨he,hne,hW⟩ | ⟨he,heq,hno,hW⟩ | ⟨q,he,heq,hq,hkq,hW,hin⟩⟩
  · refine⟨30,he,hf,fun V hV=>?_⟩
    have P':=(P.code hW hf).below hV
    refine(rMoveI_unlike P'.r P'.d.nn (tbl_len _ _) hA hi hj hfd hfdy hx hy hh (by rw[←hhx,←hhy2];exact hne)).mono ?_
    rintro e V' ⟨rfl,hb⟩
    exact⟨rfl,Fr.of_below hb,K,u,P'.below hb,fun q=>by cases q⟩
  · refine⟨7,he,hf,fun V hV=>?_⟩
    have P':=(P.code hW hf).below hV
    have h9:FiC (tbl (hmB B) K) ((x:Int),(((A.getD i Rb.zero).hash % 224:Nat):Int))=(0,false):=by
      rw[←hm]
      have:=Fi_tbl P.d.ok P.z hx0 (hom_lt (B x))
      rw[show slF 224 (hmB B) K (hmB B x) (fun y=>decide (y=x))=none from slF_none (hom_lt (B x)) hno] at this
      unfold FiC
      exact this
    refine(rMoveI_out P'.r P'.d.nn (tbl_len _ _) hA hi hj hfd hfdy hx hy hh (by rw[←hhx,←hhy2];exact heq.symm) h9).mono ?_
    rintro e V' ⟨rfl,hb⟩
    exact⟨rfl,Fr.of_below hb,K,u,P'.below hb,fun q=>by cases q⟩
  · refine⟨0,he,hf,fun V hV=>?_⟩
    have hr:=(P.r.fr hf P.d.lo).below hV
    have hW2:=hW.below hV
    have hkq0:K q≠0:=by omega
    have h9:FiC (tbl (hmB B) K) ((x:Int),(((A.getD i Rb.zero).hash % 224:Nat):Int))=(q,true):=by
      rw[←hm]
      have:=Fi_tbl P.d.ok P.z hx0 (hom_lt (B x))
      have h1:=slF_one P.d.ok hq hkq0
      rw[hkq] at h1
      change slF 224 (hmB B) K (hmB B x) (fun y=>decide (y=x))=some q at h1
      rw[h1] at this
      unfold FiC
      exact this
    have hmxy:hmB B y=hmB B (K q):=by rw[hkq];exact(hmB_hash heq).symm
    refine(rMoveI_ok hr hW2.nn (tbl_len _ _) hA hi hj hfd hfdy hx hy hh (by rw[←hhx,←hhy2];exact heq.symm) hq h9).mono ?_
    rintro e V' ⟨rfl,hb,u',hr'⟩
    rw[tbl_move hq hkq0 hy0 hmxy] at hr'
    obtain⟨-,-,K',u2,hP⟩:=dc_turn (r:=0) P.f P.ka hW2 hb hr'
    exact⟨rfl,hb,nzK (up K q y),u',⟨(hW2.ref hb hr'.ng).congr (fun i hi=>nzK_in _ hi),by rw[tbl_nz];exact hr',P.f,fun i hi=>nzK_out _ hi,P.ka⟩,fun _ hij s hs e=>by
      rw[nzK_in _ hs] at e
      have e2:up K q y s=x:=by omega
      have hxy:x≠y:=fun z=>nd_getR P.f.nd hj hi hij (by rw[h1,g1,z])
      rcases(hin x hx0).1 ⟨s,hs,e2⟩ with z | ⟨z,-⟩
      · exact hxy z
      · exact z rfl⟩
end
end Go.Proofs.YtmgeiaglandedaaGreatDoor.Ind
