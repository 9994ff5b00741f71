/- Both indexes: who is looked for. -/
import Derived.Test.YtmgeiaglandedaaGreatDoorJ29
namespace Go.Proofs.YtmgeiaglandedaaGreatDoor.Ind
open Go.RowKit Num
open Pro
open Mem (Mm MemC MRet Hm rd blkM)
open Sla (Sl St Lv pl aT pV Lo tkF Ts X0)
open Arn (wrL is64)
set_option linter.unusedVariables false
set_option maxRecDepth 100000
section
variable {h:Hm} {l lb lb':List Int} {T T':List Sl} {w0 w w' W W':World} {n g a x y i k k':Nat} {E:List Nat} {B:Nat→Bk} {hm K K':Nat→Nat} {e:Ending} {u v u' v':Value} {A A':List Rb} {b c:Rb} {T2:List Cel}
theorem rEntry_any (d:Rx n W g u v (tbl hm K) A) (hn:n≤W.heap.size) (hA:A.length≤1000) (O:Ok 224 hm K) (hkb:∀ i,i<224→K i<4294967296) (nm ty hs:Nat) (hh:hs<4294967296) (P:Nat→Bool)
    (hP:∀ q,q<224→K q≠0→∃ i,i<A.length∧fdR A (K q:Int)=(i:Int)∧(P (K q)=true↔RLk ⟨0,false,nm,ty,ByteArray.empty,hs⟩ (A.getD i Rb.zero)))
    (hPh:∀ q,K q≠0→P (K q)=true→hm (K q)=hs % 224) :
    Calls Tryz.prog 80 #[.pointer (some ⟨g,0,none⟩),.int .u32 (nm:Int),.int .u16 (ty:Int),.int .u32 (hs:Int)] W fun e W'=>e = .returned (.tuple #[.int .i64 ((bkP K (slF 224 hm K (hs % 224) P)).1:Int),.bool (bkP K (slF 224 hm K (hs % 224) P)).2])∧Below W.heap.size W W':=by
  have HL:=Lib.hid (rlook_any d hn hA O hkb ⟨0,false,nm,ty,ByteArray.empty,hs⟩ hh P hP hPh)
  change Hid (Calls _ _ #[_,.agg #[.int .i64 0,.bool false,.int .u32 (nm:Int),.int .u16 (ty:Int),.string { data := #[] },.int .u32 (hs:Int)]] _ _) at HL
  simp only at HL
  generalize bkP K (slF 224 hm K (hs % 224) P)=R at HL ⊢
  obtain⟨R1,R2⟩:=R
  clear d hP hPh hkb O
  go_enter Tryz.func80,Tryz.ntmps80
  go_wp2_with fail
  refine HL.out.mono ?_
  rintro e w1 ⟨rfl,hb⟩
  have HB:=Lib.hid hb
  clear hb HL
  go_wp2
  go_ret2
  exact⟨rfl,HB.out⟩
theorem rNode_any (d:Rx n W g u v (tbl hm K) A) (hn:n≤W.heap.size) (hA:A.length≤1000) (O:Ok 224 hm K) (hkb:∀ i,i<224→K i<4294967296) (nm:Nat) (s:ByteArray) (hs:Nat) (hh:hs<4294967296) (P:Nat→Bool)
    (hP:∀ q,q<224→K q≠0→∃ i,i<A.length∧fdR A (K q:Int)=(i:Int)∧(P (K q)=true↔RLk ⟨0,true,nm,0,s,hs⟩ (A.getD i Rb.zero)))
    (hPh:∀ q,K q≠0→P (K q)=true→hm (K q)=hs % 224) :
    Calls Tryz.prog 81 #[.pointer (some ⟨g,0,none⟩),.int .u32 (nm:Int),.string s,.int .u32 (hs:Int)] W fun e W'=>e = .returned (.tuple #[.int .i64 ((bkP K (slF 224 hm K (hs % 224) P)).1:Int),.bool (bkP K (slF 224 hm K (hs % 224) P)).2])∧Below W.heap.size W W':=by
  have HL:=Lib.hid (rlook_any d hn hA O hkb ⟨0,true,nm,0,s,hs⟩ hh P hP hPh)
  change Hid (Calls _ _ #[_,.agg #[.int .i64 0,.bool true,.int .u32 (nm:Int),.int .u16 0,.string s,.int .u32 (hs:Int)]] _ _) at HL
  simp only at HL
  generalize bkP K (slF 224 hm K (hs % 224) P)=R at HL ⊢
  obtain⟨R1,R2⟩:=R
  clear d hP hPh hkb O
  go_enter Tryz.func81,Tryz.ntmps81
  go_wp2_with fail
  refine HL.out.mono ?_
  rintro e w1 ⟨rfl,hb⟩
  have HB:=Lib.hid hb
  clear hb HL
  go_wp2
  go_ret2
  exact⟨rfl,HB.out⟩
theorem Ps.kq (P:Ps w0 h n T E B lb K g u v A k W) {q:Nat} (hq:q<224) (hk:K q≠0):∃ i,i<A.length∧fdR A (K q:Int)=(i:Int)∧B (K q)=(A.getD i Rb.zero).bk∧(A.getD i Rb.zero).few:=by
  obtain⟨c,hc,hp⟩:=P.f.all _ (P.d.ix.kin hq hk)
  obtain⟨i,hi,rfl⟩:=List.getElem_of_mem hc
  rw[←getR A hi] at hc hp
  obtain⟨x,h1,-,h3⟩:=P.f.a _ hc
  have:x=K q:=by omega
  subst this
  exact⟨i,hi,P.f.fd_of hi hp,h3,(P.f.fw _ hc).1⟩
theorem Ps.kbd (P:Ps w0 h n T E B lb K g u v A k W):∀ i,i<224→K i<4294967296:=fun i hi=>by have:=P.d.ix.kbd hi;omega
theorem Ps.entry (P:Ps w0 h n T E B lb K g u v A k W) (hk:k≤1000) (nm ty hs:Nat) (hh:hs<4294967296) :
    Calls Tryz.prog 64 #[pV h,.int .u32 (nm:Int),.int .u16 (ty:Int),.int .u32 (hs:Int)] W fun e W'=>∃ (p:Nat) (o:Bool),e = .returned (.tuple #[.int .i64 (p:Int),.bool o])∧Fr W.heap.size (blkM h) W W'∧Ps w0 h n T E B lb K g u v A k W' ∧
      ∀ V,Below W'.heap.size W' V→Calls Tryz.prog 80 #[.pointer (some ⟨g,0,none⟩),.int .u32 (nm:Int),.int .u16 (ty:Int),.int .u32 (hs:Int)] V fun e V'=>e = .returned (.tuple #[.int .i64 (p:Int),.bool o])∧Below V.heap.size V V':=by
  refine(P.d.entry (nm:Int) (ty:Int) hs hh).mono ?_
  rintro e W' ⟨he,hW,hf⟩
  have P':=P.code hW hf
  refine⟨_,_,he,hf,P',fun V hV=>?_⟩
  refine rEntry_any (P'.below hV).r (P'.below hV).d.nn (Nat.le_trans P.ka hk) P.d.ok P.kbd nm ty hs hh _ (fun q hq hq0=>?_) (fun q hq0 hq=>?_)
  · obtain⟨i,hi,h1,h2,h3⟩:=P.kq hq hq0
    refine⟨i,hi,h1,?_⟩
    unfold keyB RLk
    rw[show (fx h T E B lb).B (K q)=_ from h2,decide_eq_true_iff]
    constructor
    · rintro ⟨g1,g2,g3,g4⟩
      have hn:(A.getD i Rb.zero).node=false:=by
        unfold Bk.tag Rb.bk at g1
        cases e:(A.getD i Rb.zero).node with
        | false=>rfl
        | true=>simp only[e] at g1;cases g1
      exact⟨hn,Int.ofNat.inj g2,Int.ofNat.inj g3,h3.2 hn,Int.ofNat.inj g4⟩
    · rintro ⟨g1,g2,g3,g4,g5⟩
      refine⟨?_,congrArg Nat.cast g2,congrArg Nat.cast g3,congrArg Nat.cast g5⟩
      unfold Bk.tag Rb.bk
      simp only[g1]
      rfl
  · unfold keyB at hq
    have:=(of_decide_eq_true hq).2.2.2
    have h2:(B (K q)).hash=hs:=Int.ofNat.inj this
    unfold hmB hom
    rw[h2]
theorem Ps.node (P:Ps w0 h n T E B lb K g u v A k W) (hk:k≤1000) (nm:Nat) (s:ByteArray) (hs:Nat) (hh:hs<4294967296) :
    Calls Tryz.prog 57 #[pV h,.int .u32 (nm:Int),.string s,.int .u32 (hs:Int)] W fun e W'=>∃ (p:Nat) (o:Bool),e = .returned (.tuple #[.int .i64 (p:Int),.bool o])∧Fr W.heap.size (blkM h) W W'∧Ps w0 h n T E B lb K g u v A k W' ∧
      ∀ V,Below W'.heap.size W' V→Calls Tryz.prog 81 #[.pointer (some ⟨g,0,none⟩),.int .u32 (nm:Int),.string s,.int .u32 (hs:Int)] V fun e V'=>e = .returned (.tuple #[.int .i64 (p:Int),.bool o])∧Below V.heap.size V V':=by
  refine(Node_any P.d.ix (nm:Int) s hs hh).mono ?_
  intro e W' q
  have P':=P.code (P.d.same q) q.2.2
  refine⟨_,_,q.1,q.2.2,P',fun V hV=>?_⟩
  refine rNode_any (P'.below hV).r (P'.below hV).d.nn (Nat.le_trans P.ka hk) P.d.ok P.kbd nm s hs hh _ (fun q hq hq0=>?_) (fun q hq0 hq=>?_)
  · obtain⟨i,hi,h1,h2,h3⟩:=P.kq hq hq0
    refine⟨i,hi,h1,?_⟩
    unfold keyB RLk
    rw[show (fx h T E B lb).B (K q)=_ from h2,Bool.and_eq_true,decide_eq_true_iff,decide_eq_true_iff]
    constructor
    · rintro ⟨⟨g1,g2,g3,g4⟩,g5⟩
      have hn:(A.getD i Rb.zero).node=true:=by
        unfold Bk.tag Rb.bk at g1
        cases e:(A.getD i Rb.zero).node with
        | true=>rfl
        | false=>simp only[e] at g1;cases g1
      exact⟨hn,Int.ofNat.inj g2,Int.ofNat.inj g3,bs_inj g5,Int.ofNat.inj g4⟩
    · rintro ⟨g1,g2,g3,g4,g5⟩
      refine⟨⟨?_,congrArg Nat.cast g2,congrArg Nat.cast g3,congrArg Nat.cast g5⟩,congrArg bs g4⟩
      unfold Bk.tag Rb.bk
      simp only[g1]
      rfl
  · rw[Bool.and_eq_true] at hq
    have hq1:=hq.1
    unfold keyB at hq1
    have:=(of_decide_eq_true hq1).2.2.2
    have h2:(B (K q)).hash=hs:=Int.ofNat.inj this
    show hom (B (K q))=_
    unfold hom
    rw[h2]
end
end Go.Proofs.YtmgeiaglandedaaGreatDoor.Ind
