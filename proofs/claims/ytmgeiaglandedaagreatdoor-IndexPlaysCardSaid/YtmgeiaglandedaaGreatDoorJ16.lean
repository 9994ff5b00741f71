/- The landed head in a memory: Put, live or free. The landed head in a memory: what Get leans on. -/
import Derived.Test.YtmgeiaglandedaaGreatDoorJ15
namespace Go.Proofs.YtmgeiaglandedaaGreatDoor.Hea
open Go.RowKit Num
open Mem (Mm MemC MRet Hm rd blkM)
set_option linter.unusedVariables false
theorem put_any (h:Hm) (v:Value) (M:Mm) (a:Nat) (b:Blk) (w:World) (ht:Tab w) (hm:MemC h w v M) (hb:b.Ok) (hr:RightP b) (hro:Room M a b.tag) :
    Calls Tryz.prog 86 #[v,.int .i64 (a:Int),b.agg] w fun e w'=>∃ lk,MRet h w v { M with l:=Arn.wrL M.l a (encL b),lk:=lk } (.int .i64 0) e w':=by
  cases hq:(b.tag == 0) with
  | true=>exact put_free h v M a b w ht hm hb hr hro hq
  | false=>exact put_live h v M a b w ht hm hb hr hro hq
end Go.Proofs.YtmgeiaglandedaaGreatDoor.Hea

namespace Go.Proofs.YtmgeiaglandedaaGreatDoor.Hea
open Go.RowKit Go.Shelf Num
open Mem (Mm MemC MRet Hm rd blkM)
set_option linter.unusedVariables false
attribute [local go_sem] Oper.semAt_some
theorem sub_part {L:List Int} {a o n s:Nat} (h:o+n≤s):(((L.drop a).take s).drop o).take n=(L.drop (a+o)).take n:=by
  rw[List.drop_take,List.take_take,List.drop_drop,Nat.min_eq_left (by omega)]
theorem enc_num {b:Blk} (hb:b.Ok) (hr:RightP b) {f:Nat} (hf:hasF b.tag f=true) (h12:f<12):rdF (encL b) (whF b.tag f).1.toNat (whF b.tag f).2.toNat=numF b f:=by
  obtain⟨k1,k2,k3,k4,k5,k6,k7,k8,k9,k10,k11⟩:=hb
  simp only[i64,u32,u64,u16] at *
  obtain⟨tag,cls,used,lab,name,next,prev,refs,exp,typ,size,hash⟩:=b
  simp only[] at *
  have hk:f=0∨f=1∨f=2∨f=3∨f=4∨f=5∨f=6∨f=7∨f=8∨f=9∨f=10∨f=11:=by omega
  rcases hr with⟨h0,h1,h2,h3,h4,h5,h6,h7,h8,h9,h10⟩ | ⟨h0,h1,h2,h3,h4,h5,h6⟩ | ⟨h0,h1,h2,h3,h4,h5,h6,h7,h8,h9,h10⟩
  · simp only[] at h0 h1 h2 h3 h4 h5 h6 h7 h8 h9 h10
    subst h0 h1 h2 h3
    rcases hk with rfl | rfl | rfl | rfl | rfl | rfl | rfl | rfl | rfl | rfl | rfl | rfl<;>simp[hasF,whF,encL,p1,p4,rdF,le,numF,u64_id] at hf ⊢
    omega
  · simp only[] at h0 h1 h2 h3 h4 h5 h6
    subst h0 h3
    have e1:IntKind.u64.wrap cls=cls:=u64_id (by omega) (by omega)
    have e2:IntKind.u64.wrap size=size:=u64_id (by omega) (by omega)
    rcases hk with rfl | rfl | rfl | rfl | rfl | rfl | rfl | rfl | rfl | rfl | rfl | rfl<;>cases used<;>simp[hasF,whF,encL,p1,p4,p8,p2,rdF,le,numF,u64_id,e1,e2] at hf ⊢ <;> omega
  · simp only[] at h0 h1 h2 h3 h4 h5 h6 h7 h8 h9 h10
    subst h0 h3
    have e1:IntKind.u64.wrap cls=cls:=u64_id (by omega) (by omega)
    have e2:IntKind.u64.wrap lab=lab:=u64_id (by omega) (by omega)
    rcases hk with rfl | rfl | rfl | rfl | rfl | rfl | rfl | rfl | rfl | rfl | rfl | rfl<;>simp[hasF,whF,encL,p1,p4,rdF,le,numF,u64_id,e1,e2] at hf ⊢ <;> omega
theorem ld_num {b:Blk} (hb:b.Ok) (hr:RightP b) {l:List Int} {a:Nat} (hl:(l.drop a).take (encL b).length=encL b) {f:Nat} (hf:hasF b.tag f=true) (h12:f<12):ldF l a b.tag f=numF b f:=by
  have hw:=wh_fit (right_tag hr) f h12
  have hz:=has_two hf
  have hs:=(dec_enc hb hr).2
  rw[←enc_num hb hr hf h12]
  unfold ldF rd rdF
  rw[if_neg hz,←sub_part (s:=(encL b).length) (by omega),hl]
end Go.Proofs.YtmgeiaglandedaaGreatDoor.Hea
