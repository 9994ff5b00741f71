/- Heads in a memory: what is asked of head's functions; which fields lie apart. The landed head: the fields of a header, in their order. The landed head: what a header has in each field; Encode. The landed head: Encode. The landed head: all that is asked of its plain functions. The landed head in a memory: its kinds and tags, Load, Store. The landed head in a memory: Put. The landed head in a memory: Put. -/
import Derived.Test.YtmgeiaglandedaaGreatDoorJ5
import Derived.Test.YtmgeiaglandedaaGreatDoorJ14
import Derived.Test.YtmgeiaglandedaaGreatDoorJ9
import Derived.Test.YtmgeiaglandedaaGreatDoorJ7
import Derived.Test.YtmgeiaglandedaaGreatDoorJ0
namespace Go.Proofs.YtmgeiaglandedaaGreatDoor.Hea
open Go.RowKit Num
open Mem (Mm MemC MRet Hm rd)
set_option linter.unusedVariables false
def kdF (t:Int):Int:=if t=0 then 6 else 5
structure Room (M:Mm) (a:Nat) (t:Int):Prop where
  tag:0≤t∧t≤2
  al:a % 8=0
  len:a+(szF t).toNat≤M.x.length
  kind:∀ j,j<(szF t).toNat→M.x.getD (a+j) 0=kdF t
def ldF (l:List Int) (a:Nat) (t f:Int):Int:=if (whF t f).2=0 then 0 else rd l (a+(whF t f).1.toNat) (whF t f).2.toNat
def okF (t f y:Int):Bool:=decide ((whF t f).2≠0) && fits y (whF t f).2
def stF (l:List Int) (a:Nat) (t f y:Int):List Int:=if okF t f y then stl l (a+(whF t f).1.toNat) (whF t f).2.toNat y else l
theorem wh_out {t f:Int} (h:f<0∨11<f):whF t f=(0,0):=by
  rw[whF,if_pos (by omega)]
theorem wh_in {t f:Int} (h:(whF t f).2≠0):∃ k:Nat,f=k∧k<12:=by
  by_cases hf:f<0∨11<f
  · rw[wh_out hf] at h
    exact absurd rfl h
  · exact⟨f.toNat,by omega,by omega⟩
end Go.Proofs.YtmgeiaglandedaaGreatDoor.Hea

namespace Go.Proofs.YtmgeiaglandedaaGreatDoor.Hea
open Go.RowKit Go.Shelf Num
set_option linter.unusedVariables false
attribute [local go_sem] Oper.semAt_some
def ordN:List Nat := [0,1,2,3,4,5,6,7,8,9,11,10]
def hasF (t:Int) (f:Nat):Bool := !((whF t f).1 == 0 && (whF t f).2 == 0)
def fl (t:Int) (p:Nat):List Nat:=(ordN.take p).filter (hasF t)
theorem ordN_at {p:Nat} (h:p<12):ordN[p]? = some (ordN.getD p 0):=by
  have all:∀ p:Fin 12,ordN[p.val]? = some (ordN.getD p.val 0):=by decide
  exact all ⟨p,h⟩
theorem ordN_lt {p:Nat} (h:p<12):ordN.getD p 0<12:=by
  have all:∀ p:Fin 12,ordN.getD p.val 0<12:=by decide
  exact all ⟨p,h⟩
structure FT (t:Int) where
  f:Nat
  lt:f<12
  has:hasF t f=true
def flT (t:Int) (p:Nat):List (FT t):=(ordN.take p).filterMap fun f=>if h:f<12∧hasF t f=true then some ⟨f,h.1,h.2⟩ else none
theorem flT_yes {t:Int} {p:Nat} (h:p<12) {f:Nat} (hf:f=ordN.getD p 0) (hh:hasF t f=true):∃ h1 h2,flT t (p+1)=flT t p ++ [⟨f,h1,h2⟩]:=by
  subst hf
  refine⟨ordN_lt h,hh,?_⟩
  unfold flT
  rw[List.take_add_one,List.filterMap_append,ordN_at h,Option.toList_some,List.filterMap_cons_some (b:=⟨ordN.getD p 0,ordN_lt h,hh⟩) (by rw[dif_pos ⟨ordN_lt h,hh⟩])]
  rfl
theorem flT_no {t:Int} {p:Nat} (h:p<12) (hh:hasF t (ordN.getD p 0)=false):flT t (p+1)=flT t p:=by
  unfold flT
  rw[List.take_add_one,List.filterMap_append,ordN_at h,Option.toList_some,List.filterMap_cons_none (by rw[dif_neg (by rw[hh];simp)])]
  simp
theorem flT_less {t:Int} {p:Nat} (h:p<12) (hh:hasF t (ordN.getD p 0)=true):(flT t p).length<(flT t 12).length:=by
  have h1:(flT t (p+1)).length≤(flT t 12).length:=((List.take_sublist (p+1) ordN).filterMap _).length_le
  obtain⟨_,_,h2⟩:=flT_yes h rfl hh
  rw[h2] at h1
  simp at h1
  omega
theorem flT_map (t:Int):(flT t 12).map FT.f=fl t 12:=by
  have:∀ l:List Nat,(∀ f∈l,f<12)→(l.filterMap fun f=>if h:f<12∧hasF t f=true then some (⟨f,h.1,h.2⟩:FT t) else none).map FT.f=l.filter (hasF t):=by
    intro l
    induction l with
    | nil=>intro _;rfl
    | cons f l ih =>
      intro hl
      have ih:=ih (fun g hg=>hl g (by simp[hg]))
      have hf:=hl f (by simp)
      by_cases h:hasF t f=true
      · rw[List.filterMap_cons_some (b:=⟨f,hf,h⟩) (by rw[dif_pos ⟨hf,h⟩]),List.filter_cons,if_pos h,List.map_cons,ih]
      · rw[List.filterMap_cons_none (by rw[dif_neg (fun e=>h e.2)]),List.filter_cons,if_neg h,ih]
  exact this _ (by decide)
def KpS (S:Nat→Prop) (W W':World):Prop:=W.heap.size≤W'.heap.size∧∀ k,S k→W'.heap[k]? = W.heap[k]?
theorem KpS.refl (S:Nat→Prop) (W:World):KpS S W W:=⟨Nat.le_refl _,fun _ _=>rfl⟩
theorem KpS.trans {S:Nat→Prop} {A B C:World} (h:KpS S A B) (k:KpS S B C):KpS S A C:=⟨Nat.le_trans h.1 k.1,fun i hi=>(k.2 i hi).trans (h.2 i hi)⟩
theorem KpS.below {S:Nat→Prop} {W W':World} (h:Below W.heap.size W W') (hS:∀ k,S k→k<W.heap.size):KpS S W W':=⟨h.size,fun k hk=>h.block k (hS k hk)⟩
theorem KpS.fr {S T:Nat→Prop} {N:Nat} {W W':World} (h:Fr N T W W') (hS:∀ k,S k→k<N∧¬ T k):KpS S W W':=⟨h.size,fun k hk=>h.block k (hS k hk).1 (hS k hk).2⟩
theorem KpS.put {S:Nat→Prop} {n:Nat} (hS:∀ k,S k→k<n) (W:World) (l:Nat) (o o':Obj) (hl:n≤l) (h:W.heap[l]? = some o) (_:o.isCells=false) (_:o.isWalk=false):KpS S W (W.putObj l o') :=
  ⟨by simp,fun k hk=>World.putObj_heap_other (by have:=hS k hk;omega)⟩
def SF (Bn k:Nat):Prop:=k=Bn∨k=2∨k=3
theorem tabIs_block {name:String} {k:IntKind} {zs:List Int} {g:Nat} {W W':World} (hg:Tryz.prog.globalNamed name=some g) (hb:W'.heap[g]? = W.heap[g]?) (h:Lib.TabIs Tryz.prog W name k zs):Lib.TabIs Tryz.prog W' name k zs:=by
  unfold Lib.TabIs World.var? at h ⊢
  obtain⟨g',hg',hc⟩:=Option.bind_eq_some_iff.1 h
  obtain rfl:=Option.some.inj (hg.symm.trans hg')
  rw[hg',Option.bind_some,hb]
  exact hc
theorem Tab.keepS {Bn:Nat} {W W':World} (hk:KpS (SF Bn) W W') (h:Tab W):Tab W':=by
  refine⟨tabIs_block (g:=2) (by kernel_rfl) (hk.2 _ (.inr (.inl rfl))) h.ord,fun p q hp hq=>?_⟩
  have hb:=hk.2 _ (.inr (.inr rfl))
  have:=h.pl p q hp hq
  simp only[World.cell?,hb]
  simpa only[World.cell?] using this
theorem Tab.lt {W:World} (h:Tab W):2<W.heap.size∧3<W.heap.size:=by
  have lt:∀ {b o:Nat} {v:Value},W.cell? ⟨b,o,none⟩=some v→b<W.heap.size:=fun {b o v} hc=>by
    rcases Nat.lt_or_ge b W.heap.size with h1 | h1
    · exact h1
    · rw[World.cell?,Array.getElem?_eq_none h1] at hc
      simp at hc
  exact⟨lt (h.at 0 (by omega)),lt (h.pl 0 0 (by omega) (by omega)).1⟩
theorem SF.lt {Bn:Nat} {W:World} (h:Tab W) (hB:Bn<W.heap.size):∀ k,SF Bn k→k<W.heap.size:=by
  rintro k (rfl | rfl | rfl)
  · exact hB
  · exact h.lt.1
  · exact h.lt.2
theorem index_ord {p:Nat} (hp:p<12) (w:World):(Instr.index 246 (.agg #[.int .i64 0,.int .i64 1,.int .i64 2,.int .i64 3,.int .i64 4,.int .i64 5,.int .i64 6,.int .i64 7,.int .i64 8,.int .i64 9,.int .i64 11,.int .i64 10]) (.int .i64 (p:Int))).run Tryz.prog w = .ok (.int .i64 ((ordN.getD p 0:Nat):Int)) w:=by
  rcases(show p=0∨p=1∨p=2∨p=3∨p=4∨p=5∨p=6∨p=7∨p=8∨p=9∨p=10∨p=11 by omega) with rfl | rfl | rfl | rfl | rfl | rfl | rfl | rfl | rfl | rfl | rfl | rfl<;>kernel_rfl
theorem eq_place (a b x y:Int) (w:World):(Op.equalIn 10000 248 (.agg #[.int .i64 a,.int .i64 b]) (.agg #[.int .i64 x,.int .i64 y])).run Tryz.prog w = .ok (a == x && b == y) w:=by
  have u3:=Tryz.underlying3
  have a3:=Tryz.isAgg3
  have z3:=Tryz.sizeOf3
  rw[show (10000:Nat)=9999+1 from rfl,run_equalIn_array 9999 248 3 1 2 _ _ Tryz.underlying248 z3]
  simp only[List.range'_succ,List.range'_zero,eqElems]
  go_simp
  by_cases h1:a=x<;>by_cases h2:b=y<;>simp[h1,h2]
set_option maxRecDepth 100000 in
set_option maxHeartbeats 4000000 in
theorem fields1_in (n:Nat) (hn:1≤n) (l Bn:Nat) (t:Int) (J Jx:List (FT t)→World→Prop)
    (hJ:∀ s W W',J s W→Below W.heap.size W W'→J s W')
    (hY:∀ pre (f:FT t) W,J pre W→pre.length<(flT t 12).length→YieldAt Fence.wide (n-1) Tryz.prog l #[.int .i64 (f.f:Int)] W fun e W' =>
      (e = .returned (.bool true)∧J (pre ++ [f]) W'∧KpS (SF Bn) W W')∨(e = .returned (.bool false)∧Jx (pre ++ [f]) W'))
    (W:World) (hBn:W.cell? ⟨Bn,0,none⟩=some (.int .i64 t)) (hBs:Bn<W.heap.size) (htb:Tab W) (h0:J [] W) :
    CallsIn Fence.wide n Tryz.prog 227 #[.func (.yield l) #[] #[],.pointer (some ⟨Bn,0,none⟩)] W fun e W'=>(∃ v,e = .returned v) ∧
      ((∃ ys,ys=flT t 12∧J ys W')∨(∃ pre,(∃ p,p≤12∧pre=flT t p)∧Jx pre W')):=by
  have HY:=Lib.hid hY
  have HJ0:=Lib.hid hJ
  have HTB:=Lib.hid htb
  have HBs:=Lib.hid hBs
  have H0:=Lib.hid h0
  have HBn:=Lib.hid hBn
  have o0:=htb.at 0 (by omega)
  have o1:=htb.at 1 (by omega)
  have o2:=htb.at 2 (by omega)
  have o3:=htb.at 3 (by omega)
  have o4:=htb.at 4 (by omega)
  have o5:=htb.at 5 (by omega)
  have o6:=htb.at 6 (by omega)
  have o7:=htb.at 7 (by omega)
  have o8:=htb.at 8 (by omega)
  have o9:=htb.at 9 (by omega)
  have o10:=htb.at 10 (by omega)
  have o11:=htb.at 11 (by omega)
  simp only[ordI,List.getD_cons_zero,List.getD_cons_succ] at o0 o1 o2 o3 o4 o5 o6 o7 o8 o9 o10 o11
  clear hY hJ htb hBs h0 hBn
  refine callsIn_of_wp Tryz.func227 rfl trivial ?_ rfl
  simp only[Tryz.ntmps227,List.size_toArray,List.length_cons,List.length_nil,Nat.reduceAdd,Nat.reduceSub,Array.replicate_succ,Array.replicate_zero,List.push_toArray,List.append_toArray,List.nil_append,List.cons_append]
  gi_wp2
  clear o0 o1 o2 o3 o4 o5 o6 o7 o8 o9 o10 o11
  gi_loopw [6] (fun i wr=>∃ p:Nat,p≤12∧i = .int .i64 p∧Hid (J (flT t p) wr)∧Hid (KpS (SF Bn) W wr)) (fun i _=>12-(intOf i).toNat)
  case atStart=>exact⟨0,Nat.zero_le _,rfl,H0.out,KpS.refl _ _⟩
  case round =>
    obtain⟨p,hp,rfl,HJ,HKp⟩:=hrel
    by_cases hlt:p<12
    · have hlt1:(p:Int)<12:=by omega
      have hlt0:(0:Int)≤(p:Int):=by omega
      have hix:=fun u=>index_ord hlt u
      obtain⟨f,hf⟩:∃ f:Nat,f=ordN.getD p 0:=⟨_,rfl⟩
      rw[←hf] at hix
      have HF:=Lib.hid hf
      have hBlk:wr.heap[Bn]? = W.heap[Bn]?:=HKp.out.2 Bn (.inl rfl)
      have hbn:wr.cell? ⟨Bn,0,none⟩=some (.int .i64 t):=by
        have:=HBn.out
        simp only[World.cell?,hBlk] at this ⊢
        exact this
      have HT:=Lib.hid (HTB.out.keepS HKp.out)
      have HSl:=Lib.hid (SF.lt HT.out (Nat.lt_of_lt_of_le HBs.out HKp.out.1))
      have HPl:=Lib.hid (placeOf_any t f wr HT.out)
      clear hBlk hf
      by_cases hh:hasF t f=true
      · obtain⟨k1,k2,hfy⟩:=flT_yes hlt HF.out hh
        have hfl:=flT_less hlt (by rw[←HF.out];exact hh)
        have HFy:=Lib.hid hfy
        have hne:((whF t f).1 == 0 && (whF t f).2 == 0)=false:=by unfold hasF at hh;simpa only[Bool.not_eq_true'] using hh
        obtain⟨x,y,hxy⟩:∃ x y,whF t f=(x,y):=⟨_,_,rfl⟩
        rw[hxy] at HPl hne
        have heq:∀ W,(Op.equalIn 10000 248 (.agg #[.int .i64 x,.int .i64 y]) (.agg #[.int .i64 0,.int .i64 0])).run Tryz.prog W = .ok false W:=fun W=>by rw[eq_place];exact congrArg (Result.ok · W) hne
        have HYy:=Lib.hid (fun W' (hb:Below wr.heap.size wr W')=>HY.out (flT t p) ⟨f,k1,k2⟩ W' (HJ0.out _ _ _ HJ.out hb) hfl)
        clear hfy hfl hne hxy hh
        gi_wp2_with (refine⟨trivial,?_⟩;gi_at_call 228;refine(callsIn_wide.2 HPl.out).mono ?_;rintro e w1 ⟨rfl,hb1⟩;obtain⟨fn,tmps,assign,body,hyy,hR⟩:=HYy.out _ hb1)
        refine hR.mono ?_
        rintro e W3 (⟨rfl,hJ3,hk3⟩ | ⟨rfl,hJx3⟩)
        · have HB3:=Lib.hid (HKp.out.trans ((KpS.below hb1 HSl.out).trans hk3))
          have HJ3:=Lib.hid hJ3
          clear hJ3 hk3 hR hyy hb1
          gi_wp2
          go_roundw
          case rel=>exact⟨p+1,by omega,by go_num,by rw[HFy.out];exact HJ3.out,HB3.out⟩
          case measure=>simp[intOf];omega
        · clear hR hyy
          gi_wp2
          refine bodyPost_ret (results_none rfl _ _ _) rfl ?_
          exact⟨⟨_,rfl⟩,.inr ⟨flT t p ++ [⟨f,k1,k2⟩],⟨p+1,by omega,HFy.out.symm⟩,hJx3⟩⟩
      · have hh':hasF t f=false:=by simpa using hh
        have hfn:=flT_no hlt (by rw[←HF.out];exact hh')
        have HFn:=Lib.hid hfn
        have hne:((whF t f).1 == 0 && (whF t f).2 == 0)=true:=by unfold hasF at hh';simpa only[Bool.not_eq_false'] using hh'
        obtain⟨x,y,hxy⟩:∃ x y,whF t f=(x,y):=⟨_,_,rfl⟩
        rw[hxy] at HPl hne
        have heq:∀ W,(Op.equalIn 10000 248 (.agg #[.int .i64 x,.int .i64 y]) (.agg #[.int .i64 0,.int .i64 0])).run Tryz.prog W = .ok true W:=fun W=>by rw[eq_place];exact congrArg (Result.ok · W) hne
        clear hfn hne hxy hh hh'
        gi_wp2_with (refine⟨trivial,?_⟩;gi_at_call 228;refine(callsIn_wide.2 HPl.out).mono ?_;rintro e w1 ⟨rfl,hb1⟩;have HB3:=Lib.hid (HKp.out.trans (KpS.below hb1 HSl.out));have HJ3:=Lib.hid (HJ0.out _ _ _ HJ.out hb1);clear hb1)
        refine⟨fun _ h=>(by cases h),?_⟩
        gi_wp2
        go_roundw
        case rel=>exact⟨p+1,by omega,by go_num,by rw[HFn.out];exact HJ3.out,HB3.out⟩
        case measure=>simp[intOf];omega
    · obtain rfl:p=12:=by omega
      gi_wp2
      go_end0
      exact⟨⟨_,rfl⟩,.inl ⟨_,rfl,HJ.out⟩⟩
theorem grown_below {A B:World} (h:Below A.heap.size A B):A.grownBy B none:=⟨h.os,h.tape,h.output,h.size,fun k hk _=>h.block k hk⟩
theorem fields_stops (n:Nat) (hn:1≤n) (Bn:Nat) (t:Int) (w:World) (hBs:Bn<w.heap.size) (hBn:w.cell? ⟨Bn,0,none⟩=some (.int .i64 t)) (htb:Tab w) :
    SeqStopsK Fence.wide n Tryz.prog 227 #[.pointer (some ⟨Bn,0,none⟩)] (fun f:FT t => #[.int .i64 (f.f:Int)]) (KpS (SF Bn)) (fun ys=>ys=flT t 12) (fun pre=>∃ p,p≤12∧pre=flT t p) (flT t 12).length w :=
  fun l J Jx W hW hJ _ hY h0=>fields1_in n hn l Bn t J Jx (fun s A B hs hb=>hJ s A B none hs (grown_below hb) (fun r e=>by cases e)) hY W ((hW.cell (p:=⟨Bn,0,none⟩) hBs).trans hBn) (Nat.lt_of_lt_of_le hBs hW.size) (htb.keep hW) h0
theorem fields_any (t:Int) (w:World):Calls Tryz.prog 171 #[.int .i64 t] w fun e w'=>e = .returned (.func (.func 227) #[] #[.pointer (some ⟨w.heap.size,0,none⟩)])∧w'=w.alloc (.cells #[.int .i64 t] 3):=by
  go_enter Tryz.func171,Tryz.ntmps171
  go_wp2
  go_ret
  exact⟨rfl,rfl⟩
end Go.Proofs.YtmgeiaglandedaaGreatDoor.Hea

namespace Go.Proofs.YtmgeiaglandedaaGreatDoor.Hea
open Go.RowKit Go.Shelf Num
set_option linter.unusedVariables false
attribute [local go_sem] Oper.semAt_some
theorem fl0:fl 0 12 = [0,1,2,3,4]:=by kernel_rfl
theorem fl1:fl 1 12 = [0,1,2,3,4,5,6,7,8,9,10]:=by kernel_rfl
theorem fl2:fl 2 12 = [0,1,2,3,4,11,10]:=by kernel_rfl
theorem field_ok {b:Blk} (hb:b.Ok) (hr:RightP b) {f:Nat} (hf:hasF b.tag f=true) (h12:f<12):ste (List.replicate (szF b.tag).toNat 0) (whF b.tag f).1 (whF b.tag f).2 (numF b f)=0:=by
  obtain⟨k1,k2,k3,k4,k5,k6,k7,k8,k9,k10,k11⟩:=hb
  simp only[i64,u32,u64,u16] at *
  obtain⟨tag,cls,used,lab,name,next,prev,refs,exp,typ,size,hash⟩:=b
  simp only[] at *
  have hk:f=0∨f=1∨f=2∨f=3∨f=4∨f=5∨f=6∨f=7∨f=8∨f=9∨f=10∨f=11:=by omega
  rcases hr with⟨h0,h1,h2,h3,h4,h5,h6,h7,h8,h9,h10⟩ | ⟨h0,h1,h2,h3,h4,h5,h6⟩ | ⟨h0,h1,h2,h3,h4,h5,h6,h7,h8,h9,h10⟩
  · simp only[] at h0 h1 h2 h3 h4 h5 h6 h7 h8 h9 h10
    subst h0 h1 h2 h3
    rcases hk with rfl | rfl | rfl | rfl | rfl | rfl | rfl | rfl | rfl | rfl | rfl | rfl<;>simp[hasF,whF,szF,ste,fits,isW,plc,numF,u64_id] at hf ⊢ <;> omega
  · simp only[] at h0 h1 h2 h3 h4 h5 h6
    subst h0 h3
    have e1:IntKind.u64.wrap cls=cls:=u64_id (by omega) (by omega)
    have e2:IntKind.u64.wrap size=size:=u64_id (by omega) (by omega)
    rcases hk with rfl | rfl | rfl | rfl | rfl | rfl | rfl | rfl | rfl | rfl | rfl | rfl<;>cases used<;>simp[hasF,whF,szF,ste,fits,isW,plc,numF,u64_id,e1,e2] at hf ⊢ <;> omega
  · simp only[] at h0 h1 h2 h3 h4 h5 h6 h7 h8 h9 h10
    subst h0 h3
    have e1:IntKind.u64.wrap cls=cls:=u64_id (by omega) (by omega)
    have e2:IntKind.u64.wrap lab=lab:=u64_id (by omega) (by omega)
    rcases hk with rfl | rfl | rfl | rfl | rfl | rfl | rfl | rfl | rfl | rfl | rfl | rfl<;>simp[hasF,whF,szF,ste,fits,isW,plc,numF,u64_id,e1,e2] at hf ⊢ <;> omega
def numsA (b:Blk):Array Value := #[.int .u64 (numF b 0),.int .u64 (numF b 1),.int .u64 (numF b 2),.int .u64 (numF b 3),.int .u64 (numF b 4),.int .u64 (numF b 5),.int .u64 (numF b 6),.int .u64 (numF b 7),.int .u64 (numF b 8),.int .u64 (numF b 9),.int .u64 (numF b 10),.int .u64 (numF b 11)]
theorem numsA_at (b:Blk) {f:Nat} (h:f<12):(numsA b)[f]? = some (.int .u64 (numF b f)):=by
  rcases(show f=0∨f=1∨f=2∨f=3∨f=4∨f=5∨f=6∨f=7∨f=8∨f=9∨f=10∨f=11 by omega) with rfl | rfl | rfl | rfl | rfl | rfl | rfl | rfl | rfl | rfl | rfl | rfl<;>rfl
set_option maxRecDepth 100000 in
set_option maxHeartbeats 4000000 in
theorem numbers_any (b:Blk) (hb:b.Ok) (w:World):Calls Tryz.prog 170 #[b.agg] w fun e w'=>e = .returned (.agg (numsA b))∧Below w.heap.size w w':=by
  obtain⟨c0,c1,c2,c3,c4,c5,c6,c7,c8,c9,c10,c11,hlt,hbel⟩:=(BX.first w b).below (below_made (BW w b) (.cells #[.int .u64 0,.int .u64 0,.int .u64 0,.int .u64 0,.int .u64 0,.int .u64 0,.int .u64 0,.int .u64 0,.int .u64 0,.int .u64 0,.int .u64 0,.int .u64 0] 199))
  have hz:(BW w b).heap.size=w.heap.size+1:=by unfold BW;simp
  have hblk:=heap_alloc_new (BW w b) (.cells (numsA b) 199)
  have hbb:=(BX.first w b).bel.trans ((below_made (BW w b) (.cells (numsA b) 199)).mono (BX.first w b).bel.size)
  rw[hz] at hblk
  have HBel:=Lib.hid hbb
  have q0:=(cell_block hblk 0).trans (numsA_at b (f:=0) (by omega))
  have q1:=(cell_block hblk 1).trans (numsA_at b (f:=1) (by omega))
  have q2:=(cell_block hblk 2).trans (numsA_at b (f:=2) (by omega))
  have q3:=(cell_block hblk 3).trans (numsA_at b (f:=3) (by omega))
  have q4:=(cell_block hblk 4).trans (numsA_at b (f:=4) (by omega))
  have q5:=(cell_block hblk 5).trans (numsA_at b (f:=5) (by omega))
  have q6:=(cell_block hblk 6).trans (numsA_at b (f:=6) (by omega))
  have q7:=(cell_block hblk 7).trans (numsA_at b (f:=7) (by omega))
  have q8:=(cell_block hblk 8).trans (numsA_at b (f:=8) (by omega))
  have q9:=(cell_block hblk 9).trans (numsA_at b (f:=9) (by omega))
  have q10:=(cell_block hblk 10).trans (numsA_at b (f:=10) (by omega))
  have q11:=(cell_block hblk 11).trans (numsA_at b (f:=11) (by omega))
  unfold BW at c0 c1 c2 c3 c4 c5 c6 c7 c8 c9 c10 c11 q0 q1 q2 q3 q4 q5 q6 q7 q8 q9 q10 q11 HBel
  obtain⟨h1,h2,h3,h4,h5,h6,h7,h8,h9,h10,h11⟩:=hb
  simp only[u32,u64,u16] at h4 h5 h6 h7 h8 h9 h11
  have e4:IntKind.u64.wrap b.name=b.name:=u64_id (by omega) (by omega)
  have e5:IntKind.u64.wrap b.next=b.next:=u64_id (by omega) (by omega)
  have e6:IntKind.u64.wrap b.prev=b.prev:=u64_id (by omega) (by omega)
  have e7:IntKind.u64.wrap b.refs=b.refs:=u64_id (by omega) (by omega)
  have e8:IntKind.u64.wrap b.typ=b.typ:=u64_id (by omega) (by omega)
  have e9:IntKind.u64.wrap b.hash=b.hash:=u64_id (by omega) (by omega)
  obtain⟨tag,cls,used,lab,name,next,prev,refs,exp,typ,size,hash⟩:=b
  unfold numsA numF at q0 q1 q2 q3 q4 q5 q6 q7 q8 q9 q10 q11 HBel
  simp only[] at c0 c1 c2 c3 c4 c5 c6 c7 c8 c9 c10 c11 e4 e5 e6 e7 e8 e9 q0 q1 q2 q3 q4 q5 q6 q7 q8 q9 q10 q11 HBel
  unfold Blk.agg numsA numF
  simp only[]
  clear h1 h2 h3 h4 h5 h6 h7 h8 h9 h10 h11 hlt hbel hz hblk hbb
  cases used
  all_goals
    simp only[if_true,if_false,Bool.false_eq_true] at q2 HBel ⊢
    go_enter Tryz.func170,Tryz.ntmps170
    go_wp2
    refine bodyPost_ret (v:=.agg #[_,_,_,_,_,_,_,_,_,_,_,_]) (by simp[results,Tryz.results170,go_sem,q2]) rfl ⟨rfl,HBel.out⟩
end Go.Proofs.YtmgeiaglandedaaGreatDoor.Hea

namespace Go.Proofs.YtmgeiaglandedaaGreatDoor.Hea
open Go.RowKit Go.Shelf Num
set_option linter.unusedVariables false
attribute [local go_sem] Oper.semAt_some
end Go.Proofs.YtmgeiaglandedaaGreatDoor.Hea

namespace Go.Proofs.YtmgeiaglandedaaGreatDoor.Hea
open Go.RowKit Num
set_option linter.unusedVariables false
end Go.Proofs.YtmgeiaglandedaaGreatDoor.Hea

namespace Go.Proofs.YtmgeiaglandedaaGreatDoor.Hea
open Go.RowKit Num
open Mem (Mm MemC MRet Hm rd blkM)
set_option linter.unusedVariables false
theorem not_blk {h:Hm} {w:World} {v:Value} {M:Mm} {k:Nat} {c:Int} (hm:MemC h w v M) (hc:w.cell? ⟨k,0,none⟩=some (.int .i64 c)):¬ blkM h k:=by
  have no:∀ (x:Value),w.cell? ⟨k,0,none⟩=some x→x = .int .i64 c:=fun x hx=>by rw[hc] at hx;injection hx with hx;exact hx.symm
  have nb:∀ (l:List Int) (T:TypeId),w.heap[k]? = some (.cells (vals l).toArray T (0,0))→False:=fun l T hb=>by
    have h1:=cell_block hb 0
    rw[hc] at h1
    cases l with
    | nil=>simp[vals] at h1
    | cons y l=>simp[vals] at h1
  rintro (rfl | (rfl | rfl) | (rfl | rfl))
  · have:=no _ ((cell_block hm.blk 0).trans rfl)
    cases this
  · have:=no _ ((cell_block hm.wa.2.1 0).trans rfl)
    cases this
  · exact nb _ _ hm.wa.2.2.1
  · have:=no _ ((cell_block hm.ar.2.1 0).trans rfl)
    cases this
  · exact nb _ _ hm.ar.2.2.1
theorem Tab.ord_cell {w:World} (h:Tab w):w.cell? ⟨2,0,none⟩=some (.int .i64 0):=h.at 0 (by omega)
theorem Tab.pl_cell {w:World} (h:Tab w):w.cell? ⟨3,0,none⟩=some (.int .i64 0):=(h.pl 0 0 (by omega) (by omega)).1
theorem Tab.fr {h:Hm} {w w':World} {v:Value} {M:Mm} (htb:Tab w) (hm:MemC h w v M) (hf:Fr w.heap.size (blkM h) w w'):Tab w':=by
  have hl:=htb.lt
  refine htb.keepS (Bn:=2) ⟨hf.size,?_⟩
  rintro k (rfl | rfl | rfl)
  · exact hf.block _ hl.1 (not_blk hm htb.ord_cell)
  · exact hf.block _ hl.1 (not_blk hm htb.ord_cell)
  · exact hf.block _ hl.2 (not_blk hm htb.pl_cell)
theorem kdF_is (t:Int):kdF t≠0:=by unfold kdF;split<;>omega
theorem room_look {M:Mm} {a:Nat} {t:Int} (hr:Room M a t) (o n:Nat) (hn:isW n=true) (ho:o+n≤(szF t).toNat) (hal:(a+o) % n=0):Wat.lookA M.x ((a+o:Nat):Int) (n:Int) (kdF t)=true:=by
  have h1:=hr.len
  refine Mem.look_iff.2 ⟨hn,by omega,hal,kdF_is t,fun j hj=>?_⟩
  have:=hr.kind (o+j) (by omega)
  rw[←Nat.add_assoc] at this
  exact this
theorem room_kind {M:Mm} {a:Nat} {t:Int} (hr:Room M a t):Wat.kndA M.x (a:Int) 4=kdF t:=by
  have hs:=sz_bd hr.tag
  have ha:=hr.al
  have h:=room_look hr 0 4 (by decide) (by omega) (by omega)
  unfold Wat.lookA at h
  simp only[Bool.and_eq_true,decide_eq_true_eq] at h
  exact h.2.2.2.2
theorem whF_pair {t:Int} (f:Int) (h:(whF t f).2=0):whF t f=(0,0):=by
  revert h
  unfold whF
  repeat' split
  all_goals simp
theorem room_fld {M:Mm} {a:Nat} {t:Int} (hr:Room M a t) {f:Int} (hz:(whF t f).2≠0) :
    ∃ o n:Nat,whF t f=((o:Int),(n:Int))∧isW (n:Int)=true∧o+n≤(szF t).toNat∧n≤8∧1≤n∧Wat.lookA M.x ((a+o:Nat):Int) (n:Int) (kdF t)=true:=by
  obtain⟨k,rfl,hk⟩:=wh_in hz
  have h1:=wh_fit hr.tag k hk
  obtain⟨h2,h3⟩:=wh_all hr.tag k hk hz
  obtain⟨o,n,hon⟩:∃ o n:Nat,whF t k=((o:Int),(n:Int)):=⟨(whF t k).1.toNat,(whF t k).2.toNat,by rw[Int.toNat_of_nonneg h1.1,Int.toNat_of_nonneg h1.2.1]⟩
  rw[hon] at h1 h2 h3 hz
  simp only[] at h1 h2 h3 hz
  have h4:o % n=0:=by omega
  have hal:=hr.al
  have h5:(a+o) % n=0:=by
    rcases isW_cases h2 with e | e | e | e
    · obtain rfl:n=1:=by omega
      omega
    · obtain rfl:n=2:=by omega
      omega
    · obtain rfl:n=4:=by omega
      omega
    · obtain rfl:n=8:=by omega
      omega
  exact⟨o,n,hon,h2,by omega,by omega,by omega,room_look hr o n h2 (by omega) h5⟩
theorem memC_bd {h:Hm} {w:World} {v:Value} {M:Mm} (hm:MemC h w v M):M.x.length≤1048576:=hm.wa.len.2
theorem room_lk {M:Mm} {a:Nat} {t:Int} (h:Room M a t) (l:List Int) (lk:Int):Room { M with l:=l,lk:=lk } a t:=⟨h.tag,h.al,h.len,h.kind⟩
theorem ld_room (h:Hm) (v:Value) (M:Mm) (a:Nat) (t f:Int) (W:World) (hm:MemC h W v M) (hr:Room M a t) (hz:(whF t f).2≠0) :
    Calls Tryz.prog 128 #[v,.int .i64 (wrap64 ((a:Int)+(whF t f).1)),.int .i64 (whF t f).2,.int .i64 (kdF t)] W fun e w'=>∃ lk,MRet h W v { M with lk:=lk } (.int .u64 (ldF M.l a t f)) e w':=by
  obtain⟨o,n,hon,h1,h2,h3,h4,h5⟩:=room_fld hr hz
  have hb:=memC_bd hm
  have hl:=hr.len
  have e:ldF M.l a t f=rd M.l (a+o) n:=by unfold ldF;rw[if_neg hz,hon,Int.toNat_natCast,Int.toNat_natCast]
  have ep:wrap64 ((a:Int)+(o:Int))=((a+o:Nat):Int):=by rw[IntWalk.wrap64_in _ (by omega)];omega
  rw[e,hon]
  simp only[]
  rw[ep]
  refine(Mem.load_any h v M ((a+o:Nat):Int) (n:Int) (kdF t) W hm (by unfold Arn.is64;omega)).mono ?_
  intro e w' hq
  rw[Mem.load_ok h5 hm.lenx] at hq
  exact⟨_,hq⟩
theorem st_room (h:Hm) (v:Value) (M:Mm) (a:Nat) (t f y:Int) (W:World) (hm:MemC h W v M) (hr:Room M a t) (hz:(whF t f).2≠0) (h0:0≤y) (h1:y<18446744073709551616) :
    Calls Tryz.prog 166 #[v,.int .i64 (wrap64 ((a:Int)+(whF t f).1)),.int .i64 (whF t f).2,.int .i64 (kdF t),.int .u64 y] W fun e w'=>∃ lk,MRet h W v { M with l:=stF M.l a t f y,lk:=lk } (.bool (okF t f y)) e w':=by
  obtain⟨o,n,hon,g1,g2,g3,g4,g5⟩:=room_fld hr hz
  have hb:=memC_bd hm
  have hl:=hr.len
  have e:stF M.l a t f y=if fits y n then stl M.l (a+o) n y else M.l:=by
    have e1:okF t f y=fits y n:=by unfold okF;rw[decide_eq_true hz,hon];rfl
    unfold stF
    rw[e1,hon,Int.toNat_natCast,Int.toNat_natCast]
  have e2:okF t f y=fits y n:=by unfold okF;rw[decide_eq_true hz,hon];rfl
  have ep:wrap64 ((a:Int)+(o:Int))=((a+o:Nat):Int):=by rw[IntWalk.wrap64_in _ (by omega)];omega
  rw[e,e2,hon]
  simp only[]
  rw[ep]
  refine(Mem.store_any h v M ((a+o:Nat):Int) (n:Int) (kdF t) y W hm (by unfold Arn.is64;omega) h0 h1).mono ?_
  intro e w' hq
  cases hv:fits y n with
  | true =>
    rw[Mem.store_ok g5 hm.lenx hv] at hq
    exact⟨_,hq⟩
  | false =>
    rw[Mem.store_big g5 hv] at hq
    exact⟨_,hq⟩
theorem right7 {s n:Int} (h:Lay.rightC s n=true):7≤s:=by
  unfold Lay.rightC at h
  rw[decide_eq_true_eq] at h
  exact h.1
theorem hmade_any (h:Hm) (v:Value) (M:Mm) (w:World) (hm:MemC h w v M):Calls Tryz.prog 168 #[v] w fun e w'=>e = .returned (.bool true)∧Below w.heap.size w w':=by
  have HC:=Lib.hid (Mem.config_any h v M w hm)
  have h7:=right7 hm.right
  obtain⟨s,hs⟩:∃ s,s=M.s:=⟨_,rfl⟩
  obtain⟨n,hn⟩:∃ n,n=M.n:=⟨_,rfl⟩
  rw[←hs,←hn] at HC
  rw[←hs] at h7
  have hq:∀ W,(Op.equalIn 10000 81 (.agg #[.int .i64 s,.int .i64 n]) (.agg #[.int .i64 0,.int .i64 0])).run Tryz.prog W = .ok false W:=fun W=>by
    rw[show (10000:Nat)=9999+1 from rfl,run_equalIn_struct W 9999 81 _ _ (by kernel_rfl) (by kernel_rfl)]
    go_simp
    intro e
    omega
  clear hm hs hn h7
  go_enter Tryz.func168,Tryz.ntmps168
  go_wp2_with fail
  refine HC.out.mono ?_
  rintro e w1 ⟨rfl,hb1⟩
  go_wp2
  go_ret
  exact⟨rfl,hb1⟩
theorem kindOf_room (h:Hm) (v:Value) (M:Mm) (a:Nat) (t:Int) (w:World) (hm:MemC h w v M) (hr:Room M a t) (ht:t≠0→M.l.getD a 0=t) :
    Calls Tryz.prog 190 #[v,.int .i64 (a:Int)] w fun e w'=>∃ lk,MRet h w v { M with lk:=lk } (.tuple #[.int .i64 (kdF t),.int .i64 t]) e w':=by
  have hk:=room_kind hr
  have hb:=memC_bd hm
  have hl:=hr.len
  have hs:=sz_bd hr.tag
  have htg:=hr.tag
  have HK:=Lib.hid (Mem.kind_any h v M (a:Int) 4 w hm (by unfold Arn.is64;omega))
  rw[hk] at HK
  by_cases h0:t=0
  · subst h0
    have HM:=Lib.hid hm
    have e:kdF 0=6:=rfl
    rw[e] at HK ⊢
    clear hk hr ht hm e
    go_enter Tryz.func190,Tryz.ntmps190
    go_wp2_with fail
    refine HK.out.mono ?_
    rintro e w1 ⟨rfl,hb1⟩
    have HE:=Lib.hid (HM.out.only hb1 (.tuple #[.int .i64 6,.int .i64 0]))
    clear hb1
    go_wp2
    go_ret2
    exact⟨_,HE.out⟩
  · have e:kdF t=5:=by unfold kdF;rw[if_neg h0]
    have hlen:=hm.lenx
    have h1:=room_look hr 0 1 (by decide) (by omega) (by omega)
    have hrd:rd M.l a 1=t:=by
      have:=rdF_one (l:=M.l) a (by omega)
      rw[ht h0] at this
      exact this
    rw[e] at HK h1 ⊢
    have hlo:=fun W (hw:MemC h W v M)=>Mem.load_any h v M (a:Int) 1 5 W hw (by unfold Arn.is64;omega)
    have hok:=Mem.load_ok (M:=M) (a:=a) (n:=1) (k:=5) h1 hlen
    rw[hrd] at hok
    have hok2:M.load (a:Int) 1 5=(t,M.ticked true):=hok
    rw[hok2] at hlo
    have HL:=Lib.hid hlo
    have HM:=Lib.hid hm
    have hw:wrap64 t=t:=w64 htg.1 (by omega)
    clear hk hr ht hm hlen h1 hrd hlo hok hok2 e
    go_enter Tryz.func190,Tryz.ntmps190
    go_wp2_with fail
    refine HK.out.mono ?_
    rintro e w1 ⟨rfl,hb1⟩
    have H1:=Lib.hid (HM.out.only hb1 (.int .i64 5))
    clear hb1
    go_wp2_with fail
    refine(HL.out _ H1.out.2.1).mono ?_
    intro e w2 hq
    obtain⟨rfl,q2,q3⟩:=H1.out.then hq
    have HE:Hid (MRet h w v (M.ticked true) (.tuple #[.int .i64 5,.int .i64 t]) (.returned (.tuple #[.int .i64 5,.int .i64 t])) w2):=⟨rfl,q2,q3⟩
    clear q2 q3 hq
    go_wp2
    go_ret2
    exact⟨_,HE.out⟩
theorem hload_any (h:Hm) (v:Value) (M:Mm) (a:Nat) (t f:Int) (w:World) (htb:Tab w) (hm:MemC h w v M) (hr:Room M a t) (ht:t≠0→M.l.getD a 0=t) :
    Calls Tryz.prog 165 #[v,.int .i64 (a:Int),.int .i64 f] w fun e w'=>∃ lk,MRet h w v { M with lk:=lk } (.int .u64 (ldF M.l a t f)) e w':=by
  have HK:=Lib.hid (kindOf_room h v M a t w hm hr ht)
  have HW:=Lib.hid (fun W (hT:Tab W)=>where_any t f W hT)
  have HT:=Lib.hid (fun W (hf:Fr w.heap.size (blkM h) w W)=>htb.fr hm hf)
  by_cases hz:(whF t f).2=0
  · have e:ldF M.l a t f=0:=by unfold ldF;rw[if_pos hz]
    rw[whF_pair f hz] at HW
    rw[e]
    clear e hz hm hr ht htb
    go_enter Tryz.func165,Tryz.ntmps165
    go_wp2_with fail
    refine HK.out.mono ?_
    rintro e w1 ⟨lk1,rfl,q1,f1⟩
    have HQ:=Lib.hid q1
    have HF:=Lib.hid f1
    clear q1 f1
    go_wp2_with fail
    refine(HW.out _ (HT.out _ HF.out)).mono ?_
    rintro e w2 ⟨rfl,hb2⟩
    have HE:Hid (MRet h w v { M with lk:=lk1 } (.int .u64 0) (.returned (.int .u64 0)) w2):=(MRet.then (e:=.returned (.int .u64 0)) (r:=.int .u64 0) ⟨rfl,HQ.out,HF.out⟩ (HQ.out.only hb2 (.int .u64 0)))
    clear hb2
    go_wp2
    go_ret
    exact⟨_,HE.out⟩
  · have hld:=fun lk W (hw:MemC h W v { M with lk:=lk })=>ld_room h v { M with lk:=lk } a t f W hw (room_lk hr M.l lk) hz
    simp only[] at hld
    generalize ldF M.l a t f=R at hld ⊢
    generalize kdF t=kd at HK hld
    obtain⟨x,y,hxy⟩:∃ x y,whF t f=(x,y):=⟨_,_,rfl⟩
    rw[hxy] at HW hld hz
    simp only[] at hz hld
    have hz':(y == 0)=false:=by simpa using hz
    have HL:=Lib.hid hld
    clear hxy hm hr ht htb hld
    go_enter Tryz.func165,Tryz.ntmps165
    go_wp2_with fail
    refine HK.out.mono ?_
    rintro e w1 ⟨lk1,rfl,q1,f1⟩
    have HQ:=Lib.hid q1
    have HF:=Lib.hid f1
    clear q1 f1
    go_wp2_with fail
    refine(HW.out _ (HT.out _ HF.out)).mono ?_
    rintro e w2 ⟨rfl,hb2⟩
    have H2:Hid (MRet h w v { M with lk:=lk1 } (.int .u64 0) (.returned (.int .u64 0)) w2):=(MRet.then (e:=.returned (.int .u64 0)) (r:=.int .u64 0) ⟨rfl,HQ.out,HF.out⟩ (HQ.out.only hb2 (.int .u64 0)))
    clear hb2
    go_wp2_with fail
    refine(HL.out lk1 _ H2.out.2.1).mono ?_
    rintro e w3 ⟨lk3,hq⟩
    have h3:=H2.out.then hq
    obtain⟨rfl,q2,q3⟩:=h3
    have HE:Hid (MRet h w v { M with lk:=lk3 } (.int .u64 R) (.returned (.int .u64 R)) w3):=⟨rfl,q2,q3⟩
    clear q2 q3 hq
    go_wp2
    go_ret
    exact⟨_,HE.out⟩
end Go.Proofs.YtmgeiaglandedaaGreatDoor.Hea

namespace Go.Proofs.YtmgeiaglandedaaGreatDoor.Hea
open Go.RowKit Go.Shelf Num
open Mem (Mm MemC MRet Hm rd blkM)
set_option linter.unusedVariables false
attribute [local go_sem] Oper.semAt_some
def PL (b:Blk) (l:List Int) (a:Nat) (pre:List Nat):List Int:=pre.foldl (fun(l:List Int) (f:Nat)=>stF l a b.tag f (numF b f)) l
theorem PL_snoc (b:Blk) (l:List Int) (a:Nat) (pre:List Nat) (f:Nat):PL b l a (pre ++ [f])=stF (PL b l a pre) a b.tag f (numF b f):=by
  unfold PL
  rw[List.foldl_append]
  rfl
def ELX (b:Blk) (X:List Int) (pre:List Nat):List Int:=pre.foldl (fun(l:List Int) (f:Nat)=>stl l (whF b.tag f).1.toNat (whF b.tag f).2.toNat (numF b f)) X
theorem has_two {t:Int} {f:Nat} (h:hasF t f=true):(whF t f).2≠0:=by
  intro e
  rw[hasF,whF_pair _ e] at h
  cases h
theorem field_fit {b:Blk} (hb:b.Ok) (hr:RightP b) {f:Nat} (hf:hasF b.tag f=true) (h12:f<12):okF b.tag f (numF b f)=true:=by
  have h:=field_ok hb hr hf h12
  unfold okF
  rw[decide_eq_true (has_two hf),Bool.true_and]
  unfold ste at h
  split at h
  · assumption
  · cases h
theorem stF_yes {l:List Int} {a:Nat} {t f y:Int} (h:okF t f y=true):stF l a t f y=stl l (a+(whF t f).1.toNat) (whF t f).2.toNat y:=by
  unfold stF
  rw[if_pos h]
theorem stl_in {l X:List Int} {a o n:Nat} {v:Int} (h:a+X.length≤l.length) (ho:o+n≤X.length) (hn:n≤8):stl (Arn.wrL l a X) (a+o) n v=Arn.wrL l a (stl X o n v):=by
  have h1:(Arn.wrL l a X).length=l.length:=Arn.wrL_length _ _ _ h
  have h2:(stl X o n v).length=X.length:=stl_length _ _ _ _ ho hn
  have h3:(stl (Arn.wrL l a X) (a+o) n v).length=l.length:=by rw[stl_length _ _ _ _ (by omega) hn,h1]
  have h4:(Arn.wrL l a (stl X o n v)).length=l.length:=Arn.wrL_length _ _ _ (by omega)
  refine Mem.list_of_getD (by omega) fun i hi=>?_
  rw[stl_at _ _ _ _ _ (by omega) hn,Mem.wr_get _ _ _ _ h,Mem.wr_get _ _ _ _ (by omega),h2]
  by_cases c1:a≤i∧i<a+X.length
  · rw[if_pos c1,if_pos c1,stl_at _ _ _ _ _ ho hn]
    by_cases c2:o≤i-a∧i-a<o+n
    · rw[if_pos c2,if_pos (by omega),show i-(a+o)=i-a-o by omega]
    · rw[if_neg c2,if_neg (by omega)]
  · rw[if_neg c1,if_neg c1,if_neg (by omega)]
theorem wrL_self {l:List Int} {a m:Nat} (h:a+m≤l.length):Arn.wrL l a ((l.drop a).take m)=l:=by
  have h2:((l.drop a).take m).length=m:=by rw[List.length_take,List.length_drop];omega
  refine Mem.list_of_getD (Arn.wrL_length _ _ _ (by omega)) fun i hi=>?_
  rw[Mem.wr_get _ _ _ _ (by omega),h2]
  split
  · rw[take_getD _ _ _ (by omega),drop_getD,show a+(i-a)=i by omega]
  · rfl
theorem fl_mem {t:Int} {f:Nat} (h:f∈fl t 12):f<12∧hasF t f=true:=by
  unfold fl at h
  rw[List.mem_filter] at h
  refine⟨?_,h.2⟩
  have h1:=List.mem_of_mem_take h.1
  simp[ordN] at h1
  omega
theorem PL_wr {b:Blk} (hb:b.Ok) (hr:RightP b) {l:List Int} {a:Nat} (hl:a+(szF b.tag).toNat≤l.length):∀ (pre:List Nat) (X:List Int),(∀ f∈pre,f<12∧hasF b.tag f=true)→X.length=(szF b.tag).toNat→PL b (Arn.wrL l a X) a pre=Arn.wrL l a (ELX b X pre)
  | [],X,_,_=>rfl
  | f::pre,X,h,hX=>by
    have h0:=h f (by simp)
    have hw:=wh_fit (right_tag hr) f h0.1
    have e:PL b (Arn.wrL l a X) a (f::pre)=PL b (stF (Arn.wrL l a X) a b.tag f (numF b f)) a pre:=rfl
    have e2:ELX b X (f::pre)=ELX b (stl X (whF b.tag f).1.toNat (whF b.tag f).2.toNat (numF b f)) pre:=rfl
    rw[e,e2,stF_yes (field_fit hb hr h0.2 h0.1),stl_in (by omega) (by omega) (by omega)]
    exact PL_wr hb hr hl pre _ (fun g hg=>h g (by simp[hg])) (by rw[stl_length _ _ _ _ (by omega) (by omega)];exact hX)
theorem list_8 {l:List Int} (h:l.length=8):∃ a0 a1 a2 a3 a4 a5 a6 a7,l = [a0,a1,a2,a3,a4,a5,a6,a7]:=by
  obtain _ | ⟨a0,l⟩:=l
  · simp at h
  obtain _ | ⟨a1,l⟩:=l
  · simp at h
  obtain _ | ⟨a2,l⟩:=l
  · simp at h
  obtain _ | ⟨a3,l⟩:=l
  · simp at h
  obtain _ | ⟨a4,l⟩:=l
  · simp at h
  obtain _ | ⟨a5,l⟩:=l
  · simp at h
  obtain _ | ⟨a6,l⟩:=l
  · simp at h
  obtain _ | ⟨a7,l⟩:=l
  · simp at h
  obtain _ | ⟨a8,l⟩:=l
  · exact⟨_,_,_,_,_,_,_,_,rfl⟩
  · simp at h
theorem list_16 {l:List Int} (h:l.length=16):∃ a0 a1 a2 a3 a4 a5 a6 a7 a8 a9 a10 a11 a12 a13 a14 a15,l = [a0,a1,a2,a3,a4,a5,a6,a7,a8,a9,a10,a11,a12,a13,a14,a15]:=by
  obtain _ | ⟨a0,l⟩:=l
  · simp at h
  obtain _ | ⟨a1,l⟩:=l
  · simp at h
  obtain _ | ⟨a2,l⟩:=l
  · simp at h
  obtain _ | ⟨a3,l⟩:=l
  · simp at h
  obtain _ | ⟨a4,l⟩:=l
  · simp at h
  obtain _ | ⟨a5,l⟩:=l
  · simp at h
  obtain _ | ⟨a6,l⟩:=l
  · simp at h
  obtain _ | ⟨a7,l⟩:=l
  · simp at h
  obtain _ | ⟨a8,l⟩:=l
  · simp at h
  obtain _ | ⟨a9,l⟩:=l
  · simp at h
  obtain _ | ⟨a10,l⟩:=l
  · simp at h
  obtain _ | ⟨a11,l⟩:=l
  · simp at h
  obtain _ | ⟨a12,l⟩:=l
  · simp at h
  obtain _ | ⟨a13,l⟩:=l
  · simp at h
  obtain _ | ⟨a14,l⟩:=l
  · simp at h
  obtain _ | ⟨a15,l⟩:=l
  · simp at h
  obtain _ | ⟨a16,l⟩:=l
  · exact⟨_,_,_,_,_,_,_,_,_,_,_,_,_,_,_,_,rfl⟩
  · simp at h
theorem list_32 {l:List Int} (h:l.length=32):∃ a0 a1 a2 a3 a4 a5 a6 a7 a8 a9 a10 a11 a12 a13 a14 a15 a16 a17 a18 a19 a20 a21 a22 a23 a24 a25 a26 a27 a28 a29 a30 a31,l = [a0,a1,a2,a3,a4,a5,a6,a7,a8,a9,a10,a11,a12,a13,a14,a15,a16,a17,a18,a19,a20,a21,a22,a23,a24,a25,a26,a27,a28,a29,a30,a31]:=by
  obtain _ | ⟨a0,l⟩:=l
  · simp at h
  obtain _ | ⟨a1,l⟩:=l
  · simp at h
  obtain _ | ⟨a2,l⟩:=l
  · simp at h
  obtain _ | ⟨a3,l⟩:=l
  · simp at h
  obtain _ | ⟨a4,l⟩:=l
  · simp at h
  obtain _ | ⟨a5,l⟩:=l
  · simp at h
  obtain _ | ⟨a6,l⟩:=l
  · simp at h
  obtain _ | ⟨a7,l⟩:=l
  · simp at h
  obtain _ | ⟨a8,l⟩:=l
  · simp at h
  obtain _ | ⟨a9,l⟩:=l
  · simp at h
  obtain _ | ⟨a10,l⟩:=l
  · simp at h
  obtain _ | ⟨a11,l⟩:=l
  · simp at h
  obtain _ | ⟨a12,l⟩:=l
  · simp at h
  obtain _ | ⟨a13,l⟩:=l
  · simp at h
  obtain _ | ⟨a14,l⟩:=l
  · simp at h
  obtain _ | ⟨a15,l⟩:=l
  · simp at h
  obtain _ | ⟨a16,l⟩:=l
  · simp at h
  obtain _ | ⟨a17,l⟩:=l
  · simp at h
  obtain _ | ⟨a18,l⟩:=l
  · simp at h
  obtain _ | ⟨a19,l⟩:=l
  · simp at h
  obtain _ | ⟨a20,l⟩:=l
  · simp at h
  obtain _ | ⟨a21,l⟩:=l
  · simp at h
  obtain _ | ⟨a22,l⟩:=l
  · simp at h
  obtain _ | ⟨a23,l⟩:=l
  · simp at h
  obtain _ | ⟨a24,l⟩:=l
  · simp at h
  obtain _ | ⟨a25,l⟩:=l
  · simp at h
  obtain _ | ⟨a26,l⟩:=l
  · simp at h
  obtain _ | ⟨a27,l⟩:=l
  · simp at h
  obtain _ | ⟨a28,l⟩:=l
  · simp at h
  obtain _ | ⟨a29,l⟩:=l
  · simp at h
  obtain _ | ⟨a30,l⟩:=l
  · simp at h
  obtain _ | ⟨a31,l⟩:=l
  · simp at h
  obtain _ | ⟨a32,l⟩:=l
  · exact⟨_,_,_,_,_,_,_,_,_,_,_,_,_,_,_,_,_,_,_,_,_,_,_,_,_,_,_,_,_,_,_,_,rfl⟩
  · simp at h
set_option maxRecDepth 100000 in
theorem ELX_end {b:Blk} (hb:b.Ok) (hr:RightP b) {X:List Int} (hX:X.length=(szF b.tag).toNat):ELX b X (fl b.tag 12)=encL b:=by
  obtain⟨k1,k2,k3,k4,k5,k6,k7,k8,k9,k10,k11⟩:=hb
  simp only[i64,u32,u64,u16] at *
  obtain⟨tag,cls,used,lab,name,next,prev,refs,exp,typ,size,hash⟩:=b
  simp only[] at *
  rcases hr with⟨h0,h1,h2,h3,h4,h5,h6,h7,h8,h9,h10⟩ | ⟨h0,h1,h2,h3,h4,h5,h6⟩ | ⟨h0,h1,h2,h3,h4,h5,h6,h7,h8,h9,h10⟩
  · simp only[] at h0 h1 h2 h3 h4 h5 h6 h7 h8 h9 h10
    subst h0 h1 h2 h3
    rw[fl0]
    obtain⟨a0,a1,a2,a3,a4,a5,a6,a7,rfl⟩:=list_8 hX
    simp[ELX,whF,stl,parts,encL,p1,p4,numF,u64_id]
    omega
  · simp only[] at h0 h1 h2 h3 h4 h5 h6
    subst h0 h3
    have e1:IntKind.u64.wrap cls=cls:=u64_id (by omega) (by omega)
    have e2:IntKind.u64.wrap size=size:=u64_id (by omega) (by omega)
    rw[fl1]
    obtain⟨a0,a1,a2,a3,a4,a5,a6,a7,a8,a9,a10,a11,a12,a13,a14,a15,a16,a17,a18,a19,a20,a21,a22,a23,a24,a25,a26,a27,a28,a29,a30,a31,rfl⟩:=list_32 hX
    cases used<;>simp[ELX,whF,stl,parts,encL,p1,p4,p8,p2,numF,u64_id,e1,e2]<;>omega
  · simp only[] at h0 h1 h2 h3 h4 h5 h6 h7 h8 h9 h10
    subst h0 h3
    have e1:IntKind.u64.wrap cls=cls:=u64_id (by omega) (by omega)
    have e2:IntKind.u64.wrap lab=lab:=u64_id (by omega) (by omega)
    rw[fl2]
    obtain⟨a0,a1,a2,a3,a4,a5,a6,a7,a8,a9,a10,a11,a12,a13,a14,a15,rfl⟩:=list_16 hX
    simp[ELX,whF,stl,parts,encL,p1,p4,numF,u64_id,e1,e2]
    omega
theorem PL_end {b:Blk} (hb:b.Ok) (hr:RightP b) {l:List Int} {a:Nat} (hl:a+(szF b.tag).toNat≤l.length):PL b l a (fl b.tag 12)=Arn.wrL l a (encL b):=by
  have h2:((l.drop a).take (szF b.tag).toNat).length=(szF b.tag).toNat:=by rw[List.length_take,List.length_drop];omega
  have h:=PL_wr hb hr hl (fl b.tag 12) ((l.drop a).take (szF b.tag).toNat) (fun f hf=>fl_mem hf) h2
  rw[wrL_self hl,ELX_end hb hr h2] at h
  exact h
end Go.Proofs.YtmgeiaglandedaaGreatDoor.Hea

namespace Go.Proofs.YtmgeiaglandedaaGreatDoor.Hea
open Go.RowKit Go.Shelf Num
open Mem (Mm MemC MRet Hm rd blkM)
set_option linter.unusedVariables false
attribute [local go_sem] Oper.semAt_some
theorem memC_cells {h:Hm} {w:World} {v:Value} {M:Mm} (hm:MemC h w v M):∀ k,blkM h k→∃ o:Obj,w.heap[k]? = some o∧o.isCells=true:=by
  rintro k (rfl | (rfl | rfl) | (rfl | rfl))
  · exact⟨_,hm.blk,rfl⟩
  · exact⟨_,hm.wa.2.1,rfl⟩
  · exact⟨_,hm.wa.2.2.1,rfl⟩
  · exact⟨_,hm.ar.2.1,rfl⟩
  · exact⟨_,hm.ar.2.2.1,rfl⟩
theorem memC_own {β : Type} (h:Hm) (v:Value) (F : β → Mm):Own (fun s W=>MemC h W v (F s)):=fun s X Y row hs hg hrow =>
  MemC.stay (S:=fun k=>row=some k) hs (Fr.of_grown hg (Nat.le_refl _) (fun k e=>.inr e)) (fun k hk=>⟨hs.lt k hk,fun e=>by
    obtain⟨o,ho,hc⟩:=hrow k e
    obtain⟨o',ho',hc'⟩:=memC_cells hs k hk
    rw[ho] at ho'
    cases ho'
    rw[hc] at hc'
    cases hc'⟩)
theorem ownFrom_fr {β : Type} {n₀ B:Nat} {w₀:World} (S:Nat→Prop) (hn:n₀≤w₀.heap.size) (hB:n₀≤B):OwnFrom B (fun(_ : β) W=>Fr n₀ S w₀ W):=fun _ X Y row hs hg hr =>
  hs.trans (Fr.of_grown hg (Nat.le_trans hn hs.size) (fun k e=>.inl (Nat.le_trans hB (hr k e).1)))
theorem keepsFrom_fr {N B:Nat} {T:Nat→Prop} {X Y:World} (h:Fr N T X Y) (hN:X.heap.size≤N) (hT:∀ k,B≤k→¬ T k):KeepsFrom B X Y :=
  ⟨h.size,fun k o hB hk _=>(h.block k (Nat.lt_of_lt_of_le ((Array.getElem?_eq_some_iff.1 hk).1) hN) (hT k hB)).trans hk⟩
def Blks (L:List (Nat×Obj)) (W:World):Prop:=∀ p∈L,W.heap[p.1]? = some p.2
theorem blks_own {β : Type} (L:List (Nat×Obj)) (hL:(L.all fun p=>p.2.isCells)=true):Own (fun(_ : β) W=>Blks L W):=fun s X Y row hs hg hrow p hp =>
  grown_block (hs p hp) (by rw[List.all_eq_true] at hL;exact hL p hp) hg hrow
theorem Blks.fr {L:List (Nat×Obj)} {N:Nat} {T:Nat→Prop} {X Y:World} (hs:Blks L X) (h:Fr N T X Y) (hk:∀ p∈L,p.1<N∧¬ T p.1):Blks L Y:=fun p hp=>(h.block _ (hk p hp).1 (hk p hp).2).trans (hs p hp)
theorem Blks.below {L:List (Nat×Obj)} {X Y:World} (hs:Blks L X) (h:Below X.heap.size X Y):Blks L Y:=fun p hp=>(h.block _ (Array.getElem?_eq_some_iff.1 (hs p hp)).1).trans (hs p hp)
set_option maxRecDepth 100000 in
set_option maxHeartbeats 4000000 in
theorem put_free (h:Hm) (v:Value) (M:Mm) (a:Nat) (b:Blk) (w:World) (ht:Tab w) (hm:MemC h w v M) (hb:b.Ok) (hr:RightP b) (hro:Room M a b.tag) (hq:(b.tag == 0)=true) :
    Calls Tryz.prog 86 #[v,.int .i64 (a:Int),b.agg] w fun e w'=>∃ lk,MRet h w v { M with l:=Arn.wrL M.l a (encL b),lk:=lk } (.int .i64 0) e w':=by
  have htg:=right_tag hr
  have hR:rightF b=true:=by unfold rightF;exact decide_eq_true hr
  have hkd:kdF b.tag=6:=by unfold kdF;rw[if_pos (by simpa using hq)]
  have hri:=fun W=>right_any b W
  rw[hR] at hri
  have HRi:=Lib.hid hri
  have HN:=Lib.hid (fun W=>numbers_any b hb W)
  have HFs:=Lib.hid (fun W=>fields_any b.tag W)
  have HWh:=Lib.hid (fun f W hT=>where_any b.tag f W hT)
  have hst:∀ (pre:List (FT b.tag)) (f:FT b.tag) (lk:Int) (W:World),MemC h W v { M with l:=PL b M.l a (pre.map FT.f),lk:=lk } → Calls Tryz.prog 166 #[v,.int .i64 (wrap64 ((a:Int)+(whF b.tag f.f).1)),.int .i64 (whF b.tag f.f).2,.int .i64 6,.int .u64 (numF b f.f)] W
      fun e w'=>∃ lk',MRet h W v { M with l:=PL b M.l a ((pre ++ [f]).map FT.f),lk:=lk' } (.bool true) e w':=fun pre f lk W hw=>by
    have hbd:=numF_bd hb f.f
    have h1:=st_room h v _ a b.tag f.f (numF b f.f) W hw (room_lk hro _ lk) (has_two f.has) hbd.1 hbd.2
    rw[hkd,field_fit hb hr f.has f.lt] at h1
    rw[List.map_append,List.map_singleton,PL_snoc]
    exact h1
  have HSt:=Lib.hid hst
  have HEnd:=Lib.hid (PL_end hb hr (l:=M.l) (a:=a) (by have:=hro.len;rw[hm.lenx] at this;exact this))
  have HTab:=Lib.hid (fun W (hf:Fr w.heap.size (blkM h) w W)=>ht.fr hm hf)
  have HMl:=Lib.hid hm.lt
  have HOrd:Hid (2<w.heap.size∧3<w.heap.size∧¬ blkM h 2∧¬ blkM h 3):=⟨ht.lt.1,ht.lt.2,not_blk hm ht.ord_cell,not_blk hm ht.pl_cell⟩
  obtain⟨BB,hBB⟩:∃ BB:World→Prop,BB=fun W=>Blks [(w.heap.size,.cells #[.pointer (some ⟨h.g,0,none⟩)] 26 (0,0)),(w.heap.size+1,.cells #[.int .i64 (a:Int)] 3 (0,0)),(w.heap.size+2,.cells (cellsA b) 85 (0,0)),(w.heap.size+3,.cells #[.int .i64 0] 32 (0,0))] W∧Below w.heap.size w W:=⟨_,rfl⟩
  have HBB:Hid (∀ W V,BB W→Below W.heap.size W V→BB V):=fun W V h hb=>by rw[hBB] at h ⊢;exact⟨h.1.below hb,h.2.trans (hb.mono h.2.size)⟩
  have HBel:Hid (∀ W,BB W→Below w.heap.size w W∧w.heap.size+4≤W.heap.size):=fun W h=>by rw[hBB] at h;exact⟨h.2,(Array.getElem?_eq_some_iff.1 (h.1 _ (.tail _ (.tail _ (.tail _ (.head _)))))).1⟩
  have HBl:Hid (∀ W,BB W→Blks [(w.heap.size,.cells #[.pointer (some ⟨h.g,0,none⟩)] 26 (0,0)),(w.heap.size+1,.cells #[.int .i64 (a:Int)] 3 (0,0)),(w.heap.size+2,.cells (cellsA b) 85 (0,0)),(w.heap.size+3,.cells #[.int .i64 0] 32 (0,0))] W):=fun W h=>by rw[hBB] at h;exact h.1
  have HCell:Hid (∀ W,BB W→W.cell? ⟨w.heap.size+2,0,none⟩=some (.int .i64 b.tag)∧W.cell? ⟨w.heap.size+2,1,none⟩=some (.int .i64 b.cls)∧W.cell? ⟨w.heap.size+2,2,none⟩=some (.bool b.used)∧W.cell? ⟨w.heap.size+2,3,none⟩=some (.int .i64 b.lab)∧W.cell? ⟨w.heap.size+2,4,none⟩=some (.int .u32 b.name)∧W.cell? ⟨w.heap.size+2,5,none⟩=some (.int .u32 b.next)∧W.cell? ⟨w.heap.size+2,6,none⟩=some (.int .u32 b.prev)∧W.cell? ⟨w.heap.size+2,7,none⟩=some (.int .u32 b.refs)∧W.cell? ⟨w.heap.size+2,8,none⟩=some (.int .u64 b.exp)∧W.cell? ⟨w.heap.size+2,9,none⟩=some (.int .u16 b.typ)∧W.cell? ⟨w.heap.size+2,10,none⟩=some (.int .i64 b.size)∧W.cell? ⟨w.heap.size+2,11,none⟩=some (.int .u32 b.hash)):=fun W h=>by
    rw[hBB] at h
    exact cells_of (h.1 _ (.tail _ (.tail _ (.head _))))
  have HCv:Hid (∀ W,BB W→W.cell? ⟨w.heap.size,0,none⟩=some (.pointer (some ⟨h.g,0,none⟩))):=fun W h=>by
    rw[hBB] at h
    exact(cell_block (h.1 _ (.head _)) 0).trans rfl
  have HMade:Hid (∀ W,BB W→Calls Tryz.prog 168 #[v] W fun e w'=>e = .returned (.bool true)∧Below W.heap.size W w'):=fun W h=>by
    rw[hBB] at h
    exact hmade_any _ v M W (hm.below h.2)
  have HX:Hid (BB ((((w.alloc (.cells #[.pointer (some ⟨h.g,0,none⟩)] 26)).alloc (.cells #[.int .i64 (a:Int)] 3)).alloc (.cells (cellsA b) 85)).alloc (.cells #[.int .i64 0] 32))):=by
    unfold Hid
    rw[hBB]
    have b1:=below_made w (.cells #[.pointer (some ⟨h.g,0,none⟩)] 26)
    have b2:=below_made (w.alloc (.cells #[.pointer (some ⟨h.g,0,none⟩)] 26)) (.cells #[.int .i64 (a:Int)] 3)
    have b3:=below_made ((w.alloc (.cells #[.pointer (some ⟨h.g,0,none⟩)] 26)).alloc (.cells #[.int .i64 (a:Int)] 3)) (.cells (cellsA b) 85)
    have b4:=below_made (((w.alloc (.cells #[.pointer (some ⟨h.g,0,none⟩)] 26)).alloc (.cells #[.int .i64 (a:Int)] 3)).alloc (.cells (cellsA b) 85)) (.cells #[.int .i64 0] 32)
    have k1:=heap_alloc_new w (.cells #[.pointer (some ⟨h.g,0,none⟩)] 26)
    have k2:=heap_alloc_new (w.alloc (.cells #[.pointer (some ⟨h.g,0,none⟩)] 26)) (.cells #[.int .i64 (a:Int)] 3)
    have k3:=heap_alloc_new ((w.alloc (.cells #[.pointer (some ⟨h.g,0,none⟩)] 26)).alloc (.cells #[.int .i64 (a:Int)] 3)) (.cells (cellsA b) 85)
    have k4:=heap_alloc_new (((w.alloc (.cells #[.pointer (some ⟨h.g,0,none⟩)] 26)).alloc (.cells #[.int .i64 (a:Int)] 3)).alloc (.cells (cellsA b) 85)) (.cells #[.int .i64 0] 32)
    simp only[World.size_alloc] at k1 k2 k3 k4
    refine⟨?_,(((b1.trans (b2.mono b1.size)).trans (b3.mono (by simp<;>omega))).trans (b4.mono (by simp<;>omega)))⟩
    intro p hp
    simp only[List.mem_cons,List.not_mem_nil,or_false] at hp
    rcases hp with rfl | rfl | rfl | rfl
    · exact(b4.block _ (by simp<;>omega)).trans ((b3.block _ (by simp<;>omega)).trans ((b2.block _ (by simp)).trans k1))
    · exact(b4.block _ (by simp<;>omega)).trans ((b3.block _ (by simp)).trans k2)
    · exact(b4.block _ (by simp)).trans k3
    · exact k4
  unfold cellsA at HX
  unfold numsA at HN
  obtain⟨nf,hnf⟩:∃ nf,nf=numF b:=⟨_,rfl⟩
  rw[←hnf] at HN HSt
  have HNF:=Lib.hid hnf
  have HMem:Hid (∀ W,BB W→MemC h W v { M with l:=PL b M.l a [],lk:=M.lk }):=fun W h=>by
    rw[hBB] at h
    exact hm.below h.2
  unfold Blk.agg at HN HRi ⊢
  obtain rfl:=hm.hv
  clear hBB hb hr hri ht htg hnf hR hkd hst hro hm
  obtain⟨c0,c1,c2,c3,c4,c5,c6,c7,c8,c9,c10,c11⟩:=HCell.out _ HX.out
  have cv:=HCv.out _ HX.out
  refine(callsIn_wide (n:=6)).1 ?_
  refine callsIn_of_wp_marks Tryz.func86 rfl trivial ?_ rfl
  simp only[Tryz.ntmps86,List.size_toArray,List.length_cons,List.length_nil,Nat.reduceAdd,Nat.reduceSub,Array.replicate_succ,Array.replicate_zero,List.push_toArray,List.append_toArray,List.nil_append,List.cons_append]
  refine wpIn_wide.2 ?_
  go_wp2_with fail
  refine(HMade.out _ HX.out).mono ?_
  rintro e w1 ⟨rfl,hb1⟩
  have HV1:=Lib.hid (HBB.out _ _ HX.out hb1)
  clear hb1 c0 c1 c2 c3 c4 c5 c6 c7 c8 c9 c10 c11 cv
  obtain⟨c0,c1,c2,c3,c4,c5,c6,c7,c8,c9,c10,c11⟩:=HCell.out _ HV1.out
  go_wp2_with fail
  refine(HRi.out _).mono ?_
  rintro e w2 ⟨rfl,hb2⟩
  have HV2:=Lib.hid (HBB.out _ _ HV1.out hb2)
  clear hb2 c0 c1 c2 c3 c4 c5 c6 c7 c8 c9 c10 c11
  have HV2a:=Lib.hid (HBB.out _ _ HV2.out (below_made w2 (.cells #[.int .i64 5] 3)))
  have HV2b:=Lib.hid (HBB.out _ _ HV2.out (below_made w2 (.cells #[.int .i64 6] 3)))
  have HKb:=Lib.hid (heap_alloc_new w2 (.cells #[.int .i64 6] 3))
  obtain⟨c0,-⟩:=HCell.out _ HV2a.out
  obtain⟨d0,d1,d2,d3,d4,d5,d6,d7,d8,d9,d10,d11⟩:=HCell.out _ HV2b.out
  go_wp2_with fail
  refine(HN.out _).mono ?_
  rintro e w3 ⟨rfl,hb3⟩
  clear c0 d0 d1 d2 d3 d4 d5 d6 d7 d8 d9 d10 d11
  have HV3:=Lib.hid (HBB.out _ _ HV2b.out hb3)
  have hKb3:=(hb3.block w2.heap.size (by simp)).trans HKb.out
  have hVa:=heap_alloc_new w3 (.cells #[.int .u64 (nf 0),.int .u64 (nf 1),.int .u64 (nf 2),.int .u64 (nf 3),.int .u64 (nf 4),.int .u64 (nf 5),.int .u64 (nf 6),.int .u64 (nf 7),.int .u64 (nf 8),.int .u64 (nf 9),.int .u64 (nf 10),.int .u64 (nf 11)] 199)
  have hb4:=below_made w3 (.cells #[.int .u64 (nf 0),.int .u64 (nf 1),.int .u64 (nf 2),.int .u64 (nf 3),.int .u64 (nf 4),.int .u64 (nf 5),.int .u64 (nf 6),.int .u64 (nf 7),.int .u64 (nf 8),.int .u64 (nf 9),.int .u64 (nf 10),.int .u64 (nf 11)] 199)
  have HV4:=Lib.hid (HBB.out _ _ HV3.out hb4)
  have hz3:=hb3.size
  simp only[World.size_alloc] at hz3
  have HKb4:=Lib.hid ((hb4.block w2.heap.size (by omega)).trans hKb3)
  obtain⟨W4,hW4⟩:∃ W4,W4=w3.alloc (.cells #[.int .u64 (nf 0),.int .u64 (nf 1),.int .u64 (nf 2),.int .u64 (nf 3),.int .u64 (nf 4),.int .u64 (nf 5),.int .u64 (nf 6),.int .u64 (nf 7),.int .u64 (nf 8),.int .u64 (nf 9),.int .u64 (nf 10),.int .u64 (nf 11)] 199):=⟨_,rfl⟩
  have hz4:W4.heap.size=w3.heap.size+1:=by rw[hW4];simp
  rw[←hW4] at hVa HV4 HKb4
  have HW4:=Lib.hid hW4
  clear hb3 hb4 hKb3 HV3 HKb HX hW4
  obtain⟨c0,-⟩:=HCell.out _ HV4.out
  rw[HW4.out] at c0
  go_wp2_with fail
  rw[←HW4.out] at c0 ⊢
  refine(HFs.out _).mono ?_
  rintro e w5 ⟨rfl,rfl⟩
  have hb5:=below_made W4 (.cells #[.int .i64 b.tag] 3)
  have HV5:=Lib.hid (HBB.out _ _ HV4.out hb5)
  have hTb:=heap_alloc_new W4 (.cells #[.int .i64 b.tag] 3)
  have h2s:=(HBel.out _ HV2.out).2
  have hL0:=HBl.out _ HV5.out
  have hBl:Blks [(w.heap.size,.cells #[.pointer (some ⟨h.g,0,none⟩)] 26 (0,0)),(w.heap.size+1,.cells #[.int .i64 (a:Int)] 3 (0,0)),(w.heap.size+2,.cells (cellsA b) 85 (0,0)),(w.heap.size+3,.cells #[.int .i64 0] 32 (0,0)),(w2.heap.size,.cells #[.int .i64 6] 3 (0,0)),(w3.heap.size,.cells (numsA b) 199 (0,0)),(w3.heap.size+1,.cells #[.int .i64 b.tag] 3 (0,0))] (W4.alloc (.cells #[.int .i64 b.tag] 3)):=by
    intro p hp
    simp only[List.mem_cons,List.not_mem_nil,or_false] at hp
    rcases hp with rfl | rfl | rfl | rfl | rfl | rfl | rfl
    · exact hL0 _ (.head _)
    · exact hL0 _ (.tail _ (.head _))
    · exact hL0 _ (.tail _ (.tail _ (.head _)))
    · exact hL0 _ (.tail _ (.tail _ (.tail _ (.head _))))
    · exact(hb5.block _ (by simp only[];omega)).trans HKb4.out
    · refine(hb5.block _ (by simp only[];omega)).trans ?_
      rw[hVa,HNF.out]
      rfl
    · rw[←hz4]
      exact hTb
  have HBe:=Lib.hid (HBel.out _ HV5.out).1
  have hz5:(W4.alloc (.cells #[.int .i64 b.tag] 3)).heap.size=w3.heap.size+2:=by simp[hz4]
  have HM5:=Lib.hid (HMem.out _ HV5.out)
  have hTl:=HOrd.out
  clear hb5 hTb hVa c0 hL0
  go_wp2_with fail
  rw[hz4] at *
  obtain⟨W0,hW0⟩:∃ W0,W0=W4.alloc (.cells #[.int .i64 b.tag] 3):=⟨_,rfl⟩
  rw[←hW0] at hBl HBe hz5 HV5 HM5 ⊢
  have HT0:=Lib.hid (HTab.out _ (Fr.of_below HBe.out))
  clear hW0 HV4 HKb4 HV1 HV2 HV2a HV2b HV5
  refine wpIn_wide (n:=6) |>.1 ?_
  obtain⟨LL,hLL⟩:∃ LL:List (Nat×Obj),LL = [(w.heap.size,.cells #[.pointer (some ⟨h.g,0,none⟩)] 26 (0,0)),(w.heap.size+1,.cells #[.int .i64 (a:Int)] 3 (0,0)),(w.heap.size+2,.cells (cellsA b) 85 (0,0)),(w.heap.size+3,.cells #[.int .i64 0] 32 (0,0)),(w2.heap.size,.cells #[.int .i64 6] 3 (0,0)),(w3.heap.size,.cells (numsA b) 199 (0,0)),(w3.heap.size+1,.cells #[.int .i64 b.tag] 3 (0,0))]:=⟨_,rfl⟩
  rw[←hLL] at hBl
  have hLc:(LL.all fun p=>p.2.isCells)=true:=by rw[hLL];rfl
  have HLs:Hid (∀ p∈LL,w.heap.size≤p.1):=fun p hp=>by
    rw[hLL] at hp
    simp only[List.mem_cons,List.not_mem_nil,or_false] at hp
    rcases hp with rfl | rfl | rfl | rfl | rfl | rfl | rfl<;>(simp only[];omega)
  have HLL:=Lib.hid hLL
  have hT0:W0.cell? ⟨w3.heap.size+1,0,none⟩=some (.int .i64 b.tag):=(cell_block (hBl _ (by rw[hLL];exact .tail _ (.tail _ (.tail _ (.tail _ (.tail _ (.tail _ (.head _)))))))) 0).trans rfl
  clear hLL
  refine wpIn_rangeFunc_ownH rfl (by omega) (gf:=227) (lb := #[.pointer (some ⟨w3.heap.size+1,0,none⟩)]) rfl trivial (enters_of Tryz.func227 (by kernel_rfl) rfl)
    (fields_stops 5 (by omega) (w3.heap.size+1) b.tag W0 (by omega) hT0 HT0.out) (fun h k=>h.trans k) (KpS.put (SF.lt HT0.out (by omega))) (Below.refl _ _) (fun _=>rfl)
    (fun pre W=>(∃ lk,MemC h W (.pointer (some ⟨h.g,0,none⟩)) { M with l:=PL b M.l a (pre.map FT.f),lk:=lk })∧Blks LL W∧Fr w.heap.size (blkM h) w W)
    (fun _ _ _=>False)
    (OwnFrom.and (Own.from (own_ex fun lk=>memC_own h _ (fun pre:List (FT b.tag) => { M with l:=PL b M.l a (pre.map FT.f),lk:=lk })) _) (OwnFrom.and (Own.from (blks_own LL hLc) _) (ownFrom_fr _ (Nat.le_refl _) (by omega))))
    (fun _ _ _ _ _ hs _ _=>hs)
    ⟨⟨_,HM5.out⟩,hBl,Fr.of_below HBe.out⟩
    (fun f a' W=>a' = { tmps := #[.pointer (some ⟨h.g,0,none⟩),.int .i64 (a:Int),.agg #[.int .i64 b.tag,.int .i64 b.cls,.bool b.used,.int .i64 b.lab,.int .u32 b.name,.int .u32 b.next,.int .u32 b.prev,.int .u32 b.refs,.int .u64 b.exp,.int .u16 b.typ,.int .i64 b.size,.int .u32 b.hash],.pointer (some ⟨w.heap.size,0,none⟩),.pointer (some ⟨w.heap.size+1,0,none⟩),.pointer (some ⟨w.heap.size+2,0,none⟩),.pointer (some ⟨w.heap.size+3,0,none⟩),.pointer (some ⟨w2.heap.size,0,none⟩),.pointer (some ⟨w3.heap.size,0,none⟩),.int .i64 (f.f:Int),undef,undef,.pointer (some ⟨h.g,0,none⟩),.bool true,.bool false,.agg #[.int .i64 b.tag,.int .i64 b.cls,.bool b.used,.int .i64 b.lab,.int .u32 b.name,.int .u32 b.next,.int .u32 b.prev,.int .u32 b.refs,.int .u64 b.exp,.int .u16 b.typ,.int .i64 b.size,.int .u32 b.hash],.bool true,.bool false,.pointer (some ⟨w.heap.size+2,0,none⟩),.int .i64 b.tag,.bool true,.agg #[.int .i64 b.tag,.int .i64 b.cls,.bool b.used,.int .i64 b.lab,.int .u32 b.name,.int .u32 b.next,.int .u32 b.prev,.int .u32 b.refs,.int .u64 b.exp,.int .u16 b.typ,.int .i64 b.size,.int .u32 b.hash],.agg #[.int .u64 (nf 0),.int .u64 (nf 1),.int .u64 (nf 2),.int .u64 (nf 3),.int .u64 (nf 4),.int .u64 (nf 5),.int .u64 (nf 6),.int .u64 (nf 7),.int .u64 (nf 8),.int .u64 (nf 9),.int .u64 (nf 10),.int .u64 (nf 11)],.pointer (some ⟨w.heap.size+2,0,none⟩),.int .i64 b.tag,.func (.func 227) #[] #[.pointer (some ⟨w3.heap.size+1,0,none⟩)],.int .i64 (f.f:Int),undef,undef,undef,undef,undef,undef,undef,undef,undef,undef,undef,undef,undef,undef,undef,undef,undef,undef],defers := [] })
    (fun f a' _ X Y row hs hg hr=>hs)
    ?assign ?body ?done ?stop
  case assign =>
    rintro l pre f W K hi hK
    gi_wp2
    exact hK _ _ (KeepsFrom.refl _ _) (KpS.refl _ _) hi rfl
  case body =>
    rintro l pre f a' W hl ⟨rr,hr⟩ ⟨⟨lk,hmc⟩,hbl,hfr⟩ rfl hlt
    have HTW:=Lib.hid (HTab.out _ hfr)
    have HW1:=Lib.hid (HWh.out (f.f:Int) W HTW.out)
    have HS1:=Lib.hid (fun V (hb:Below W.heap.size W V)=>HSt.out pre f lk V (hmc.below hb))
    have hbl2:=hbl
    rw[HLL.out] at hbl2
    have t0:W.cell? ⟨w.heap.size+2,0,none⟩=some (.int .i64 b.tag):=(cell_block (hbl2 _ (.tail _ (.tail _ (.head _)))) 0).trans rfl
    have HC0:Hid (∀ V,Blks LL V→V.cell? ⟨w.heap.size,0,none⟩=some (.pointer (some ⟨h.g,0,none⟩))∧V.cell? ⟨w.heap.size+1,0,none⟩=some (.int .i64 (a:Int))∧V.cell? ⟨w2.heap.size,0,none⟩=some (.int .i64 6)∧V.cell? ⟨w3.heap.size,f.f,none⟩=some (.int .u64 (nf f.f))):=fun V hv=>by
      rw[HLL.out] at hv
      refine⟨(cell_block (hv _ (.head _)) 0).trans rfl,(cell_block (hv _ (.tail _ (.head _))) 0).trans rfl,(cell_block (hv _ (.tail _ (.tail _ (.tail _ (.tail _ (.head _)))))) 0).trans rfl,?_⟩
      rw[HNF.out]
      exact(cell_block (hv _ (.tail _ (.tail _ (.tail _ (.tail _ (.tail _ (.head _))))))) f.f).trans (numsA_at b f.lt)
    have HC1:Hid (∀ V U,Below W.heap.size W V→Fr V.heap.size (blkM h) V U→U.cell? ⟨w.heap.size,0,none⟩=some (.pointer (some ⟨h.g,0,none⟩))∧U.cell? ⟨w.heap.size+1,0,none⟩=some (.int .i64 (a:Int))∧U.cell? ⟨w2.heap.size,0,none⟩=some (.int .i64 6)∧U.cell? ⟨w3.heap.size,f.f,none⟩=some (.int .u64 (nf f.f))):=fun V U h1 h2 =>
      HC0.out _ ((hbl.below h1).fr h2 (fun p hp=>⟨(Array.getElem?_eq_some_iff.1 ((hbl.below h1) p hp)).1,fun hk=>by have:=HMl.out _ hk;have:=HLs.out p hp;omega⟩))
    have HBd:=Lib.hid (fun V (hb:Below W.heap.size W V)=>HC0.out V (hbl.below hb))
    have hf12:=f.lt
    clear hbl2
    obtain⟨F,hF⟩:∃ F,F=f.f:=⟨_,rfl⟩
    obtain⟨x,y,hxy⟩:∃ x y,whF b.tag (f.f:Int)=(x,y):=⟨_,_,rfl⟩
    rw[hxy] at HW1 HS1
    rw[←hF] at HW1 HS1 HC1 HBd hf12 ⊢
    have hfi:(F:Int)<12:=by omega
    clear hF hxy
    gi_wp2_with (refine⟨trivial,?_⟩;gi_at_call 172;refine(CallsIn.inRound l (callsIn_wide.2 HW1.out)).mono ?_;rintro e wq ⟨rfl,hb1⟩;have v2:=HBd.out _ hb1.drew)
    refine wpIn_round_held (S:=fun w'=>w'.cell? ⟨w.heap.size,0,none⟩=some (.pointer (some ⟨h.g,0,none⟩))∧w'.cell? ⟨w.heap.size+1,0,none⟩=some (.int .i64 (a:Int))∧w'.cell? ⟨w2.heap.size,0,none⟩=some (.int .i64 6)∧w'.cell? ⟨w3.heap.size,F,none⟩=some (.int .u64 (nf F))) (by kernel_rfl) (noDefer_ok (by kernel_rfl)) (by rintro ⟨a,w,h⟩;exact h) v2 (fun hHeld=>?_)
    refine wpAnyH_take (i:=2) (v:=?v2) rfl (by kernel_rfl) (by kernel_rfl) (by kernel_rfl) (fun _ _ _ h=>h) (Or.inl ⟨by rfl,?y2⟩) (by assumption) ?r2
    case y2=>(intro w hSw;(try dsimp only at hSw);obtain⟨s1,s2,s3,s4⟩:=hSw;go_simp;all_goals (with_reducible rfl))
    try simp only[Act.put,List.getElem_toArray,List.getElem_cons_zero,List.getElem_cons_succ,List.setIfInBounds_toArray,List.set_cons_zero,List.set_cons_succ]
    refine wpAnyH_take (i:=4) (v:=?v4) rfl (by kernel_rfl) (by kernel_rfl) (by kernel_rfl) (fun _ _ _ h=>h) (Or.inl ⟨by rfl,?y4⟩) (by assumption) ?r4
    case y4=>(intro w hSw;(try dsimp only at hSw);obtain⟨s1,s2,s3,s4⟩:=hSw;go_simp;all_goals (with_reducible rfl))
    try simp only[Act.put,List.getElem_toArray,List.getElem_cons_zero,List.getElem_cons_succ,List.setIfInBounds_toArray,List.set_cons_zero,List.set_cons_succ]
    refine wpAnyH_take (i:=6) (v:=?v6) rfl (by kernel_rfl) (by kernel_rfl) (by kernel_rfl) (fun _ _ _ h=>h) (Or.inl ⟨by rfl,?y6⟩) (by assumption) ?r6
    case y6=>(intro w hSw;(try dsimp only at hSw);obtain⟨s1,s2,s3,s4⟩:=hSw;go_simp;all_goals (with_reducible rfl))
    try simp only[Act.put,List.getElem_toArray,List.getElem_cons_zero,List.getElem_cons_succ,List.setIfInBounds_toArray,List.set_cons_zero,List.set_cons_succ]
    refine wpAnyH_take (i:=0) (v:=?v0) rfl (by kernel_rfl) (by kernel_rfl) (by kernel_rfl) (fun _ _ _ h=>h) (Or.inl ⟨by rfl,?y0⟩) (by assumption) ?r0
    case y0=>(intro w hSw;(try dsimp only at hSw);obtain⟨s1,s2,s3,s4⟩:=hSw;go_simp;all_goals (with_reducible rfl))
    try simp only[Act.put,List.getElem_toArray,List.getElem_cons_zero,List.setIfInBounds_toArray,List.set_cons_zero,List.set_cons_succ]
    refine wpAnyH_take (i:=1) (v:=?v1) rfl (by kernel_rfl) (by kernel_rfl) (by kernel_rfl) (fun _ _ _ h=>h) (Or.inl ⟨by rfl,?y1⟩) (by assumption) ?r1
    case y1=>(intro w hSw;(try dsimp only at hSw);obtain⟨s1,s2,s3,s4⟩:=hSw;go_simp;all_goals (with_reducible rfl))
    try simp only[Act.put,List.getElem_toArray,List.getElem_cons_zero,List.getElem_cons_succ,List.setIfInBounds_toArray,List.set_cons_zero,List.set_cons_succ]
    refine wpAnyH_take (i:=3) (v:=?v3) rfl (by kernel_rfl) (by kernel_rfl) (by kernel_rfl) (fun _ _ _ h=>h) (Or.inl ⟨by rfl,?y3⟩) (by assumption) ?r3
    case y3=>(intro w hSw;(try dsimp only at hSw);obtain⟨s1,s2,s3,s4⟩:=hSw;go_simp;all_goals (with_reducible rfl))
    try simp only[Act.put,List.getElem_toArray,List.getElem_cons_zero,List.getElem_cons_succ,List.setIfInBounds_toArray,List.set_cons_zero,List.set_cons_succ]
    refine wpAnyH_take (i:=5) (v:=?v5) rfl (by kernel_rfl) (by kernel_rfl) (by kernel_rfl) (fun _ _ _ h=>h) (Or.inl ⟨by rfl,?y5⟩) (by assumption) ?r5
    case y5=>(intro w hSw;(try dsimp only at hSw);obtain⟨s1,s2,s3,s4⟩:=hSw;go_simp;all_goals (with_reducible rfl))
    try simp only[Act.put,List.getElem_toArray,List.getElem_cons_zero,List.getElem_cons_succ,List.setIfInBounds_toArray,List.set_cons_zero,List.set_cons_succ]
    refine wpAnyH_take (i:=7) (v:=?v7) rfl (by kernel_rfl) (by kernel_rfl) (by kernel_rfl) (fun _ _ _ h=>h) (Or.inl ⟨by rfl,?y7⟩) (by assumption) ?r7
    case y7=>(intro w hSw;(try dsimp only at hSw);obtain⟨s1,s2,s3,s4⟩:=hSw;go_simp;all_goals (with_reducible rfl))
    try simp only[Act.put,List.getElem_toArray,List.getElem_cons_zero,List.getElem_cons_succ,List.setIfInBounds_toArray,List.set_cons_zero,List.set_cons_succ]
    refine wpAnyH_take (i:=8) (v:=?v8) rfl (by kernel_rfl) (by kernel_rfl) (by kernel_rfl) (fun _ _ _ h=>h) (Or.inl ⟨by rfl,?y8⟩) (by assumption) ?r8
    case y8=>(intro w hSw;(try dsimp only at hSw);obtain⟨s1,s2,s3,s4⟩:=hSw;go_simp;all_goals (with_reducible rfl))
    try simp only[Act.put,List.getElem_toArray,List.getElem_cons_zero,List.getElem_cons_succ,List.setIfInBounds_toArray,List.set_cons_zero,List.set_cons_succ]
    refine wpAnyH_ready (rs := [9]) (by kernel_rfl) (by simp) ?_
    refine AllReadyH.cons rfl (fun K hK=>?_) AllReadyH.nil
    go_simp
    go_at_call 166
    rw[IntWalk.i64_left ((a:Int)+x)]
    refine(HS1.out _ hb1.drew).mono ?_
    rintro e w4 ⟨lk4,hq4⟩
    obtain⟨rfl,m4,f4⟩:=hq4
    have c4:=HC1.out _ _ hb1.drew f4
    go_wp2_with fail
    refine hK.out _ _ c4 (fun hHeld=>?_)
    clear hK K
    try simp only[Act.put,List.getElem_toArray,List.getElem_cons_zero,List.getElem_cons_succ,List.setIfInBounds_toArray,List.set_cons_zero,List.set_cons_succ]
    refine wpAnyH_take (i:=10) (v:=?v10) rfl (by kernel_rfl) (by kernel_rfl) (by kernel_rfl) (fun _ _ _ h=>h) (Or.inl ⟨by rfl,?y10⟩) (by assumption) ?r10
    case y10=>(intro w hSw;(try dsimp only at hSw);obtain⟨s1,s2,s3,s4⟩:=hSw;go_simp;all_goals (with_reducible rfl))
    try simp only[Act.put,List.getElem_toArray,List.getElem_cons_zero,List.getElem_cons_succ,List.setIfInBounds_toArray,List.set_cons_zero,List.set_cons_succ]
    refine wpAnyH_done (by kernel_rfl) ?_ _
    have F14:=(Fr.of_below (S:=blkM h) hb1.drew).trans (f4.mono hb1.drew.size (fun _ _ h=>h))
    have HE:Hid (KeepsFrom W0.heap.size W w4∧KpS (SF (w3.heap.size+1)) W w4∧(∃ lk,MemC h w4 (.pointer (some ⟨h.g,0,none⟩)) { M with l:=PL b M.l a ((pre ++ [f]).map FT.f),lk:=lk })∧Blks LL w4∧Fr w.heap.size (blkM h) w w4):=by
      have hlt2:∀ p∈LL,p.1<W.heap.size:=fun p hp=>(Array.getElem?_eq_some_iff.1 (hbl p hp)).1
      refine⟨keepsFrom_fr F14 (Nat.le_refl _) (fun k hB hk=>by have:=HMl.out k hk;omega),KpS.fr F14 (fun k hk=>⟨SF.lt HTW.out (Array.getElem?_eq_some_iff.1 (hbl _ (by rw[HLL.out];exact .tail _ (.tail _ (.tail _ (.tail _ (.tail _ (.tail _ (.head _))))))))).1 k hk,?_⟩),⟨lk4,m4⟩,
        hbl.fr F14 (fun p hp=>⟨hlt2 p hp,fun hk=>by have:=HMl.out _ hk;have:=HLs.out p hp;omega⟩),hfr.trans (F14.mono hfr.size (fun _ _ h=>h))⟩
      intro hbk
      rcases hk with e | e | e
      · rw[e] at hbk
        have:=HMl.out _ hbk
        omega
      · rw[e] at hbk
        exact hTl.2.2.1 hbk
      · rw[e] at hbk
        exact hTl.2.2.2 hbk
    clear F14 f4 m4 v2 c4
    gi_wp2
    exact HE.out
  case done =>
    rintro D ys W hD rfl ⟨⟨lk,hmc⟩,hbl,hfr⟩ hK
    have hbl2:=hbl
    rw[HLL.out] at hbl2
    have bE:=hbl2 _ (.tail _ (.tail _ (.tail _ (.head _))))
    have cS:W.cell? ⟨w.heap.size+3,0,none⟩=some (.int .i64 0):=(cell_block bE 0).trans rfl
    have fS:W.frozen? ⟨w.heap.size+3,0,none⟩=false:=frozen_block bE 0
    clear hbl2
    go_wp2
    have hK':=(KeepsOthers.setCell W ⟨w.heap.size+3,0,none⟩ (.int .i64 0)).same D _ hK rfl
    refine⟨by simp,.inl ⟨_,_,rfl,run_takeDeferred hK',?_⟩⟩
    have hc5:=cell_kept (World.cell?_setCell_same' W ⟨w.heap.size+3,0,none⟩ (.int .i64 0) (by rw[cS];rfl)) (grownBy_putObj' _ D (.deferred none)) (fun r e=>by cases e;exact⟨_,hK',rfl⟩)
    have hne:∀ k,blkM h k→k<w.heap.size+3:=fun k hk=>by have:=HMl.out k hk;omega
    have hf1:Fr (w.heap.size+3) (fun _=>False) W (W.setCell ⟨w.heap.size+3,0,none⟩ (.int .i64 0)):=(Fr.refl _ _ _).setCell (p:=⟨w.heap.size+3,0,none⟩) (.inl (Nat.le_refl _)) _
    have m1:=hmc.stay hf1 (fun k hk=>⟨hne k hk,fun h=>h⟩)
    have m2:=(memC_own h _ (fun _:Unit => { M with l:=PL b M.l a ((flT b.tag 12).map FT.f),lk:=lk })) () _ _ _ m1 (grownBy_putObj' _ D (.deferred none)) (fun r e=>by cases e;exact⟨_,hK',rfl⟩)
    rw[flT_map,HEnd.out] at m2
    have hf2:Fr w.heap.size (blkM h) w _:=(hfr.setCell (p:=⟨w.heap.size+3,0,none⟩) (.inl (by show w.heap.size≤w.heap.size+3;omega)) (.int .i64 0)).trans (Fr.of_grown (grownBy_putObj' _ D (.deferred none)) (by simp;exact hfr.size) (fun k e=>by cases e;exact .inl (by omega)))
    refine⟨.int .i64 0,?_,lk,rfl,m2,hf2⟩
    simp[results,Tryz.f86,go_sem,hc5]
  case stop =>
    rintro D c pre W _ _ h _
    exact h.elim
set_option maxRecDepth 100000 in
set_option maxHeartbeats 4000000 in
theorem put_live (h:Hm) (v:Value) (M:Mm) (a:Nat) (b:Blk) (w:World) (ht:Tab w) (hm:MemC h w v M) (hb:b.Ok) (hr:RightP b) (hro:Room M a b.tag) (hq:(b.tag == 0)=false) :
    Calls Tryz.prog 86 #[v,.int .i64 (a:Int),b.agg] w fun e w'=>∃ lk,MRet h w v { M with l:=Arn.wrL M.l a (encL b),lk:=lk } (.int .i64 0) e w':=by
  have htg:=right_tag hr
  have hR:rightF b=true:=by unfold rightF;exact decide_eq_true hr
  have hkd:kdF b.tag=5:=by unfold kdF;rw[if_neg (by simpa using hq)]
  have hri:=fun W=>right_any b W
  rw[hR] at hri
  have HRi:=Lib.hid hri
  have HN:=Lib.hid (fun W=>numbers_any b hb W)
  have HFs:=Lib.hid (fun W=>fields_any b.tag W)
  have HWh:=Lib.hid (fun f W hT=>where_any b.tag f W hT)
  have hst:∀ (pre:List (FT b.tag)) (f:FT b.tag) (lk:Int) (W:World),MemC h W v { M with l:=PL b M.l a (pre.map FT.f),lk:=lk } → Calls Tryz.prog 166 #[v,.int .i64 (wrap64 ((a:Int)+(whF b.tag f.f).1)),.int .i64 (whF b.tag f.f).2,.int .i64 5,.int .u64 (numF b f.f)] W
      fun e w'=>∃ lk',MRet h W v { M with l:=PL b M.l a ((pre ++ [f]).map FT.f),lk:=lk' } (.bool true) e w':=fun pre f lk W hw=>by
    have hbd:=numF_bd hb f.f
    have h1:=st_room h v _ a b.tag f.f (numF b f.f) W hw (room_lk hro _ lk) (has_two f.has) hbd.1 hbd.2
    rw[hkd,field_fit hb hr f.has f.lt] at h1
    rw[List.map_append,List.map_singleton,PL_snoc]
    exact h1
  have HSt:=Lib.hid hst
  have HEnd:=Lib.hid (PL_end hb hr (l:=M.l) (a:=a) (by have:=hro.len;rw[hm.lenx] at this;exact this))
  have HTab:=Lib.hid (fun W (hf:Fr w.heap.size (blkM h) w W)=>ht.fr hm hf)
  have HMl:=Lib.hid hm.lt
  have HOrd:Hid (2<w.heap.size∧3<w.heap.size∧¬ blkM h 2∧¬ blkM h 3):=⟨ht.lt.1,ht.lt.2,not_blk hm ht.ord_cell,not_blk hm ht.pl_cell⟩
  obtain⟨BB,hBB⟩:∃ BB:World→Prop,BB=fun W=>Blks [(w.heap.size,.cells #[.pointer (some ⟨h.g,0,none⟩)] 26 (0,0)),(w.heap.size+1,.cells #[.int .i64 (a:Int)] 3 (0,0)),(w.heap.size+2,.cells (cellsA b) 85 (0,0)),(w.heap.size+3,.cells #[.int .i64 0] 32 (0,0))] W∧Below w.heap.size w W:=⟨_,rfl⟩
  have HBB:Hid (∀ W V,BB W→Below W.heap.size W V→BB V):=fun W V h hb=>by rw[hBB] at h ⊢;exact⟨h.1.below hb,h.2.trans (hb.mono h.2.size)⟩
  have HBel:Hid (∀ W,BB W→Below w.heap.size w W∧w.heap.size+4≤W.heap.size):=fun W h=>by rw[hBB] at h;exact⟨h.2,(Array.getElem?_eq_some_iff.1 (h.1 _ (.tail _ (.tail _ (.tail _ (.head _)))))).1⟩
  have HBl:Hid (∀ W,BB W→Blks [(w.heap.size,.cells #[.pointer (some ⟨h.g,0,none⟩)] 26 (0,0)),(w.heap.size+1,.cells #[.int .i64 (a:Int)] 3 (0,0)),(w.heap.size+2,.cells (cellsA b) 85 (0,0)),(w.heap.size+3,.cells #[.int .i64 0] 32 (0,0))] W):=fun W h=>by rw[hBB] at h;exact h.1
  have HCell:Hid (∀ W,BB W→W.cell? ⟨w.heap.size+2,0,none⟩=some (.int .i64 b.tag)∧W.cell? ⟨w.heap.size+2,1,none⟩=some (.int .i64 b.cls)∧W.cell? ⟨w.heap.size+2,2,none⟩=some (.bool b.used)∧W.cell? ⟨w.heap.size+2,3,none⟩=some (.int .i64 b.lab)∧W.cell? ⟨w.heap.size+2,4,none⟩=some (.int .u32 b.name)∧W.cell? ⟨w.heap.size+2,5,none⟩=some (.int .u32 b.next)∧W.cell? ⟨w.heap.size+2,6,none⟩=some (.int .u32 b.prev)∧W.cell? ⟨w.heap.size+2,7,none⟩=some (.int .u32 b.refs)∧W.cell? ⟨w.heap.size+2,8,none⟩=some (.int .u64 b.exp)∧W.cell? ⟨w.heap.size+2,9,none⟩=some (.int .u16 b.typ)∧W.cell? ⟨w.heap.size+2,10,none⟩=some (.int .i64 b.size)∧W.cell? ⟨w.heap.size+2,11,none⟩=some (.int .u32 b.hash)):=fun W h=>by
    rw[hBB] at h
    exact cells_of (h.1 _ (.tail _ (.tail _ (.head _))))
  have HCv:Hid (∀ W,BB W→W.cell? ⟨w.heap.size,0,none⟩=some (.pointer (some ⟨h.g,0,none⟩))):=fun W h=>by
    rw[hBB] at h
    exact(cell_block (h.1 _ (.head _)) 0).trans rfl
  have HMade:Hid (∀ W,BB W→Calls Tryz.prog 168 #[v] W fun e w'=>e = .returned (.bool true)∧Below W.heap.size W w'):=fun W h=>by
    rw[hBB] at h
    exact hmade_any _ v M W (hm.below h.2)
  have HX:Hid (BB ((((w.alloc (.cells #[.pointer (some ⟨h.g,0,none⟩)] 26)).alloc (.cells #[.int .i64 (a:Int)] 3)).alloc (.cells (cellsA b) 85)).alloc (.cells #[.int .i64 0] 32))):=by
    unfold Hid
    rw[hBB]
    have b1:=below_made w (.cells #[.pointer (some ⟨h.g,0,none⟩)] 26)
    have b2:=below_made (w.alloc (.cells #[.pointer (some ⟨h.g,0,none⟩)] 26)) (.cells #[.int .i64 (a:Int)] 3)
    have b3:=below_made ((w.alloc (.cells #[.pointer (some ⟨h.g,0,none⟩)] 26)).alloc (.cells #[.int .i64 (a:Int)] 3)) (.cells (cellsA b) 85)
    have b4:=below_made (((w.alloc (.cells #[.pointer (some ⟨h.g,0,none⟩)] 26)).alloc (.cells #[.int .i64 (a:Int)] 3)).alloc (.cells (cellsA b) 85)) (.cells #[.int .i64 0] 32)
    have k1:=heap_alloc_new w (.cells #[.pointer (some ⟨h.g,0,none⟩)] 26)
    have k2:=heap_alloc_new (w.alloc (.cells #[.pointer (some ⟨h.g,0,none⟩)] 26)) (.cells #[.int .i64 (a:Int)] 3)
    have k3:=heap_alloc_new ((w.alloc (.cells #[.pointer (some ⟨h.g,0,none⟩)] 26)).alloc (.cells #[.int .i64 (a:Int)] 3)) (.cells (cellsA b) 85)
    have k4:=heap_alloc_new (((w.alloc (.cells #[.pointer (some ⟨h.g,0,none⟩)] 26)).alloc (.cells #[.int .i64 (a:Int)] 3)).alloc (.cells (cellsA b) 85)) (.cells #[.int .i64 0] 32)
    simp only[World.size_alloc] at k1 k2 k3 k4
    refine⟨?_,(((b1.trans (b2.mono b1.size)).trans (b3.mono (by simp<;>omega))).trans (b4.mono (by simp<;>omega)))⟩
    intro p hp
    simp only[List.mem_cons,List.not_mem_nil,or_false] at hp
    rcases hp with rfl | rfl | rfl | rfl
    · exact(b4.block _ (by simp<;>omega)).trans ((b3.block _ (by simp<;>omega)).trans ((b2.block _ (by simp)).trans k1))
    · exact(b4.block _ (by simp<;>omega)).trans ((b3.block _ (by simp)).trans k2)
    · exact(b4.block _ (by simp)).trans k3
    · exact k4
  unfold cellsA at HX
  unfold numsA at HN
  obtain⟨nf,hnf⟩:∃ nf,nf=numF b:=⟨_,rfl⟩
  rw[←hnf] at HN HSt
  have HNF:=Lib.hid hnf
  have HMem:Hid (∀ W,BB W→MemC h W v { M with l:=PL b M.l a [],lk:=M.lk }):=fun W h=>by
    rw[hBB] at h
    exact hm.below h.2
  unfold Blk.agg at HN HRi ⊢
  obtain rfl:=hm.hv
  clear hBB hb hr hri ht htg hnf hR hkd hst hro hm
  obtain⟨c0,c1,c2,c3,c4,c5,c6,c7,c8,c9,c10,c11⟩:=HCell.out _ HX.out
  have cv:=HCv.out _ HX.out
  refine(callsIn_wide (n:=6)).1 ?_
  refine callsIn_of_wp_marks Tryz.func86 rfl trivial ?_ rfl
  simp only[Tryz.ntmps86,List.size_toArray,List.length_cons,List.length_nil,Nat.reduceAdd,Nat.reduceSub,Array.replicate_succ,Array.replicate_zero,List.push_toArray,List.append_toArray,List.nil_append,List.cons_append]
  refine wpIn_wide.2 ?_
  go_wp2_with fail
  refine(HMade.out _ HX.out).mono ?_
  rintro e w1 ⟨rfl,hb1⟩
  have HV1:=Lib.hid (HBB.out _ _ HX.out hb1)
  clear hb1 c0 c1 c2 c3 c4 c5 c6 c7 c8 c9 c10 c11 cv
  obtain⟨c0,c1,c2,c3,c4,c5,c6,c7,c8,c9,c10,c11⟩:=HCell.out _ HV1.out
  go_wp2_with fail
  refine(HRi.out _).mono ?_
  rintro e w2 ⟨rfl,hb2⟩
  have HV2:=Lib.hid (HBB.out _ _ HV1.out hb2)
  clear hb2 c0 c1 c2 c3 c4 c5 c6 c7 c8 c9 c10 c11
  have HV2a:=Lib.hid (HBB.out _ _ HV2.out (below_made w2 (.cells #[.int .i64 5] 3)))
  have HV2b:=Lib.hid (HBB.out _ _ HV2.out (below_made w2 (.cells #[.int .i64 5] 3)))
  have HKb:=Lib.hid (heap_alloc_new w2 (.cells #[.int .i64 5] 3))
  obtain⟨c0,-⟩:=HCell.out _ HV2a.out
  obtain⟨d0,d1,d2,d3,d4,d5,d6,d7,d8,d9,d10,d11⟩:=HCell.out _ HV2b.out
  go_wp2_with fail
  refine(HN.out _).mono ?_
  rintro e w3 ⟨rfl,hb3⟩
  clear c0 d0 d1 d2 d3 d4 d5 d6 d7 d8 d9 d10 d11
  have HV3:=Lib.hid (HBB.out _ _ HV2b.out hb3)
  have hKb3:=(hb3.block w2.heap.size (by simp)).trans HKb.out
  have hVa:=heap_alloc_new w3 (.cells #[.int .u64 (nf 0),.int .u64 (nf 1),.int .u64 (nf 2),.int .u64 (nf 3),.int .u64 (nf 4),.int .u64 (nf 5),.int .u64 (nf 6),.int .u64 (nf 7),.int .u64 (nf 8),.int .u64 (nf 9),.int .u64 (nf 10),.int .u64 (nf 11)] 199)
  have hb4:=below_made w3 (.cells #[.int .u64 (nf 0),.int .u64 (nf 1),.int .u64 (nf 2),.int .u64 (nf 3),.int .u64 (nf 4),.int .u64 (nf 5),.int .u64 (nf 6),.int .u64 (nf 7),.int .u64 (nf 8),.int .u64 (nf 9),.int .u64 (nf 10),.int .u64 (nf 11)] 199)
  have HV4:=Lib.hid (HBB.out _ _ HV3.out hb4)
  have hz3:=hb3.size
  simp only[World.size_alloc] at hz3
  have HKb4:=Lib.hid ((hb4.block w2.heap.size (by omega)).trans hKb3)
  obtain⟨W4,hW4⟩:∃ W4,W4=w3.alloc (.cells #[.int .u64 (nf 0),.int .u64 (nf 1),.int .u64 (nf 2),.int .u64 (nf 3),.int .u64 (nf 4),.int .u64 (nf 5),.int .u64 (nf 6),.int .u64 (nf 7),.int .u64 (nf 8),.int .u64 (nf 9),.int .u64 (nf 10),.int .u64 (nf 11)] 199):=⟨_,rfl⟩
  have hz4:W4.heap.size=w3.heap.size+1:=by rw[hW4];simp
  rw[←hW4] at hVa HV4 HKb4
  have HW4:=Lib.hid hW4
  clear hb3 hb4 hKb3 HV3 HKb HX hW4
  obtain⟨c0,-⟩:=HCell.out _ HV4.out
  rw[HW4.out] at c0
  go_wp2_with fail
  rw[←HW4.out] at c0 ⊢
  refine(HFs.out _).mono ?_
  rintro e w5 ⟨rfl,rfl⟩
  have hb5:=below_made W4 (.cells #[.int .i64 b.tag] 3)
  have HV5:=Lib.hid (HBB.out _ _ HV4.out hb5)
  have hTb:=heap_alloc_new W4 (.cells #[.int .i64 b.tag] 3)
  have h2s:=(HBel.out _ HV2.out).2
  have hL0:=HBl.out _ HV5.out
  have hBl:Blks [(w.heap.size,.cells #[.pointer (some ⟨h.g,0,none⟩)] 26 (0,0)),(w.heap.size+1,.cells #[.int .i64 (a:Int)] 3 (0,0)),(w.heap.size+2,.cells (cellsA b) 85 (0,0)),(w.heap.size+3,.cells #[.int .i64 0] 32 (0,0)),(w2.heap.size,.cells #[.int .i64 5] 3 (0,0)),(w3.heap.size,.cells (numsA b) 199 (0,0)),(w3.heap.size+1,.cells #[.int .i64 b.tag] 3 (0,0))] (W4.alloc (.cells #[.int .i64 b.tag] 3)):=by
    intro p hp
    simp only[List.mem_cons,List.not_mem_nil,or_false] at hp
    rcases hp with rfl | rfl | rfl | rfl | rfl | rfl | rfl
    · exact hL0 _ (.head _)
    · exact hL0 _ (.tail _ (.head _))
    · exact hL0 _ (.tail _ (.tail _ (.head _)))
    · exact hL0 _ (.tail _ (.tail _ (.tail _ (.head _))))
    · exact(hb5.block _ (by simp only[];omega)).trans HKb4.out
    · refine(hb5.block _ (by simp only[];omega)).trans ?_
      rw[hVa,HNF.out]
      rfl
    · rw[←hz4]
      exact hTb
  have HBe:=Lib.hid (HBel.out _ HV5.out).1
  have hz5:(W4.alloc (.cells #[.int .i64 b.tag] 3)).heap.size=w3.heap.size+2:=by simp[hz4]
  have HM5:=Lib.hid (HMem.out _ HV5.out)
  have hTl:=HOrd.out
  clear hb5 hTb hVa c0 hL0
  go_wp2_with fail
  rw[hz4] at *
  obtain⟨W0,hW0⟩:∃ W0,W0=W4.alloc (.cells #[.int .i64 b.tag] 3):=⟨_,rfl⟩
  rw[←hW0] at hBl HBe hz5 HV5 HM5 ⊢
  have HT0:=Lib.hid (HTab.out _ (Fr.of_below HBe.out))
  clear hW0 HV4 HKb4 HV1 HV2 HV2a HV2b HV5
  refine wpIn_wide (n:=6) |>.1 ?_
  obtain⟨LL,hLL⟩:∃ LL:List (Nat×Obj),LL = [(w.heap.size,.cells #[.pointer (some ⟨h.g,0,none⟩)] 26 (0,0)),(w.heap.size+1,.cells #[.int .i64 (a:Int)] 3 (0,0)),(w.heap.size+2,.cells (cellsA b) 85 (0,0)),(w.heap.size+3,.cells #[.int .i64 0] 32 (0,0)),(w2.heap.size,.cells #[.int .i64 5] 3 (0,0)),(w3.heap.size,.cells (numsA b) 199 (0,0)),(w3.heap.size+1,.cells #[.int .i64 b.tag] 3 (0,0))]:=⟨_,rfl⟩
  rw[←hLL] at hBl
  have hLc:(LL.all fun p=>p.2.isCells)=true:=by rw[hLL];rfl
  have HLs:Hid (∀ p∈LL,w.heap.size≤p.1):=fun p hp=>by
    rw[hLL] at hp
    simp only[List.mem_cons,List.not_mem_nil,or_false] at hp
    rcases hp with rfl | rfl | rfl | rfl | rfl | rfl | rfl<;>(simp only[];omega)
  have HLL:=Lib.hid hLL
  have hT0:W0.cell? ⟨w3.heap.size+1,0,none⟩=some (.int .i64 b.tag):=(cell_block (hBl _ (by rw[hLL];exact .tail _ (.tail _ (.tail _ (.tail _ (.tail _ (.tail _ (.head _)))))))) 0).trans rfl
  clear hLL
  refine wpIn_rangeFunc_ownH rfl (by omega) (gf:=227) (lb := #[.pointer (some ⟨w3.heap.size+1,0,none⟩)]) rfl trivial (enters_of Tryz.func227 (by kernel_rfl) rfl)
    (fields_stops 5 (by omega) (w3.heap.size+1) b.tag W0 (by omega) hT0 HT0.out) (fun h k=>h.trans k) (KpS.put (SF.lt HT0.out (by omega))) (Below.refl _ _) (fun _=>rfl)
    (fun pre W=>(∃ lk,MemC h W (.pointer (some ⟨h.g,0,none⟩)) { M with l:=PL b M.l a (pre.map FT.f),lk:=lk })∧Blks LL W∧Fr w.heap.size (blkM h) w W)
    (fun _ _ _=>False)
    (OwnFrom.and (Own.from (own_ex fun lk=>memC_own h _ (fun pre:List (FT b.tag) => { M with l:=PL b M.l a (pre.map FT.f),lk:=lk })) _) (OwnFrom.and (Own.from (blks_own LL hLc) _) (ownFrom_fr _ (Nat.le_refl _) (by omega))))
    (fun _ _ _ _ _ hs _ _=>hs)
    ⟨⟨_,HM5.out⟩,hBl,Fr.of_below HBe.out⟩
    (fun f a' W=>a' = { tmps := #[.pointer (some ⟨h.g,0,none⟩),.int .i64 (a:Int),.agg #[.int .i64 b.tag,.int .i64 b.cls,.bool b.used,.int .i64 b.lab,.int .u32 b.name,.int .u32 b.next,.int .u32 b.prev,.int .u32 b.refs,.int .u64 b.exp,.int .u16 b.typ,.int .i64 b.size,.int .u32 b.hash],.pointer (some ⟨w.heap.size,0,none⟩),.pointer (some ⟨w.heap.size+1,0,none⟩),.pointer (some ⟨w.heap.size+2,0,none⟩),.pointer (some ⟨w.heap.size+3,0,none⟩),.pointer (some ⟨w2.heap.size,0,none⟩),.pointer (some ⟨w3.heap.size,0,none⟩),.int .i64 (f.f:Int),undef,undef,.pointer (some ⟨h.g,0,none⟩),.bool true,.bool false,.agg #[.int .i64 b.tag,.int .i64 b.cls,.bool b.used,.int .i64 b.lab,.int .u32 b.name,.int .u32 b.next,.int .u32 b.prev,.int .u32 b.refs,.int .u64 b.exp,.int .u16 b.typ,.int .i64 b.size,.int .u32 b.hash],.bool true,.bool false,.pointer (some ⟨w.heap.size+2,0,none⟩),.int .i64 b.tag,.bool false,.agg #[.int .i64 b.tag,.int .i64 b.cls,.bool b.used,.int .i64 b.lab,.int .u32 b.name,.int .u32 b.next,.int .u32 b.prev,.int .u32 b.refs,.int .u64 b.exp,.int .u16 b.typ,.int .i64 b.size,.int .u32 b.hash],.agg #[.int .u64 (nf 0),.int .u64 (nf 1),.int .u64 (nf 2),.int .u64 (nf 3),.int .u64 (nf 4),.int .u64 (nf 5),.int .u64 (nf 6),.int .u64 (nf 7),.int .u64 (nf 8),.int .u64 (nf 9),.int .u64 (nf 10),.int .u64 (nf 11)],.pointer (some ⟨w.heap.size+2,0,none⟩),.int .i64 b.tag,.func (.func 227) #[] #[.pointer (some ⟨w3.heap.size+1,0,none⟩)],.int .i64 (f.f:Int),undef,undef,undef,undef,undef,undef,undef,undef,undef,undef,undef,undef,undef,undef,undef,undef,undef,undef],defers := [] })
    (fun f a' _ X Y row hs hg hr=>hs)
    ?assign ?body ?done ?stop
  case assign =>
    rintro l pre f W K hi hK
    gi_wp2
    exact hK _ _ (KeepsFrom.refl _ _) (KpS.refl _ _) hi rfl
  case body =>
    rintro l pre f a' W hl ⟨rr,hr⟩ ⟨⟨lk,hmc⟩,hbl,hfr⟩ rfl hlt
    have HTW:=Lib.hid (HTab.out _ hfr)
    have HW1:=Lib.hid (HWh.out (f.f:Int) W HTW.out)
    have HS1:=Lib.hid (fun V (hb:Below W.heap.size W V)=>HSt.out pre f lk V (hmc.below hb))
    have hbl2:=hbl
    rw[HLL.out] at hbl2
    have t0:W.cell? ⟨w.heap.size+2,0,none⟩=some (.int .i64 b.tag):=(cell_block (hbl2 _ (.tail _ (.tail _ (.head _)))) 0).trans rfl
    have HC0:Hid (∀ V,Blks LL V→V.cell? ⟨w.heap.size,0,none⟩=some (.pointer (some ⟨h.g,0,none⟩))∧V.cell? ⟨w.heap.size+1,0,none⟩=some (.int .i64 (a:Int))∧V.cell? ⟨w2.heap.size,0,none⟩=some (.int .i64 5)∧V.cell? ⟨w3.heap.size,f.f,none⟩=some (.int .u64 (nf f.f))):=fun V hv=>by
      rw[HLL.out] at hv
      refine⟨(cell_block (hv _ (.head _)) 0).trans rfl,(cell_block (hv _ (.tail _ (.head _))) 0).trans rfl,(cell_block (hv _ (.tail _ (.tail _ (.tail _ (.tail _ (.head _)))))) 0).trans rfl,?_⟩
      rw[HNF.out]
      exact(cell_block (hv _ (.tail _ (.tail _ (.tail _ (.tail _ (.tail _ (.head _))))))) f.f).trans (numsA_at b f.lt)
    have HC1:Hid (∀ V U,Below W.heap.size W V→Fr V.heap.size (blkM h) V U→U.cell? ⟨w.heap.size,0,none⟩=some (.pointer (some ⟨h.g,0,none⟩))∧U.cell? ⟨w.heap.size+1,0,none⟩=some (.int .i64 (a:Int))∧U.cell? ⟨w2.heap.size,0,none⟩=some (.int .i64 5)∧U.cell? ⟨w3.heap.size,f.f,none⟩=some (.int .u64 (nf f.f))):=fun V U h1 h2 =>
      HC0.out _ ((hbl.below h1).fr h2 (fun p hp=>⟨(Array.getElem?_eq_some_iff.1 ((hbl.below h1) p hp)).1,fun hk=>by have:=HMl.out _ hk;have:=HLs.out p hp;omega⟩))
    have HBd:=Lib.hid (fun V (hb:Below W.heap.size W V)=>HC0.out V (hbl.below hb))
    have hf12:=f.lt
    clear hbl2
    obtain⟨F,hF⟩:∃ F,F=f.f:=⟨_,rfl⟩
    obtain⟨x,y,hxy⟩:∃ x y,whF b.tag (f.f:Int)=(x,y):=⟨_,_,rfl⟩
    rw[hxy] at HW1 HS1
    rw[←hF] at HW1 HS1 HC1 HBd hf12 ⊢
    have hfi:(F:Int)<12:=by omega
    clear hF hxy
    gi_wp2_with (refine⟨trivial,?_⟩;gi_at_call 172;refine(CallsIn.inRound l (callsIn_wide.2 HW1.out)).mono ?_;rintro e wq ⟨rfl,hb1⟩;have v2:=HBd.out _ hb1.drew)
    refine wpIn_round_held (S:=fun w'=>w'.cell? ⟨w.heap.size,0,none⟩=some (.pointer (some ⟨h.g,0,none⟩))∧w'.cell? ⟨w.heap.size+1,0,none⟩=some (.int .i64 (a:Int))∧w'.cell? ⟨w2.heap.size,0,none⟩=some (.int .i64 5)∧w'.cell? ⟨w3.heap.size,F,none⟩=some (.int .u64 (nf F))) (by kernel_rfl) (noDefer_ok (by kernel_rfl)) (by rintro ⟨a,w,h⟩;exact h) v2 (fun hHeld=>?_)
    refine wpAnyH_take (i:=2) (v:=?v2) rfl (by kernel_rfl) (by kernel_rfl) (by kernel_rfl) (fun _ _ _ h=>h) (Or.inl ⟨by rfl,?y2⟩) (by assumption) ?r2
    case y2=>(intro w hSw;(try dsimp only at hSw);obtain⟨s1,s2,s3,s4⟩:=hSw;go_simp;all_goals (with_reducible rfl))
    try simp only[Act.put,List.getElem_toArray,List.getElem_cons_zero,List.getElem_cons_succ,List.setIfInBounds_toArray,List.set_cons_zero,List.set_cons_succ]
    refine wpAnyH_take (i:=4) (v:=?v4) rfl (by kernel_rfl) (by kernel_rfl) (by kernel_rfl) (fun _ _ _ h=>h) (Or.inl ⟨by rfl,?y4⟩) (by assumption) ?r4
    case y4=>(intro w hSw;(try dsimp only at hSw);obtain⟨s1,s2,s3,s4⟩:=hSw;go_simp;all_goals (with_reducible rfl))
    try simp only[Act.put,List.getElem_toArray,List.getElem_cons_zero,List.getElem_cons_succ,List.setIfInBounds_toArray,List.set_cons_zero,List.set_cons_succ]
    refine wpAnyH_take (i:=6) (v:=?v6) rfl (by kernel_rfl) (by kernel_rfl) (by kernel_rfl) (fun _ _ _ h=>h) (Or.inl ⟨by rfl,?y6⟩) (by assumption) ?r6
    case y6=>(intro w hSw;(try dsimp only at hSw);obtain⟨s1,s2,s3,s4⟩:=hSw;go_simp;all_goals (with_reducible rfl))
    try simp only[Act.put,List.getElem_toArray,List.getElem_cons_zero,List.getElem_cons_succ,List.setIfInBounds_toArray,List.set_cons_zero,List.set_cons_succ]
    refine wpAnyH_take (i:=0) (v:=?v0) rfl (by kernel_rfl) (by kernel_rfl) (by kernel_rfl) (fun _ _ _ h=>h) (Or.inl ⟨by rfl,?y0⟩) (by assumption) ?r0
    case y0=>(intro w hSw;(try dsimp only at hSw);obtain⟨s1,s2,s3,s4⟩:=hSw;go_simp;all_goals (with_reducible rfl))
    try simp only[Act.put,List.getElem_toArray,List.getElem_cons_zero,List.setIfInBounds_toArray,List.set_cons_zero,List.set_cons_succ]
    refine wpAnyH_take (i:=1) (v:=?v1) rfl (by kernel_rfl) (by kernel_rfl) (by kernel_rfl) (fun _ _ _ h=>h) (Or.inl ⟨by rfl,?y1⟩) (by assumption) ?r1
    case y1=>(intro w hSw;(try dsimp only at hSw);obtain⟨s1,s2,s3,s4⟩:=hSw;go_simp;all_goals (with_reducible rfl))
    try simp only[Act.put,List.getElem_toArray,List.getElem_cons_zero,List.getElem_cons_succ,List.setIfInBounds_toArray,List.set_cons_zero,List.set_cons_succ]
    refine wpAnyH_take (i:=3) (v:=?v3) rfl (by kernel_rfl) (by kernel_rfl) (by kernel_rfl) (fun _ _ _ h=>h) (Or.inl ⟨by rfl,?y3⟩) (by assumption) ?r3
    case y3=>(intro w hSw;(try dsimp only at hSw);obtain⟨s1,s2,s3,s4⟩:=hSw;go_simp;all_goals (with_reducible rfl))
    try simp only[Act.put,List.getElem_toArray,List.getElem_cons_zero,List.getElem_cons_succ,List.setIfInBounds_toArray,List.set_cons_zero,List.set_cons_succ]
    refine wpAnyH_take (i:=5) (v:=?v5) rfl (by kernel_rfl) (by kernel_rfl) (by kernel_rfl) (fun _ _ _ h=>h) (Or.inl ⟨by rfl,?y5⟩) (by assumption) ?r5
    case y5=>(intro w hSw;(try dsimp only at hSw);obtain⟨s1,s2,s3,s4⟩:=hSw;go_simp;all_goals (with_reducible rfl))
    try simp only[Act.put,List.getElem_toArray,List.getElem_cons_zero,List.getElem_cons_succ,List.setIfInBounds_toArray,List.set_cons_zero,List.set_cons_succ]
    refine wpAnyH_take (i:=7) (v:=?v7) rfl (by kernel_rfl) (by kernel_rfl) (by kernel_rfl) (fun _ _ _ h=>h) (Or.inl ⟨by rfl,?y7⟩) (by assumption) ?r7
    case y7=>(intro w hSw;(try dsimp only at hSw);obtain⟨s1,s2,s3,s4⟩:=hSw;go_simp;all_goals (with_reducible rfl))
    try simp only[Act.put,List.getElem_toArray,List.getElem_cons_zero,List.getElem_cons_succ,List.setIfInBounds_toArray,List.set_cons_zero,List.set_cons_succ]
    refine wpAnyH_take (i:=8) (v:=?v8) rfl (by kernel_rfl) (by kernel_rfl) (by kernel_rfl) (fun _ _ _ h=>h) (Or.inl ⟨by rfl,?y8⟩) (by assumption) ?r8
    case y8=>(intro w hSw;(try dsimp only at hSw);obtain⟨s1,s2,s3,s4⟩:=hSw;go_simp;all_goals (with_reducible rfl))
    try simp only[Act.put,List.getElem_toArray,List.getElem_cons_zero,List.getElem_cons_succ,List.setIfInBounds_toArray,List.set_cons_zero,List.set_cons_succ]
    refine wpAnyH_ready (rs := [9]) (by kernel_rfl) (by simp) ?_
    refine AllReadyH.cons rfl (fun K hK=>?_) AllReadyH.nil
    go_simp
    go_at_call 166
    rw[IntWalk.i64_left ((a:Int)+x)]
    refine(HS1.out _ hb1.drew).mono ?_
    rintro e w4 ⟨lk4,hq4⟩
    obtain⟨rfl,m4,f4⟩:=hq4
    have c4:=HC1.out _ _ hb1.drew f4
    go_wp2_with fail
    refine hK.out _ _ c4 (fun hHeld=>?_)
    clear hK K
    try simp only[Act.put,List.getElem_toArray,List.getElem_cons_zero,List.getElem_cons_succ,List.setIfInBounds_toArray,List.set_cons_zero,List.set_cons_succ]
    refine wpAnyH_take (i:=10) (v:=?v10) rfl (by kernel_rfl) (by kernel_rfl) (by kernel_rfl) (fun _ _ _ h=>h) (Or.inl ⟨by rfl,?y10⟩) (by assumption) ?r10
    case y10=>(intro w hSw;(try dsimp only at hSw);obtain⟨s1,s2,s3,s4⟩:=hSw;go_simp;all_goals (with_reducible rfl))
    try simp only[Act.put,List.getElem_toArray,List.getElem_cons_zero,List.getElem_cons_succ,List.setIfInBounds_toArray,List.set_cons_zero,List.set_cons_succ]
    refine wpAnyH_done (by kernel_rfl) ?_ _
    have F14:=(Fr.of_below (S:=blkM h) hb1.drew).trans (f4.mono hb1.drew.size (fun _ _ h=>h))
    have HE:Hid (KeepsFrom W0.heap.size W w4∧KpS (SF (w3.heap.size+1)) W w4∧(∃ lk,MemC h w4 (.pointer (some ⟨h.g,0,none⟩)) { M with l:=PL b M.l a ((pre ++ [f]).map FT.f),lk:=lk })∧Blks LL w4∧Fr w.heap.size (blkM h) w w4):=by
      have hlt2:∀ p∈LL,p.1<W.heap.size:=fun p hp=>(Array.getElem?_eq_some_iff.1 (hbl p hp)).1
      refine⟨keepsFrom_fr F14 (Nat.le_refl _) (fun k hB hk=>by have:=HMl.out k hk;omega),KpS.fr F14 (fun k hk=>⟨SF.lt HTW.out (Array.getElem?_eq_some_iff.1 (hbl _ (by rw[HLL.out];exact .tail _ (.tail _ (.tail _ (.tail _ (.tail _ (.tail _ (.head _))))))))).1 k hk,?_⟩),⟨lk4,m4⟩,
        hbl.fr F14 (fun p hp=>⟨hlt2 p hp,fun hk=>by have:=HMl.out _ hk;have:=HLs.out p hp;omega⟩),hfr.trans (F14.mono hfr.size (fun _ _ h=>h))⟩
      intro hbk
      rcases hk with e | e | e
      · rw[e] at hbk
        have:=HMl.out _ hbk
        omega
      · rw[e] at hbk
        exact hTl.2.2.1 hbk
      · rw[e] at hbk
        exact hTl.2.2.2 hbk
    clear F14 f4 m4 v2 c4
    gi_wp2
    exact HE.out
  case done =>
    rintro D ys W hD rfl ⟨⟨lk,hmc⟩,hbl,hfr⟩ hK
    have hbl2:=hbl
    rw[HLL.out] at hbl2
    have bE:=hbl2 _ (.tail _ (.tail _ (.tail _ (.head _))))
    have cS:W.cell? ⟨w.heap.size+3,0,none⟩=some (.int .i64 0):=(cell_block bE 0).trans rfl
    have fS:W.frozen? ⟨w.heap.size+3,0,none⟩=false:=frozen_block bE 0
    clear hbl2
    go_wp2
    have hK':=(KeepsOthers.setCell W ⟨w.heap.size+3,0,none⟩ (.int .i64 0)).same D _ hK rfl
    refine⟨by simp,.inl ⟨_,_,rfl,run_takeDeferred hK',?_⟩⟩
    have hc5:=cell_kept (World.cell?_setCell_same' W ⟨w.heap.size+3,0,none⟩ (.int .i64 0) (by rw[cS];rfl)) (grownBy_putObj' _ D (.deferred none)) (fun r e=>by cases e;exact⟨_,hK',rfl⟩)
    have hne:∀ k,blkM h k→k<w.heap.size+3:=fun k hk=>by have:=HMl.out k hk;omega
    have hf1:Fr (w.heap.size+3) (fun _=>False) W (W.setCell ⟨w.heap.size+3,0,none⟩ (.int .i64 0)):=(Fr.refl _ _ _).setCell (p:=⟨w.heap.size+3,0,none⟩) (.inl (Nat.le_refl _)) _
    have m1:=hmc.stay hf1 (fun k hk=>⟨hne k hk,fun h=>h⟩)
    have m2:=(memC_own h _ (fun _:Unit => { M with l:=PL b M.l a ((flT b.tag 12).map FT.f),lk:=lk })) () _ _ _ m1 (grownBy_putObj' _ D (.deferred none)) (fun r e=>by cases e;exact⟨_,hK',rfl⟩)
    rw[flT_map,HEnd.out] at m2
    have hf2:Fr w.heap.size (blkM h) w _:=(hfr.setCell (p:=⟨w.heap.size+3,0,none⟩) (.inl (by show w.heap.size≤w.heap.size+3;omega)) (.int .i64 0)).trans (Fr.of_grown (grownBy_putObj' _ D (.deferred none)) (by simp;exact hfr.size) (fun k e=>by cases e;exact .inl (by omega)))
    refine⟨.int .i64 0,?_,lk,rfl,m2,hf2⟩
    simp[results,Tryz.f86,go_sem,hc5]
  case stop =>
    rintro D c pre W _ _ h _
    exact h.elim
end Go.Proofs.YtmgeiaglandedaaGreatDoor.Hea
