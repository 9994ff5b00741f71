/- The landed memory: what lies where; its single looks. The landed memory: looks at each of several bytes; what reads and writes them. The landed memory: the fields of its root. The landed memory: what reads and writes several bytes. -/
import Derived.Test.YtmgeiaglandedaaGreatDoorJ9
import Derived.Test.YtmgeiaglandedaaGreatDoorJ10
import Derived.Test.YtmgeiaglandedaaGreatDoorJ0
namespace Go.Proofs.YtmgeiaglandedaaGreatDoor.Mem
open Go.RowKit Num Arn Wat
set_option linter.unusedVariables false
structure Hm where
  g:Nat
  w:Hw
  a:Hn
  z:Bool
def blkM (h:Hm) (k:Nat):Prop:=k=h.g∨blkW h.w k∨blkC h.a k
structure MemC (h:Hm) (w:World) (v:Value) (M:Mm):Prop where
  hv:v = .pointer (some ⟨h.g,0,none⟩)
  blk:w.heap[h.g]? = some (.cells #[.pointer (some ⟨h.w.g,0,none⟩),.pointer (some ⟨h.a.g,0,none⟩),.int .i64 M.s,.int .i64 M.n] 100 (0,0))
  wa:WaC h.w w (.pointer (some ⟨h.w.g,0,none⟩)) M.x M.lk M.ft
  ar:ArC h.a w (.pointer (some ⟨h.a.g,0,none⟩)) M.l
  dw:∀ k,blkW h.w k→k≠h.g∧¬ blkC h.a k
  da:∀ k,blkC h.a k→k≠h.g
  right:Lay.rightC M.s M.n=true
  len:M.l.length=Lay.sizeC M.s M.n
  lenx:M.x.length=M.l.length
theorem MemC.lax {h:Hm} {w:World} {v:Value} {M:Mm} (hm:MemC h w v M) (z:Bool):MemC { h with z:=z } w v M:=⟨hm.hv,hm.blk,hm.wa,hm.ar,hm.dw,hm.da,hm.right,hm.len,hm.lenx⟩
theorem MemC.lt {h:Hm} {w:World} {v:Value} {M:Mm} (hm:MemC h w v M):∀ k,blkM h k→k<w.heap.size:=by
  rintro k (rfl | hk | hk)
  · exact lt_of_block hm.blk
  · exact hm.wa.lt k hk
  · exact hm.ar.lt k hk
theorem MemC.stay {h:Hm} {w w':World} {v:Value} {M:Mm} {N:Nat} {S:Nat→Prop} (hm:MemC h w v M) (hf:Fr N S w w') (hk:∀ k,blkM h k→k<N∧¬ S k):MemC h w' v M :=
  ⟨hm.hv,(hf.block _ (hk _ (.inl rfl)).1 (hk _ (.inl rfl)).2).trans hm.blk,hm.wa.stay hf (fun k h1=>hk k (.inr (.inl h1))),hm.ar.stay hf (fun k h1=>hk k (.inr (.inr h1))),hm.dw,hm.da,hm.right,hm.len,hm.lenx⟩
theorem MemC.below {h:Hm} {w w':World} {v:Value} {M:Mm} (hm:MemC h w v M) (hb:Below w.heap.size w w'):MemC h w' v M :=
  hm.stay (Fr.of_below (S:=fun _=>False) hb) (fun k hk=>⟨hm.lt k hk,fun h=>h⟩)
theorem MemC.cells {h:Hm} {w:World} {v:Value} {M:Mm} (hm:MemC h w v M) :
    w.cell? ⟨h.g,0,none⟩=some (.pointer (some ⟨h.w.g,0,none⟩))∧w.cell? ⟨h.g,1,none⟩=some (.pointer (some ⟨h.a.g,0,none⟩))∧w.cell? ⟨h.g,2,none⟩=some (.int .i64 M.s)∧w.cell? ⟨h.g,3,none⟩=some (.int .i64 M.n) :=
  ⟨(cell_block hm.blk 0).trans rfl,(cell_block hm.blk 1).trans rfl,(cell_block hm.blk 2).trans rfl,(cell_block hm.blk 3).trans rfl⟩
def MRet (h:Hm) (w:World) (v:Value) (M:Mm) (r:Value) (e:Ending) (w':World):Prop :=
  e = .returned r∧MemC h w' v M∧Fr w.heap.size (blkM h) w w'
def MRetS (S:Nat→Prop) (h:Hm) (w:World) (v:Value) (M:Mm) (r:Value) (e:Ending) (w':World):Prop :=
  e = .returned r∧MemC h w' v M∧Fr w.heap.size S w w'
theorem MRetS.wide {h:Hm} {w w':World} {v:Value} {M:Mm} {r:Value} {e:Ending} (hr:MRetS (blkW h.w) h w v M r e w'):MRet h w v M r e w' :=
  ⟨hr.1,hr.2.1,hr.2.2.mono (Nat.le_refl _) (fun _ _ hk=>.inr (.inl hk))⟩
theorem MemC.onlyS {h:Hm} {w w':World} {v:Value} {M:Mm} (S:Nat→Prop) (hm:MemC h w v M) (hb:Below w.heap.size w w') (r:Value):MRetS S h w v M r (.returned r) w':=⟨rfl,hm.below hb,Fr.of_below hb⟩
theorem MRetS.then {S:Nat→Prop} {h:Hm} {w w1:World} {v:Value} {M N:Mm} {r r2:Value} {e e2:Ending} {w2:World} (h1:MRetS S h w v M r e w1) (h2:MRetS S h w1 v N r2 e2 w2):MRetS S h w v N r2 e2 w2 :=
  ⟨h2.1,h2.2.1,h1.2.2.trans (h2.2.2.mono h1.2.2.size (fun _ _ hk=>hk))⟩
theorem MemC.same {h:Hm} {w:World} {v:Value} {M:Mm} (hm:MemC h w v M) (r:Value):MRet h w v M r (.returned r) w:=⟨rfl,hm,Fr.refl _ _ _⟩
theorem MemC.only {h:Hm} {w w':World} {v:Value} {M:Mm} (hm:MemC h w v M) (hb:Below w.heap.size w w') (r:Value):MRet h w v M r (.returned r) w':=⟨rfl,hm.below hb,Fr.of_below hb⟩
theorem MRet.then {h:Hm} {w w1:World} {v:Value} {M N:Mm} {r r2:Value} {e e2:Ending} {w2:World} (h1:MRet h w v M r e w1) (h2:MRet h w1 v N r2 e2 w2):MRet h w v N r2 e2 w2 :=
  ⟨h2.1,h2.2.1,h1.2.2.trans (h2.2.2.mono h1.2.2.size (fun _ _ hk=>hk))⟩
theorem MemC.watched {h:Hm} {w w1:World} {v:Value} {M:Mm} {x':List Int} {lk' ft':Int} (hm:MemC h w v M) (hw:WaC h.w w1 (.pointer (some ⟨h.w.g,0,none⟩)) x' lk' ft') (hl:x'.length=M.x.length) (hf:Fr w.heap.size (blkW h.w) w w1) (r:Value) :
    MRetS (blkW h.w) h w v { M with x:=x',lk:=lk',ft:=ft' } r (.returned r) w1:=by
  have hg:=hm.lt _ (.inl rfl)
  refine⟨rfl,⟨hm.hv,(hf.block _ hg (fun h1=>(hm.dw _ h1).1 rfl)).trans hm.blk,hw,hm.ar.stay hf (fun k hk=>⟨hm.ar.lt k hk,fun h1=>(hm.dw k h1).2 hk⟩),hm.dw,hm.da,hm.right,hm.len,hl.trans hm.lenx⟩,hf⟩
theorem MemC.looked {h:Hm} {w w1:World} {v:Value} {M:Mm} {b:Bool} (hm:MemC h w v M) (hw:WaC h.w w1 (.pointer (some ⟨h.w.g,0,none⟩)) M.x (wrap64 (M.lk+1)) (if b then M.ft else wrap64 (M.ft+1))) (hf:Fr w.heap.size (blkW h.w) w w1) (r:Value) :
    MRet h w v (M.ticked b) r (.returned r) w1:=(hm.watched hw rfl hf r).wide
theorem MemC.lookedS {h:Hm} {w w1:World} {v:Value} {M:Mm} {b:Bool} (hm:MemC h w v M) (hw:WaC h.w w1 (.pointer (some ⟨h.w.g,0,none⟩)) M.x (wrap64 (M.lk+1)) (if b then M.ft else wrap64 (M.ft+1))) (hf:Fr w.heap.size (blkW h.w) w w1) (r:Value) :
    MRetS (blkW h.w) h w v (M.ticked b) r (.returned r) w1:=hm.watched hw rfl hf r
theorem MemC.wrote {h:Hm} {w w1:World} {v:Value} {M:Mm} {l':List Int} (hm:MemC h w v M) (ha:ArC h.a w1 (.pointer (some ⟨h.a.g,0,none⟩)) l') (hl:l'.length=M.l.length) (hf:Fr w.heap.size (blkC h.a) w w1) (r:Value) :
    MRet h w v { M with l:=l' } r (.returned r) w1:=by
  have hg:=hm.lt _ (.inl rfl)
  refine⟨rfl,⟨hm.hv,(hf.block _ hg (fun h1=>hm.da _ h1 rfl)).trans hm.blk,hm.wa.stay hf (fun k hk=>⟨hm.wa.lt k hk,fun h1=>(hm.dw k hk).2 h1⟩),ha,hm.dw,hm.da,hm.right,hl.trans hm.len,hm.lenx.trans hl.symm⟩,hf.mono (Nat.le_refl _) (fun _ _ hk=>.inr (.inr hk))⟩
theorem made_any (h:Hm) (v:Value) (M:Mm) (w:World) (hm:MemC h w v M):Calls Tryz.prog 54 #[v] w fun e w'=>e = .returned (.bool true)∧w=w':=by
  obtain⟨c0,c1,c2,c3⟩:=hm.cells
  obtain rfl:=hm.hv
  clear hm
  go_enter Tryz.func54,Tryz.ntmps54
  go_wp2
  go_ret
  exact⟨rfl,rfl⟩
set_option maxRecDepth 100000 in
theorem load_any (h:Hm) (v:Value) (M:Mm) (a n k:Int) (w:World) (hm:MemC h w v M) (h64:is64 a) :
    Calls Tryz.prog 128 #[v,.int .i64 a,.int .i64 n,.int .i64 k] w (MRet h w v (M.load a n k).2 (.int .u64 (M.load a n k).1)):=by
  have HM:=Lib.hid (made_any h v M w hm)
  have HL:=Lib.hid (look_any h.w _ M.x M.lk M.ft a n k w hm.wa h64)
  obtain⟨c0,c1,-,-⟩:=hm.cells
  have HP:=Lib.hid hm
  obtain rfl:=hm.hv
  clear hm
  by_cases hb:lookA M.x a n k=true
  · rw[hb] at HL
    have hr:M.load a n k=((ldv M.l a n).1,M.ticked true):=by rw[Mm.load,if_pos hb]
    rw[hr]
    obtain⟨p,q,hpq⟩:∃ p q,ldv M.l a n=(p,q):=⟨_,_,rfl⟩
    rw[hpq]
    have HPQ:=Lib.hid hpq
    clear hr hb hpq
    go_enter Tryz.func128,Tryz.ntmps128
    go_wp2_with fail
    refine HM.out.mono ?_
    rintro e w' ⟨rfl,rfl⟩
    go_wp2_with fail
    refine HL.out.mono ?_
    rintro e w1 ⟨rfl,hw1,hf1⟩
    have HR:=Lib.hid (HP.out.looked hw1 hf1 (.bool true))
    have HG:=Lib.hid (getC_any h.a (.pointer (some ⟨h.a.g,0,none⟩)) M.l a n w1 HR.out.2.1.ar)
    rw[HPQ.out] at HG
    obtain⟨-,d1,-,-⟩:=HR.out.2.1.cells
    clear hw1 hf1
    go_wp2_with fail
    refine HG.out.mono ?_
    rintro e w2 ⟨rfl,hb2⟩
    have HE:=Lib.hid (HR.out.then (HR.out.2.1.only hb2 (.int .u64 p)))
    clear hb2
    go_wp2
    go_ret
    exact HE.out
  · have hb':lookA M.x a n k=false:=by simpa using hb
    rw[hb'] at HL
    have hr:M.load a n k=(0,M.ticked false):=by rw[Mm.load,if_neg hb]
    rw[hr]
    clear hr hb hb'
    go_enter Tryz.func128,Tryz.ntmps128
    go_wp2_with fail
    refine HM.out.mono ?_
    rintro e w' ⟨rfl,rfl⟩
    go_wp2_with fail
    refine HL.out.mono ?_
    rintro e w1 ⟨rfl,hw1,hf1⟩
    have HR:=Lib.hid (HP.out.looked hw1 hf1 (.int .u64 0))
    clear hw1 hf1
    go_wp2
    go_ret
    exact HR.out
set_option maxRecDepth 100000 in
theorem store_any (h:Hm) (v:Value) (M:Mm) (a n k y:Int) (w:World) (hm:MemC h w v M) (h64:is64 a) (h0:0≤y) (h1:y<18446744073709551616) :
    Calls Tryz.prog 166 #[v,.int .i64 a,.int .i64 n,.int .i64 k,.int .u64 y] w (MRet h w v (M.store a n k y).2 (.bool (M.store a n k y).1)):=by
  have HM:=Lib.hid (made_any h v M w hm)
  have HL:=Lib.hid (look_any h.w _ M.x M.lk M.ft a n k w hm.wa h64)
  obtain⟨c0,c1,-,-⟩:=hm.cells
  have HP:=Lib.hid hm
  obtain rfl:=hm.hv
  clear hm
  by_cases hb:lookA M.x a n k=true
  · rw[hb] at HL
    have hr:M.store a n k y=(decide ((putA M.l a n y).2=0),{ M.ticked true with l:=(putA M.l a n y).1 }):=by rw[Mm.store,if_pos hb]
    rw[hr]
    have hle:=putA_length M.l a n y
    obtain⟨p,q,hpq⟩:∃ p q,putA M.l a n y=(p,q):=⟨_,_,rfl⟩
    rw[hpq] at hle ⊢
    have HPQ:=Lib.hid hpq
    have HLE:=Lib.hid hle
    clear hr hb hpq hle
    by_cases hq:q=0
    · subst hq
      go_enter Tryz.func166,Tryz.ntmps166
      go_wp2_with fail
      refine HM.out.mono ?_
      rintro e w' ⟨rfl,rfl⟩
      go_wp2_with fail
      refine HL.out.mono ?_
      rintro e w1 ⟨rfl,hw1,hf1⟩
      have HR:=Lib.hid (HP.out.looked hw1 hf1 (.bool true))
      have HG:=Lib.hid (putC_any h.a (.pointer (some ⟨h.a.g,0,none⟩)) M.l a n y w1 HR.out.2.1.ar h0 h1)
      rw[HPQ.out] at HG
      obtain⟨-,d1,-,-⟩:=HR.out.2.1.cells
      clear hw1 hf1
      go_wp2_with fail
      refine HG.out.mono ?_
      rintro e w2 ⟨rfl,ha2,hf2⟩
      have HE:=Lib.hid (HR.out.then (HR.out.2.1.wrote ha2 HLE.out hf2 (.bool true)))
      clear ha2 hf2
      go_wp2
      go_ret
      exact HE.out
    · have hqz:(q == 0)=false:=by simpa using hq
      have hdq:decide (q=0)=false:=by simpa using hq
      rw[hdq]
      clear hdq
      go_enter Tryz.func166,Tryz.ntmps166
      go_wp2_with fail
      refine HM.out.mono ?_
      rintro e w' ⟨rfl,rfl⟩
      go_wp2_with fail
      refine HL.out.mono ?_
      rintro e w1 ⟨rfl,hw1,hf1⟩
      have HR:=Lib.hid (HP.out.looked hw1 hf1 (.bool true))
      have HG:=Lib.hid (putC_any h.a (.pointer (some ⟨h.a.g,0,none⟩)) M.l a n y w1 HR.out.2.1.ar h0 h1)
      rw[HPQ.out] at HG
      obtain⟨-,d1,-,-⟩:=HR.out.2.1.cells
      clear hw1 hf1
      go_wp2_with fail
      refine HG.out.mono ?_
      rintro e w2 ⟨rfl,ha2,hf2⟩
      have HE:=Lib.hid (HR.out.then (HR.out.2.1.wrote ha2 HLE.out hf2 (.bool false)))
      clear ha2 hf2
      go_wp2
      go_ret
      exact HE.out
  · have hb':lookA M.x a n k=false:=by simpa using hb
    rw[hb'] at HL
    have hr:M.store a n k y=(false,M.ticked false):=by rw[Mm.store,if_neg hb]
    rw[hr]
    clear hr hb hb'
    go_enter Tryz.func166,Tryz.ntmps166
    go_wp2_with fail
    refine HM.out.mono ?_
    rintro e w' ⟨rfl,rfl⟩
    go_wp2_with fail
    refine HL.out.mono ?_
    rintro e w1 ⟨rfl,hw1,hf1⟩
    have HR:=Lib.hid (HP.out.looked hw1 hf1 (.bool false))
    clear hw1 hf1
    go_wp2
    go_ret
    exact HR.out
theorem mark_any (h:Hm) (v:Value) (M:Mm) (a n k:Int) (w:World) (hm:MemC h w v M) (h64:is64 a) :
    Calls Tryz.prog 243 #[v,.int .i64 a,.int .i64 n,.int .i64 k] w (MRet h w v (M.mark a n k).2 (.int .i64 (M.mark a n k).1)):=by
  have HM:=Lib.hid (made_any h v M w hm)
  have HL:=Lib.hid (Wat.mark_any h.w _ M.x M.lk M.ft a n k w hm.wa h64)
  obtain⟨c0,-,-,-⟩:=hm.cells
  have HP:=Lib.hid hm
  have HLE:=Lib.hid (mrkA_length M.x a n k)
  obtain rfl:=hm.hv
  unfold Mm.mark
  obtain⟨p,q,hpq⟩:∃ p q,mrkA M.x a n k=(p,q):=⟨_,_,rfl⟩
  rw[hpq] at HL HLE ⊢
  clear hm hpq
  go_enter Tryz.func243,Tryz.ntmps243
  go_wp2_with fail
  refine HM.out.mono ?_
  rintro e w' ⟨rfl,rfl⟩
  go_wp2_with fail
  refine HL.out.mono ?_
  rintro e w1 ⟨rfl,hw1,hf1⟩
  have HR:=Lib.hid (HP.out.watched hw1 HLE.out hf1 (.int .i64 q)).wide
  clear hw1 hf1
  go_wp2
  go_ret
  exact HR.out
theorem kind_any (h:Hm) (v:Value) (M:Mm) (a n:Int) (w:World) (hm:MemC h w v M) (h64:is64 a) :
    Calls Tryz.prog 35 #[v,.int .i64 a,.int .i64 n] w fun e w'=>e = .returned (.int .i64 (kndA M.x a n))∧Below w.heap.size w w':=by
  have HM:=Lib.hid (made_any h v M w hm)
  have HL:=Lib.hid (Wat.kind_any h.w _ M.x M.lk M.ft a n w hm.wa h64)
  obtain⟨c0,-,-,-⟩:=hm.cells
  obtain rfl:=hm.hv
  clear hm
  go_enter Tryz.func35,Tryz.ntmps35
  go_wp2_with fail
  refine HM.out.mono ?_
  rintro e w' ⟨rfl,rfl⟩
  go_wp2_with fail
  refine HL.out.mono ?_
  rintro e w1 ⟨rfl,hb1⟩
  go_wp2
  go_ret
  exact⟨rfl,hb1⟩
theorem faults_any (h:Hm) (v:Value) (M:Mm) (w:World) (hm:MemC h w v M) :
    Calls Tryz.prog 17 #[v] w fun e w'=>e = .returned (.int .i64 M.ft)∧Below w.heap.size w w':=by
  have HM:=Lib.hid (made_any h v M w hm)
  have hb:=below_made w (.cells #[.pointer (some ⟨h.w.g,0,none⟩)] 97)
  have HF:=Lib.hid (Wat.faults_any h.w _ M.x M.lk M.ft _ (hm.wa.below hb))
  obtain⟨c0,-,-,-⟩:=hm.cells
  have HC:Hid (Calls Tryz.prog 55 #[.agg #[.pointer (some ⟨h.w.g,0,none⟩)]] w fun e w'=>e = .returned (.int .i64 M.ft)∧Below w.heap.size w w'):=by
    have c1:(w.alloc (.cells #[.pointer (some ⟨h.w.g,0,none⟩)] 97)).cell? ⟨w.heap.size,0,none⟩=some (.pointer (some ⟨h.w.g,0,none⟩)):=cell_of_one (heap_alloc_new _ _)
    clear hm c0
    go_enter Tryz.func55,Tryz.ntmps55
    go_wp2_with fail
    refine HF.out.mono ?_
    rintro e w1 ⟨rfl,rfl⟩
    go_wp2
    go_ret
    exact⟨rfl,hb⟩
  obtain rfl:=hm.hv
  clear hm hb HF
  go_enter Tryz.func17,Tryz.ntmps17
  go_wp2_with fail
  refine HM.out.mono ?_
  rintro e w' ⟨rfl,rfl⟩
  go_wp2_with fail
  refine HC.out.mono ?_
  rintro e w1 ⟨rfl,hb1⟩
  go_wp2
  go_ret
  exact⟨rfl,hb1⟩
theorem config_any (h:Hm) (v:Value) (M:Mm) (w:World) (hm:MemC h w v M) :
    Calls Tryz.prog 147 #[v] w fun e w'=>e = .returned (.agg #[.int .i64 M.s,.int .i64 M.n])∧Below w.heap.size w w':=by
  have hb:=below_made w (.cells #[.int .i64 0,.int .i64 0] 81)
  have HM:=Lib.hid (made_any h v M _ (hm.below hb))
  obtain⟨-,-,c2,c3⟩:=(hm.below hb).cells
  have hblk:=heap_alloc_new w (.cells #[.int .i64 M.s,.int .i64 M.n] 81)
  have q0:(w.alloc (.cells #[.int .i64 M.s,.int .i64 M.n] 81)).cell? ⟨w.heap.size,0,none⟩=some (.int .i64 M.s):=(cell_block hblk 0).trans rfl
  have q1:(w.alloc (.cells #[.int .i64 M.s,.int .i64 M.n] 81)).cell? ⟨w.heap.size,1,none⟩=some (.int .i64 M.n):=(cell_block hblk 1).trans rfl
  obtain rfl:=hm.hv
  clear hm hb hblk
  go_enter Tryz.func147,Tryz.ntmps147
  go_wp2_with fail
  refine HM.out.mono ?_
  rintro e w' ⟨rfl,rfl⟩
  go_wp2
  refine bodyPost_ret (v:=.agg #[.int .i64 M.s,.int .i64 M.n]) (by simp[results,Tryz.results147,go_sem,q0,q1]) rfl ⟨rfl,below_made _ _⟩
end Go.Proofs.YtmgeiaglandedaaGreatDoor.Mem

namespace Go.Proofs.YtmgeiaglandedaaGreatDoor.Mem
open Go.RowKit Num Arn Wat
set_option linter.unusedVariables false
theorem lookA_minus (x:List Int) (k:Int):lookA x (-1) 1 k=false:=by
  have h:fitB x.length (-1) 1=false:=by simp[fitB]
  unfold lookA
  rw[h]
  simp
set_option maxRecDepth 100000 in
theorem row_any (h:Hm) (v:Value) (M:Mm) (a n k:Int) (w:World) (hm:MemC h w v M) (h64:is64 a) (n64:is64 n) :
    Calls Tryz.prog 141 #[v,.int .i64 a,.int .i64 n,.int .i64 k] w (MRetS (blkW h.w) h w v (M.look a n k).2 (.bool (M.look a n k).1)):=by
  have hl:=hm.ar.len
  obtain⟨c0,c1,-,-⟩:=hm.cells
  by_cases hf:fitB M.l.length a n=true
  · obtain⟨p,q,rfl,rfl,hpq⟩:=fitB_nat hf
    have hr:M.look p q k=Mm.each k q M p:=by rw[Mm.look,if_pos hf];rfl
    rw[hr]
    have HLen:=Lib.hid (lenC_any h.a _ M.l w hm.ar)
    have HP:=Lib.hid hm
    obtain⟨R,hR⟩:∃ R,R=Mm.each k q M p:=⟨_,rfl⟩
    rw[←hR]
    have HR:=Lib.hid hR
    obtain⟨D,hD⟩:∃ D:Nat,D=M.l.length:=⟨_,rfl⟩
    rw[←hD] at HLen hl hpq
    obtain⟨d,hd⟩:∃ d:Nat,d=D-p:=⟨_,rfl⟩
    have w1:IntKind.i64.wrap ((D:Int)-(p:Int))=(d:Int):=(wrap_id (by omega) (by omega)).trans (by omega)
    have g0:¬ ((p:Int)<0):=by omega
    have g1:decide ((q:Int)<0)=false:=by rw[decide_eq_false_iff_not];omega
    have g2:decide ((d:Int)<(q:Int))=false:=by rw[decide_eq_false_iff_not];omega
    have g4:decide (d<q)=false:=by rw[decide_eq_false_iff_not];omega
    have hB:p+q≤1048576:=by omega
    obtain rfl:=hm.hv
    clear hm hf hr hR hD hd
    go_enter Tryz.func141,Tryz.ntmps141
    go_wp2_with fail
    refine HLen.out.mono ?_
    rintro e w1 ⟨rfl,hb1⟩
    have HS:Hid (MemC h w1 (.pointer (some ⟨h.g,0,none⟩)) M∧Fr w.heap.size (blkW h.w) w w1):=⟨HP.out.below hb1,Fr.of_below hb1⟩
    clear hb1 c0 c1
    go_wp2
    go_loopw [35] (fun i wr=>∃ (j:Nat) (N:Mm),j≤q∧i = .int .i64 j∧Hid (MemC h wr (.pointer (some ⟨h.g,0,none⟩)) N∧Fr w.heap.size (blkW h.w) w wr)∧Hid (R=Mm.each k (q-j) N ((p:Int)+(j:Int)))) (fun i _=>q-(intOf i).toNat)
    case atStart=>exact⟨0,M,Nat.zero_le _,rfl,HS,by simpa[Hid] using HR.out⟩
    case round =>
      obtain⟨j,N,hj,rfl,HN,HE⟩:=hrel
      by_cases hlt:j<q
      · have hlt1:(j:Int)<(q:Int):=by omega
        have he:=HE.out
        rw[show q-j=(q-(j+1))+1 by omega,Mm.each] at he
        obtain⟨s,hs⟩:∃ s:Nat,s=p+j:=⟨_,rfl⟩
        have hs2:(p:Int)+(j:Int)=(s:Int):=by omega
        rw[hs2] at he
        have w2:IntKind.i64.wrap ((p:Int)+(j:Int))=(s:Int):=(wrap_id (by omega) (by omega)).trans (by omega)
        have HL:=Lib.hid (Wat.look_any h.w _ N.x N.lk N.ft s 1 k wr HN.out.1.wa (by unfold is64;omega))
        obtain⟨c0,-,-,-⟩:=HN.out.1.cells
        by_cases hb:lookA N.x s 1 k=true
        · rw[if_pos hb] at he
          rw[hb] at HL
          have HE2:Hid (R=Mm.each k (q-(j+1)) (N.ticked true) ((p:Int)+((j+1:Nat):Int))):=by
            unfold Hid
            rw[he]
            congr 1
            omega
          clear he hb hs hs2 HE
          go_wp2_with fail
          refine HL.out.mono ?_
          rintro e w2 ⟨rfl,hw2,hf2⟩
          have HX:Hid (MemC h w2 (.pointer (some ⟨h.g,0,none⟩)) (N.ticked true)∧Fr w.heap.size (blkW h.w) w w2):=by
            have h1:=HN.out.1.lookedS hw2 hf2 (.bool true)
            exact⟨h1.2.1,HN.out.2.trans (h1.2.2.mono HN.out.2.size (fun _ _ hk=>hk))⟩
          clear hw2 hf2 c0
          go_wp2
          go_roundw
          case rel=>exact⟨j+1,N.ticked true,by omega,by go_num,HX,HE2⟩
          case measure=>simp[intOf];omega
        · have hb':lookA N.x s 1 k=false:=by simpa using hb
          rw[if_neg hb] at he
          rw[hb'] at HL
          have HE2:=Lib.hid he
          clear he hb hb' hs hs2 HE
          go_wp2_with fail
          refine HL.out.mono ?_
          rintro e w2 ⟨rfl,hw2,hf2⟩
          have HX:Hid (MRetS (blkW h.w) h w (.pointer (some ⟨h.g,0,none⟩)) R.2 (.bool R.1) (.returned (.bool false)) w2):=by
            have h1:=HN.out.1.lookedS hw2 hf2 (.bool false)
            rw[HE2.out]
            exact⟨rfl,h1.2.1,HN.out.2.trans (h1.2.2.mono HN.out.2.size (fun _ _ hk=>hk))⟩
          clear hw2 hf2 c0
          go_wp2
          go_ret
          exact HX.out
      · obtain rfl:j=q:=by omega
        have HX:Hid (MRetS (blkW h.w) h w (.pointer (some ⟨h.g,0,none⟩)) R.2 (.bool R.1) (.returned (.bool true)) wr):=by
          have he:=HE.out
          rw[Nat.sub_self,Mm.each] at he
          rw[he]
          exact⟨rfl,HN.out.1,HN.out.2⟩
        clear HE HN
        go_wp2
        go_ret
        exact HX.out
  · have hf':fitB M.l.length a n=false:=by simpa using hf
    have hr:M.look a n k=(false,M.ticked false):=by rw[Mm.look,if_neg hf]
    rw[hr]
    have hnf:=fitB_not hf'
    have HP:=Lib.hid hm
    have HL:Hid (∀ W,Below w.heap.size w W→Calls Tryz.prog 215 #[.pointer (some ⟨h.w.g,0,none⟩),.int .i64 (-1),.int .i64 1,.int .i64 k] W (MRetS (blkW h.w) h w v (M.ticked false) (.bool false))):=by
      intro W hb
      have h1:=Wat.look_any h.w _ M.x M.lk M.ft (-1) 1 k W (hm.below hb).wa (by unfold is64;omega)
      rw[lookA_minus] at h1
      refine h1.mono ?_
      rintro e w2 ⟨rfl,hw2,hf2⟩
      exact(MemC.onlyS _ hm hb (.bool false)).then ((hm.below hb).lookedS hw2 hf2 (.bool false))
    have HLen:=Lib.hid (lenC_any h.a _ M.l w hm.ar)
    have HC:Hid (∀ W,Below w.heap.size w W→W.cell? ⟨h.g,0,none⟩=some (.pointer (some ⟨h.w.g,0,none⟩))):=fun W hb=>(hm.below hb).cells.1
    obtain⟨D,hD⟩:∃ D:Nat,D=M.l.length:=⟨_,rfl⟩
    rw[←hD] at HLen hl hnf
    unfold is64 at h64 n64
    obtain rfl:=hm.hv
    by_cases a0:a<0
    · clear hnf hf hf' hm hr hD
      go_enter Tryz.func141,Tryz.ntmps141
      go_wp2_with fail
      refine(HL.out _ (Below.refl _ _)).mono ?_
      rintro e w2 hx
      obtain rfl:=hx.1
      have HX:=Lib.hid hx
      clear hx
      go_wp2
      go_ret
      exact HX.out
    · have a1:0≤a:=by omega
      by_cases m0:n<0
      · clear hnf hf hf' hm hr hD
        go_enter Tryz.func141,Tryz.ntmps141
        go_wp2_with fail
        refine(HL.out _ (Below.refl _ _)).mono ?_
        rintro e w2 hx
        obtain rfl:=hx.1
        have HX:=Lib.hid hx
        clear hx
        go_wp2
        go_ret
        exact HX.out
      · have m1:0≤n:=by omega
        obtain⟨d,hd⟩:∃ d:Int,d=(D:Int)-a:=⟨_,rfl⟩
        have w1:IntKind.i64.wrap ((D:Int)-a)=d:=(wrap_id (by omega) (by omega)).trans hd.symm
        have e2:d<n:=by omega
        have g1:decide (n<0)=false:=by rw[decide_eq_false_iff_not];omega
        have g2:decide (d<n)=true:=by rw[decide_eq_true_eq];exact e2
        clear hnf hf hf' hm hr hd hD
        go_enter Tryz.func141,Tryz.ntmps141
        go_wp2_with fail
        refine HLen.out.mono ?_
        rintro e w1 ⟨rfl,hb1⟩
        have d0:=HC.out _ hb1
        have HL1:=Lib.hid (HL.out _ hb1)
        clear hb1 c0 c1
        go_wp2_with fail
        refine HL1.out.mono ?_
        rintro e w2 hx
        obtain rfl:=hx.1
        have HX:=Lib.hid hx
        clear hx
        go_wp2
        go_ret
        exact HX.out
end Go.Proofs.YtmgeiaglandedaaGreatDoor.Mem

namespace Go.Proofs.YtmgeiaglandedaaGreatDoor.Mem
open Go.RowKit Num Arn Wat
set_option linter.unusedVariables false
def TabP (w:World):Prop:=Lib.TabIs Tryz.prog w "columbarium/memory.places" .i64 plI
theorem TabP.cell {w:World} (h:TabP w) (i:Nat) (hi:i<22):w.cell? ⟨0,i,none⟩=some (.int .i64 (plI.getD i 0)) :=
  Lib.TabIs.cell h (show Tryz.prog.globalNamed "columbarium/memory.places" = some 0 by kernel_rfl) i hi
theorem tabP_of {l:List (String×DataW Unit)} {w:World} (hp:(l.all fun x=>x.2.handleName?.isNone)=true) (hm:("columbarium/memory.places",Rows.laid_columbarium_memory_places)∈l) (h:laidMetH Tryz.prog l w):TabP w :=
  tab_of_laid (g:=0) (n:=22) (t:=211) (e:=3) hp hm (by kernel_rfl) (by kernel_rfl) (by kernel_rfl) (by kernel_rfl) (by kernel_rfl) (by kernel_rfl) h
theorem TabP.keep {w w':World} (hb:Below w.heap.size w w') (h:TabP w):TabP w':=tab_keep hb h
theorem known_any (f:Int) (w:World):Calls Tryz.prog 127 #[.int .i64 f] w fun e w'=>e = .returned (.bool (fldM f))∧w=w':=by
  by_cases h0:0≤f
  · go_enter Tryz.func127,Tryz.ntmps127
    go_wp2
    go_ret
    exact⟨ret_bool (by simp[fldM,h0]),rfl⟩
  · go_enter Tryz.func127,Tryz.ntmps127
    go_wp2
    go_ret
    exact⟨ret_bool (by simp[fldM];omega),rfl⟩
theorem fld_nat {f:Int} (h:fldM f=true):∃ p:Nat,f=p∧p<21:=by
  simp[fldM] at h
  exact⟨f.toNat,by omega,by omega⟩
theorem plI_bd:∀ p,p<22→8≤plI.getD p 0∧plI.getD p 0≤96:=by decide
set_option maxRecDepth 100000 in
theorem place_any (f:Int) (w:World) (ht:TabP w) (hf:fldM f=true):Calls Tryz.prog 95 #[.int .i64 f] w fun e w'=>e = .returned (.tuple #[.int .i64 (fatM f),.int .i64 (fwdM f)])∧∃ m,w'=w.drewN m:=by
  obtain⟨p,rfl,hp⟩:=fld_nat hf
  have q0:=ht.cell p (by omega)
  have q1:=ht.cell (p+1) (by omega)
  have b0:=plI_bd p (by omega)
  have b1:=plI_bd (p+1) (by omega)
  unfold fatM fwdM
  rw[Int.toNat_natCast]
  obtain⟨x,hx⟩:∃ x,x=plI.getD p 0:=⟨_,rfl⟩
  obtain⟨y,hy⟩:∃ y,y=plI.getD (p+1) 0:=⟨_,rfl⟩
  rw[←hx] at q0 b0 ⊢
  rw[←hy] at q1 b1 ⊢
  obtain⟨p1,hp1⟩:∃ p1:Nat,p1=p+1:=⟨_,rfl⟩
  rw[←hp1] at q1
  have w1:IntKind.i64.wrap ((p:Int)+1)=(p1:Int):=(wrap_id (by omega) (by omega)).trans (by omega)
  obtain⟨z,hz⟩:∃ z,z=y-x:=⟨_,rfl⟩
  have w2:IntKind.i64.wrap (y-x)=z:=(wrap_id (by omega) (by omega)).trans hz.symm
  rw[←hz]
  have e1:(p:Int)<22:=by omega
  have e2:(p1:Int)<22:=by omega
  have e0:(0:Int)≤(p:Int):=by omega
  have e3:(0:Int)≤(p1:Int):=by omega
  have e4:p<22:=by omega
  have e5:p1<22:=by omega
  clear hf hx hy hp1 hz b0 b1 ht
  go_enter Tryz.func95,Tryz.ntmps95
  go_wp2_with fail
  go_quiet (fail)
  go_wp2
  go_ret2
  exact⟨rfl,_,rfl⟩
theorem fat_bd {f:Int} (h:fldM f=true):is64 (fatM f):=by
  obtain⟨p,rfl,hp⟩:=fld_nat h
  have:=plI_bd p (by omega)
  unfold fatM is64
  rw[Int.toNat_natCast]
  omega
theorem root_any (h:Hm) (v:Value) (M:Mm) (f:Int) (w:World) (hm:MemC h w v M) (ht:TabP w) :
    Calls Tryz.prog 53 #[v,.int .i64 f] w (MRet h w v (M.root f).2 (.int .u64 (M.root f).1)):=by
  have HK:=Lib.hid (known_any f w)
  obtain rfl:=hm.hv
  by_cases hf:fldM f=true
  · have hr:M.root f=M.load (fatM f) (fwdM f) 2:=by rw[Mm.root,if_pos hf]
    rw[hr]
    rw[hf] at HK
    have HP:=Lib.hid (place_any f w ht hf)
    have HL:Hid (∀ m,Calls Tryz.prog 128 #[.pointer (some ⟨h.g,0,none⟩),.int .i64 (fatM f),.int .i64 (fwdM f),.int .i64 2] (w.drewN m) (MRet h w (.pointer (some ⟨h.g,0,none⟩)) (M.load (fatM f) (fwdM f) 2).2 (.int .u64 (M.load (fatM f) (fwdM f) 2).1))):=by
      intro m
      have hb:=below_drewN (Below.refl w.heap.size w) m
      refine(load_any h _ M _ _ 2 _ (hm.below hb) (fat_bd hf)).mono ?_
      intro e w' hx
      exact(hm.only hb (.bool true)).then hx
    obtain⟨a,ha⟩:∃ a,a=fatM f:=⟨_,rfl⟩
    obtain⟨n,hn⟩:∃ n,n=fwdM f:=⟨_,rfl⟩
    rw[←ha,←hn] at HP HL ⊢
    clear ha hn hr hf ht hm
    go_enter Tryz.func53,Tryz.ntmps53
    go_wp2_with fail
    refine HK.out.mono ?_
    rintro e w' ⟨rfl,rfl⟩
    go_wp2_with fail
    refine HP.out.mono ?_
    rintro e w' ⟨rfl,m,rfl⟩
    go_wp2_with fail
    refine(HL.out m).mono ?_
    intro e w2 hx
    obtain rfl:=hx.1
    have HX:=Lib.hid hx
    clear hx
    go_wp2
    go_ret
    exact HX.out
  · have hr:M.root f=(0,M):=by rw[Mm.root,if_neg hf]
    have hf':fldM f=false:=by simpa using hf
    rw[hr]
    rw[hf'] at HK
    have HX:=Lib.hid (hm.same (.int .u64 0))
    clear hr hf hf' ht hm
    go_enter Tryz.func53,Tryz.ntmps53
    go_wp2_with fail
    refine HK.out.mono ?_
    rintro e w' ⟨rfl,rfl⟩
    go_wp2
    go_ret
    exact HX.out
theorem setRoot_any (h:Hm) (v:Value) (M:Mm) (f y:Int) (w:World) (hm:MemC h w v M) (ht:TabP w) (h0:0≤y) (h1:y<18446744073709551616) :
    Calls Tryz.prog 100 #[v,.int .i64 f,.int .u64 y] w (MRet h w v (M.setRoot f y).2 (.bool (M.setRoot f y).1)):=by
  have HK:=Lib.hid (known_any f w)
  obtain rfl:=hm.hv
  by_cases hf:fldM f=true
  · have hr:M.setRoot f y=M.store (fatM f) (fwdM f) 2 y:=by rw[Mm.setRoot,if_pos hf]
    rw[hr]
    rw[hf] at HK
    have HP:=Lib.hid (place_any f w ht hf)
    have HL:Hid (∀ m,Calls Tryz.prog 166 #[.pointer (some ⟨h.g,0,none⟩),.int .i64 (fatM f),.int .i64 (fwdM f),.int .i64 2,.int .u64 y] (w.drewN m) (MRet h w (.pointer (some ⟨h.g,0,none⟩)) (M.store (fatM f) (fwdM f) 2 y).2 (.bool (M.store (fatM f) (fwdM f) 2 y).1))):=by
      intro m
      have hb:=below_drewN (Below.refl w.heap.size w) m
      refine(store_any h _ M _ _ 2 y _ (hm.below hb) (fat_bd hf) h0 h1).mono ?_
      intro e w' hx
      exact(hm.only hb (.bool true)).then hx
    obtain⟨a,ha⟩:∃ a,a=fatM f:=⟨_,rfl⟩
    obtain⟨n,hn⟩:∃ n,n=fwdM f:=⟨_,rfl⟩
    rw[←ha,←hn] at HP HL ⊢
    clear ha hn hr hf ht hm
    go_enter Tryz.func100,Tryz.ntmps100
    go_wp2_with fail
    refine HK.out.mono ?_
    rintro e w' ⟨rfl,rfl⟩
    go_wp2_with fail
    refine HP.out.mono ?_
    rintro e w' ⟨rfl,m,rfl⟩
    go_wp2_with fail
    refine(HL.out m).mono ?_
    intro e w2 hx
    obtain rfl:=hx.1
    have HX:=Lib.hid hx
    clear hx
    go_wp2
    go_ret
    exact HX.out
  · have hr:M.setRoot f y=(false,M):=by rw[Mm.setRoot,if_neg hf]
    have hf':fldM f=false:=by simpa using hf
    rw[hr]
    rw[hf'] at HK
    have HX:=Lib.hid (hm.same (.bool false))
    clear hr hf hf' ht hm
    go_enter Tryz.func100,Tryz.ntmps100
    go_wp2_with fail
    refine HK.out.mono ?_
    rintro e w' ⟨rfl,rfl⟩
    go_wp2
    go_ret
    exact HX.out
end Go.Proofs.YtmgeiaglandedaaGreatDoor.Mem

namespace Go.Proofs.YtmgeiaglandedaaGreatDoor.Mem
open Go.RowKit Num Arn Wat
set_option linter.unusedVariables false
theorem look_fit {M:Mm} {a n k:Int} (h:(M.look a n k).1=true):fitB M.l.length a n=true:=by
  unfold Mm.look at h
  split at h
  · assumption
  · cases h
theorem newRow_nil (B:Nat) (w:World):NewRow B w (.slice none 0 0) []:=⟨Row.nil _ _,fun _ _ _ _ _ h=>absurd rfl h⟩
set_option maxRecDepth 100000 in
theorem read_any (h:Hm) (v:Value) (M:Mm) (a n k:Int) (w:World) (hm:MemC h w v M) (h64:is64 a) (n64:is64 n) :
    Calls Tryz.prog 62 #[v,.int .i64 a,.int .i64 n,.int .i64 k] w fun e w'=>∃ u,MRet h w v (M.read a n k).2 u e w'∧NewRow w.heap.size w' u (M.read a n k).1:=by
  have HM:=Lib.hid (made_any h v M w hm)
  have HR:=Lib.hid ((row_any h v M a n k w hm h64 n64).mono fun _ _ hw=>hw.wide)
  have hx:=look_x M a n k
  have hfit:=@look_fit M a n k
  unfold Mm.read
  obtain⟨g,N,hgn⟩:∃ g N,M.look a n k=(g,N):=⟨_,_,rfl⟩
  rw[hgn] at HR hx hfit ⊢
  simp only[] at HR hx hfit ⊢
  obtain rfl:=hm.hv
  by_cases hg:g=true
  · subst hg
    have hf:=hfit rfl
    rw[if_pos rfl]
    have HRd:Hid (∀ W,MRet h w (.pointer (some ⟨h.g,0,none⟩)) N (.bool true) (.returned (.bool true)) W→Calls Tryz.prog 142 #[.pointer (some ⟨h.a.g,0,none⟩),.int .i64 a,.int .i64 n] W fun e w'=>∃ u,e = .returned (.tuple #[u,.int .i64 0])∧MRet h w (.pointer (some ⟨h.g,0,none⟩)) N u (.returned u) w'∧NewRow w.heap.size w' u ((M.l.drop a.toNat).take n.toNat)):=by
      intro W hW
      have har:=hW.2.1.ar
      rw[hx.2.1] at har
      have h1:=readC_any h.a _ M.l a n W har h64
      rw[show reaA M.l a n=((M.l.drop a.toNat).take n.toNat,0) by rw[reaA,if_pos hf]] at h1
      refine h1.mono ?_
      rintro e w2 ⟨u,rfl,hb,hr⟩
      exact⟨u,rfl,hW.then (hW.2.1.only hb u),hr.1,fun b off m c he hne=>⟨Nat.le_trans hW.2.2.size (hr.2 b off m c he hne).1,(hr.2 b off m c he hne).2⟩⟩
    have HC:Hid (∀ W,MRet h w (.pointer (some ⟨h.g,0,none⟩)) N (.bool true) (.returned (.bool true)) W→W.cell? ⟨h.g,1,none⟩=some (.pointer (some ⟨h.a.g,0,none⟩))):=fun W hW=>hW.2.1.cells.2.1
    clear hgn hf hfit hx hm
    go_enter Tryz.func62,Tryz.ntmps62
    go_wp2_with fail
    refine HM.out.mono ?_
    rintro e w' ⟨rfl,rfl⟩
    go_wp2_with fail
    refine HR.out.mono ?_
    rintro e w1 hx
    obtain rfl:=hx.1
    have HR1:=Lib.hid (HRd.out w1 hx)
    have d1:=HC.out w1 hx
    clear hx HC HRd HR
    go_wp2_with fail
    refine HR1.out.mono ?_
    rintro e w2 ⟨u,rfl,hz⟩
    have HZ:=Lib.hid hz
    clear hz
    go_wp2
    go_ret
    exact⟨_,HZ.out⟩
  · obtain rfl:g=false:=by simpa using hg
    rw[if_neg (by decide)]
    have HF:Hid (∀ W,MRet h w (.pointer (some ⟨h.g,0,none⟩)) N (.bool false) (.returned (.bool false)) W→MRet h w (.pointer (some ⟨h.g,0,none⟩)) N (.slice none 0 0) (.returned (.slice none 0 0)) W):=fun W hW=>⟨rfl,hW.2⟩
    clear hgn hfit hx hm
    go_enter Tryz.func62,Tryz.ntmps62
    go_wp2_with fail
    refine HM.out.mono ?_
    rintro e w' ⟨rfl,rfl⟩
    go_wp2_with fail
    refine HR.out.mono ?_
    rintro e w1 hx
    obtain rfl:=hx.1
    have HZ:=Lib.hid (HF.out w1 hx)
    clear hx HF HR
    go_wp2
    go_ret
    exact⟨_,HZ.out,newRow_nil _ _⟩
set_option maxRecDepth 100000 in
theorem write_any (h:Hm) (v:Value) (M:Mm) (a k:Int) (u:Value) (X:List Int) (w:World) (hm:MemC h w v M) (h64:is64 a) (hx:Row .u8 w u X) (hu:∀ b,u.ownBlock=some b→¬ blkW h.w b) :
    Calls Tryz.prog 87 #[v,.int .i64 a,u,.int .i64 k] w (MRet h w v (M.write a X k).2 (.bool (M.write a X k).1)):=by
  have HM:=Lib.hid (made_any h v M w hm)
  have hX:is64 (X.length:Int):=by
    obtain⟨_,_,rfl,h2,h3,_⟩:=hx
    unfold is64
    omega
  have HR:=Lib.hid (row_any h v M a X.length k w hm h64 hX)
  have hxx:=look_x M a X.length k
  have hfit:=@look_fit M a X.length k
  unfold Mm.write
  obtain⟨g,N,hgn⟩:∃ g N,M.look a X.length k=(g,N):=⟨_,_,rfl⟩
  rw[hgn] at HR hxx hfit ⊢
  simp only[] at HR hxx hfit ⊢
  obtain rfl:=hm.hv
  by_cases hg:g=true
  · subst hg
    have hf:=hfit rfl
    rw[if_pos rfl]
    have HRd:Hid (∀ W,MRet h w (.pointer (some ⟨h.g,0,none⟩)) N (.bool true) (.returned (.bool true)) W→Row .u8 W u X→Calls Tryz.prog 173 #[.pointer (some ⟨h.a.g,0,none⟩),.int .i64 a,u] W fun e w'=>e = .returned (.int .i64 0)∧MRet h w (.pointer (some ⟨h.g,0,none⟩)) { N with l:=wrL M.l a.toNat X } (.bool true) (.returned (.bool true)) w'):=by
      intro W hW hrow
      have har:=hW.2.1.ar
      rw[hxx.2.1] at har
      have h1:=writeC_any h.a _ M.l a u X W har h64 hrow
      rw[show wriA M.l a X=(wrL M.l a.toNat X,0) by rw[wriA,if_pos hf]] at h1
      refine h1.mono ?_
      rintro e w2 ⟨rfl,ha2,hf2⟩
      obtain⟨p,q,h3,h4,hpq⟩:=fitB_nat hf
      have hlen:(wrL M.l a.toNat X).length=N.l.length:=by rw[hxx.2.1];exact wrL_length _ _ _ (by omega)
      exact⟨rfl,hW.then (hW.2.1.wrote ha2 hlen hf2 (.bool true))⟩
    have HC:Hid (∀ W,MRet h w (.pointer (some ⟨h.g,0,none⟩)) N (.bool true) (.returned (.bool true)) W→W.cell? ⟨h.g,1,none⟩=some (.pointer (some ⟨h.a.g,0,none⟩))):=fun W hW=>hW.2.1.cells.2.1
    have HK:Hid (∀ W,MRetS (blkW h.w) h w (.pointer (some ⟨h.g,0,none⟩)) N (.bool true) (.returned (.bool true)) W→Row .u8 W u X):=fun W hW=>hx.fr hW.2.2 (fun hne b hb=>⟨by
      obtain⟨ad,cap,rfl,-,-,-,h5⟩:=hx
      obtain⟨b',off,rfl,hlt,-⟩:=h5 hne
      cases hb
      exact hlt,hu b hb⟩)
    obtain⟨ad,cap,rfl,-,-,-,-⟩:=hx
    clear hgn hf hfit hxx hm hu
    go_enter Tryz.func87,Tryz.ntmps87
    go_wp2_with fail
    refine HM.out.mono ?_
    rintro e w' ⟨rfl,rfl⟩
    go_wp2_with fail
    refine HR.out.mono ?_
    rintro e w1 hx
    obtain rfl:=hx.1
    have HR1:=Lib.hid (HRd.out w1 hx.wide (HK.out w1 hx))
    have d1:=HC.out w1 hx.wide
    clear hx HC HRd HR HK
    go_wp2_with fail
    refine HR1.out.mono ?_
    rintro e w2 ⟨rfl,hz⟩
    have HZ:=Lib.hid hz
    clear hz
    go_wp2
    go_ret
    exact HZ.out
  · obtain rfl:g=false:=by simpa using hg
    rw[if_neg (by decide)]
    have HF:Hid (∀ W,MRet h w (.pointer (some ⟨h.g,0,none⟩)) N (.bool false) (.returned (.bool false)) W→MRet h w (.pointer (some ⟨h.g,0,none⟩)) { N with l:=M.l } (.bool false) (.returned (.bool false)) W):=fun W hW=>by rw[←hxx.2.1];exact hW
    obtain⟨ad,cap,rfl,-,-,-,-⟩:=hx
    clear hgn hfit hxx hm hu
    go_enter Tryz.func87,Tryz.ntmps87
    go_wp2_with fail
    refine HM.out.mono ?_
    rintro e w' ⟨rfl,rfl⟩
    go_wp2_with fail
    refine HR.out.mono ?_
    rintro e w1 hx
    obtain rfl:=hx.1
    have HZ:=Lib.hid (HF.out w1 hx.wide)
    clear hx HF HR
    go_wp2
    go_ret
    exact HZ.out
set_option maxRecDepth 100000 in
theorem zero_any (h:Hm) (v:Value) (M:Mm) (a n k:Int) (w:World) (hm:MemC h w v M) (h64:is64 a) (n64:is64 n) :
    Calls Tryz.prog 244 #[v,.int .i64 a,.int .i64 n,.int .i64 k] w (MRet h w v (M.zero a n k).2 (.bool (M.zero a n k).1)):=by
  have HM:=Lib.hid (made_any h v M w hm)
  have HR:=Lib.hid ((row_any h v M a n k w hm h64 n64).mono fun _ _ hw=>hw.wide)
  have hxx:=look_x M a n k
  have hfit:=@look_fit M a n k
  unfold Mm.zero
  obtain⟨g,N,hgn⟩:∃ g N,M.look a n k=(g,N):=⟨_,_,rfl⟩
  rw[hgn] at HR hxx hfit ⊢
  simp only[] at HR hxx hfit ⊢
  obtain rfl:=hm.hv
  by_cases hg:g=true
  · subst hg
    have hf:=hfit rfl
    rw[if_pos rfl]
    have HRd:Hid (∀ W,MRet h w (.pointer (some ⟨h.g,0,none⟩)) N (.bool true) (.returned (.bool true)) W→Calls Tryz.prog 266 #[.pointer (some ⟨h.a.g,0,none⟩),.int .i64 a,.int .i64 n] W fun e w'=>e = .returned (.int .i64 0)∧MRet h w (.pointer (some ⟨h.g,0,none⟩)) { N with l:=wrL M.l a.toNat (List.replicate n.toNat 0) } (.bool true) (.returned (.bool true)) w'):=by
      intro W hW
      have har:=hW.2.1.ar
      rw[hxx.2.1] at har
      have h1:=zeroC_any h.a _ M.l a n W har h64
      rw[show zerA M.l a n=(wrL M.l a.toNat (List.replicate n.toNat 0),0) by rw[zerA,if_pos hf]] at h1
      refine h1.mono ?_
      rintro e w2 ⟨rfl,ha2,hf2⟩
      obtain⟨p,q,h3,h4,hpq⟩:=fitB_nat hf
      have hlen:(wrL M.l a.toNat (List.replicate n.toNat 0)).length=N.l.length:=by rw[hxx.2.1];exact wrL_length _ _ _ (by rw[List.length_replicate];omega)
      exact⟨rfl,hW.then (hW.2.1.wrote ha2 hlen hf2 (.bool true))⟩
    have HC:Hid (∀ W,MRet h w (.pointer (some ⟨h.g,0,none⟩)) N (.bool true) (.returned (.bool true)) W→W.cell? ⟨h.g,1,none⟩=some (.pointer (some ⟨h.a.g,0,none⟩))):=fun W hW=>hW.2.1.cells.2.1
    clear hgn hf hfit hxx hm
    go_enter Tryz.func244,Tryz.ntmps244
    go_wp2_with fail
    refine HM.out.mono ?_
    rintro e w' ⟨rfl,rfl⟩
    go_wp2_with fail
    refine HR.out.mono ?_
    rintro e w1 hx
    obtain rfl:=hx.1
    have HR1:=Lib.hid (HRd.out w1 hx)
    have d1:=HC.out w1 hx
    clear hx HC HRd HR
    go_wp2_with fail
    refine HR1.out.mono ?_
    rintro e w2 ⟨rfl,hz⟩
    have HZ:=Lib.hid hz
    clear hz
    go_wp2
    go_ret
    exact HZ.out
  · obtain rfl:g=false:=by simpa using hg
    rw[if_neg (by decide)]
    have HF:Hid (∀ W,MRet h w (.pointer (some ⟨h.g,0,none⟩)) N (.bool false) (.returned (.bool false)) W→MRet h w (.pointer (some ⟨h.g,0,none⟩)) { N with l:=M.l } (.bool false) (.returned (.bool false)) W):=fun W hW=>by rw[←hxx.2.1];exact hW
    clear hgn hfit hxx hm
    go_enter Tryz.func244,Tryz.ntmps244
    go_wp2_with fail
    refine HM.out.mono ?_
    rintro e w' ⟨rfl,rfl⟩
    go_wp2_with fail
    refine HR.out.mono ?_
    rintro e w1 hx
    obtain rfl:=hx.1
    have HZ:=Lib.hid (HF.out w1 hx)
    clear hx HF HR
    go_wp2
    go_ret
    exact HZ.out
end Go.Proofs.YtmgeiaglandedaaGreatDoor.Mem
