/- The walk of IndexPlays. -/
import Derived.Test.YtmgeiaglandedaaGreatDoorJ32
import Derived.Deep.DeepCutAuto
import Derived.Deep.CutBlock
import Derived.Deep.CutRange
import Derived.Deep.RegionHeld3
namespace Go.Proofs.YtmgeiaglandedaaGreatDoor.Ind
open Go.RowKit Num
open Pro
open Mem (Mm MemC MRet Hm rd blkM)
open Sla (Sl St Lv pl aT pV Lo tkF Ts X0)
open Arn (wrL is64)
set_option linter.unusedVariables false
set_option maxRecDepth 100000
section
variable {h:Hm} {l lb lb':List Int} {T T':List Sl} {w0 w w' W W':World} {n g a x y i k k':Nat} {E:List Nat} {B:Nat→Bk} {hm K K':Nat→Nat} {e:Ending} {u v u' v':Value} {A A':List Rb} {b c:Rb} {T2:List Cel}
theorem Ps.same2 (P:Ps w0 h n T E B lb K g u v A k W):Calls Tryz.prog 39 #[pV h,.pointer (some ⟨g,0,none⟩)] W fun e W'=>e = .returned (.bool true)∧PsX w0 h n g k W' :=
  (same_any P.d.ix P.r P.d.lo).mono fun e W' q=>⟨q.1,(P.code (P.d.same (r:=.bool true) ⟨q.1,q.2.1,q.2.2⟩) q.2.2).ex⟩
theorem Ps.nth (P:Ps w0 h n T E B lb K g u v A k W) (hk:k≤1000) (h0:0<A.length) (N:Int) (h64:is64 N) :
    Calls Tryz.prog 28 #[.pointer (some ⟨g,0,none⟩),.int .i64 N] W fun e W'=>∃ i,i<A.length∧e = .returned (.tuple #[(A.getD i Rb.zero).agg,.bool true])∧Below W.heap.size W W' :=
  (nth_some P.r (Nat.le_trans P.ka hk) h0 N h64).mono fun e W' q=>⟨_,nthI_lt h0 N,q.1,q.2⟩
theorem Ps.start {w1 w3:World} (d:Wi w0 h n X0 [] B0 lb (fun _=>0) w1) (hn:n=w1.heap.size) (r:Rx w1.heap.size w3 g u v (List.replicate 224 (0,0)) []) (hb:Below w1.heap.size w1 w3):PsX w0 h n g 0 w3:=by
  subst hn
  have P:Ps w0 h w1.heap.size X0 [] B0 lb (fun _=>0) g u v [] 0 w3:=⟨d.below hb,by rw[←tbl_zero (hm:=hmB B0) (fun _ _=>rfl)];exact r,Fp.nil _,fun _ _=>rfl,Nat.le_refl _⟩
  exact P.ex
structure Bx (h:Hm) (g:Nat) (v:Value) (yb bb:Nat) (ycs bcs:Array Value) (V W:World):Prop where
  y:W.heap[yb]? = some (.cells ycs 64 (0,0))
  b:W.heap[bb]? = some (.cells bcs 62 (0,0))
  gy:g<yb∧(∀ q,v.ownBlock=some q→q<yb)∧(∀ q,blkM h q→q<yb)∧yb<bb
theorem Bx.ne {yb bb:Nat} {ycs bcs:Array Value} {V:World} (d:Bx h g v yb bb ycs bcs V W):¬ blkM h yb∧¬ blkM h bb∧yb<W.heap.size∧bb<W.heap.size :=
  ⟨fun q=>by have:=d.gy.2.2.1 _ q;omega,fun q=>by have:=d.gy.2.2.1 _ q;have:=d.gy.2.2.2;omega,(Array.getElem?_eq_some_iff.1 d.y).1,(Array.getElem?_eq_some_iff.1 d.b).1⟩
theorem Bx.fr {yb bb:Nat} {ycs bcs:Array Value} {V:World} (d:Bx h g v yb bb ycs bcs V W) (hf:Fr W.heap.size (blkM h) W W'):Bx h g v yb bb ycs bcs V W' :=
  ⟨(hf.block _ d.ne.2.2.1 d.ne.1).trans d.y,(hf.block _ d.ne.2.2.2 d.ne.2.1).trans d.b,d.gy⟩
theorem Bx.b6 {yb bb:Nat} {ycs:Array Value} {p:Int} {nd:Bool} {nm ty hs:Int} {lb:ByteArray} {V:World} (d:Bx h g v yb bb ycs #[.int .i64 p,.bool nd,.int .u32 nm,.int .u16 ty,.string lb,.int .u32 hs] V W) :
    W.cell? ⟨bb,0,none⟩=some (.int .i64 p)∧W.cell? ⟨bb,1,none⟩=some (.bool nd)∧W.cell? ⟨bb,2,none⟩=some (.int .u32 nm)∧W.cell? ⟨bb,3,none⟩=some (.int .u16 ty)∧W.cell? ⟨bb,4,none⟩=some (.string lb)∧W.cell? ⟨bb,5,none⟩=some (.int .u32 hs):=@box6 W W h _ _ _ _ _ _ _ d.b
theorem Bx.y8 {yb bb:Nat} {bcs:Array Value} {kd N p:Int} {nd:Bool} {nm ty hs:Int} {lb:ByteArray} {V:World} (d:Bx h g v yb bb #[.int .i64 kd,.int .i64 N,.int .i64 p,.bool nd,.int .u32 nm,.int .u16 ty,.string lb,.int .u32 hs] bcs V W) :
    W.cell? ⟨yb,0,none⟩=some (.int .i64 kd)∧W.cell? ⟨yb,1,none⟩=some (.int .i64 N)∧W.cell? ⟨yb,2,none⟩=some (.int .i64 p)∧W.cell? ⟨yb,3,none⟩=some (.bool nd)∧W.cell? ⟨yb,4,none⟩=some (.int .u32 nm)∧W.cell? ⟨yb,5,none⟩=some (.int .u16 ty)∧W.cell? ⟨yb,6,none⟩=some (.string lb)∧W.cell? ⟨yb,7,none⟩=some (.int .u32 hs):=@box8 W W h _ _ _ _ _ _ _ _ _ d.y
theorem zero_ty:Rb.zero.Ty:=⟨by unfold is64 Rb.zero;decide,by decide,by decide,by decide,by decide⟩
set_option maxHeartbeats 16000000 in
theorem indexPlays_walk (v:Value) (Q:List Act) (w:World) (ht:Ts w) (hr:ActRow w v Q) :
    Calls Tryz.prog 6 #[v] w fun e w'=>e = .returned (.bool true)∧Below w.heap.size w w':=by
  have HR:=Lib.hid hr
  have HTs:=Lib.hid ht
  have HNm:=Lib.hid (fun V (hv:Ts V)=>names_any V hv)
  have HFw:=Lib.hid (few_any v Q w hr)
  have HFr:=Lib.hid (fun V (hv:Ts V)=>fresh_any V hv)
  have HNw:=Lib.hid (fun V=>rnew_any V)
  obtain⟨ad,cap,U,rfl,q2,q3,q4,q5⟩:=hr
  have hc2:(Q.length:Int)≤9223372036854775807:=by omega
  clear U q4 q5 ht
  by_cases hL:120<Q.length
  · have hL1:(120:Int)<(Q.length:Int):=by omega
    go_enter Tryz.func6,Tryz.ntmps6
    go_wp2_with fail
    refine(HNm.out _ HTs.out).mono ?_
    rintro e w1 ⟨rfl,hb1⟩
    go_wp2
    go_ret
    exact⟨rfl,hb1⟩
  have hL0:¬ (120:Int)<(Q.length:Int):=by omega
  go_enter Tryz.func6,Tryz.ntmps6
  go_wp2_with fail
  refine HFw.out.mono ?_
  rintro e w1 ⟨⟨o,rfl,ho⟩,hb1⟩
  have HB1:=Lib.hid hb1
  cases o with
  | false =>
    clear hb1 ho HFw HFr HNw
    go_wp2_with fail
    refine(HNm.out _ (HTs.out.keep HB1.out)).mono ?_
    rintro e w2 ⟨rfl,hb2⟩
    have HE:=Lib.hid (HB1.out.trans (hb2.mono HB1.out.size))
    clear hb2
    go_wp2
    go_ret
    exact⟨rfl,HE.out⟩
  | true =>
    have HO:=Lib.hid (ho rfl)
    have HFr2:=Lib.hid (HFr.out w1 (HTs.out.keep hb1))
    clear hb1 ho HFw HFr
    unfold pV at HFr2
    go_wp2_with fail
    refine HFr2.out.mono ?_
    rintro e w3 ⟨h,lb3,rfl,hd3,hb3⟩
    have HD3:=Lib.hid hd3
    clear hb3 hd3 HFr2
    go_wp2_with fail
    refine(HNw.out _).mono ?_
    rintro e w4 ⟨g,u,rfl,hr4,hb4⟩
    have HP4:=Lib.hid (Ps.start HD3.out rfl hr4 hb4)
    generalize w3.heap.size=n1 at HP4
    clear hr4 hb4 HD3 HNw
    go_wp2
    go_loopw [5] (fun i wr=>∃ k:Nat,k≤Q.length∧i = .int .i64 k∧Hid (PsX w1 h n1 g k wr)) (fun i _=>Q.length-(intOf i).toNat)
    case atStart=>exact⟨0,Nat.zero_le _,rfl,HP4.out⟩
    case round =>
      clear HP4
      obtain⟨k,hk,rfl,HPx⟩:=hrel
      by_cases hlt:k<Q.length
      · have hlt1:(k:Int)<(Q.length:Int):=by omega
        have hlt0:(0:Int)≤(k:Int):=by omega
        have hk9:k≤120:=by omega
        have hkw:IntKind.i64.wrap ((k:Int)+1)=((k+1:Nat):Int):=(Ind.wrap_id (by omega) (by omega)).trans (by omega)
        obtain⟨T,E,B,lb,K,u,v,A,hP⟩:=HPx.out
        obtain⟨rb,off,rfl,hty,hik,hin,hc⟩:=HR.out.at (HB1.out.trans (hP.d.b.mono HB1.out.size)) hlt
        have hfew:=HO.out.2 k hlt
        obtain⟨x,hx⟩:∃ x,x=Q.getD k Act.zero:=⟨_,rfl⟩
        rw[←hx] at hty hik hin hc hfew
        obtain⟨kd,N,c⟩:=x
        simp only at hty hik hin hfew
        have HTy:=Lib.hid hty
        have HFe:=Lib.hid hfew
        have HN64:=Lib.hid hin
        have d0:World.cell? wr ⟨rb,off+k*8,none⟩=some (.int .i64 kd):=hc 0 _ rfl
        have d1:World.cell? wr ⟨rb,off+k*8+1,none⟩=some (.int .i64 N):=hc 1 _ rfl
        have d2:World.cell? wr ⟨rb,off+k*8+2,none⟩=some (.int .i64 c.pos):=hc 2 _ rfl
        have d3:World.cell? wr ⟨rb,off+k*8+3,none⟩=some (.bool c.node):=hc 3 _ rfl
        have d4:World.cell? wr ⟨rb,off+k*8+4,none⟩=some (.int .u32 (c.name:Int)):=hc 4 _ rfl
        have d5:World.cell? wr ⟨rb,off+k*8+5,none⟩=some (.int .u16 (c.typ:Int)):=hc 5 _ rfl
        have d6:World.cell? wr ⟨rb,off+k*8+6,none⟩=some (.string c.lab):=hc 6 _ rfl
        have d7:World.cell? wr ⟨rb,off+k*8+7,none⟩=some (.int .u32 (c.hash:Int)):=hc 7 _ rfl
        obtain⟨wa,hwa⟩:∃ wa,wa=wr.alloc (.cells #[.int .i64 kd,.int .i64 N,.int .i64 c.pos,.bool c.node,.int .u32 (c.name:Int),.int .u16 (c.typ:Int),.string c.lab,.int .u32 (c.hash:Int)] 64):=⟨_,rfl⟩
        have hg8:wa.heap[wr.heap.size]? = some (.cells #[.int .i64 kd,.int .i64 N,.int .i64 c.pos,.bool c.node,.int .u32 (c.name:Int),.int .u16 (c.typ:Int),.string c.lab,.int .u32 (c.hash:Int)] 64 (0,0)):=by rw[hwa];exact heap_alloc_new _ _
        have hPa:=hP.below (below_made wr (.cells #[.int .i64 kd,.int .i64 N,.int .i64 c.pos,.bool c.node,.int .u32 (c.name:Int),.int .u16 (c.typ:Int),.string c.lab,.int .u32 (c.hash:Int)] 64))
        rw[←hwa] at hPa
        have hgy:g<wr.heap.size∧(∀ q,v.ownBlock=some q→q<wr.heap.size)∧(∀ q,blkM h q→q<wr.heap.size):=⟨(Array.getElem?_eq_some_iff.1 hP.r.box).1,hP.r.b.lt,hP.d.lt⟩
        obtain⟨yb,hyb⟩:∃ yb,yb=wr.heap.size:=⟨_,rfl⟩
        rw[←hyb] at hg8 hgy
        obtain⟨c0,c1,c2,c3,c4,c5,c6,c7⟩:=@box8 wa wa h _ _ _ _ _ _ _ _ _ hg8
        have hyl:yb<wa.heap.size:=(Array.getElem?_eq_some_iff.1 hg8).1
        have HPa:=Lib.hid hPa
        have HGy:Hid ((g<yb∧(∀ q,v.ownBlock=some q→q<yb)∧(∀ q,blkM h q→q<yb))∧wa.heap[yb]? = some (.cells #[.int .i64 kd,.int .i64 N,.int .i64 c.pos,.bool c.node,.int .u32 (c.name:Int),.int .u16 (c.typ:Int),.string c.lab,.int .u32 (c.hash:Int)] 64 (0,0))):=⟨hgy,hg8⟩
        clear hx hc hty hfew hin hP HPx hPa hgy hg8 HO HR
        go_upto_region 8 with fail
        rw[←hwa,←hyb]
        clear hwa hyb d0 d1 d2 d3 d4 d5 d6 d7
        go_cut [7,8] (fun s7 s8 wc=>∃ bb,s7 = .pointer (some ⟨bb,0,none⟩)∧Hid (Ps w1 h n1 T E B lb K g u v A k wc)∧((∃ i,s8 = .bool true∧i<A.length∧Hid (Bx h g v yb bb #[.int .i64 kd,.int .i64 N,.int .i64 c.pos,.bool c.node,.int .u32 (c.name:Int),.int .u16 (c.typ:Int),.string c.lab,.int .u32 (c.hash:Int)] #[.int .i64 (A.getD i Rb.zero).pos,.bool (A.getD i Rb.zero).node,.int .u32 ((A.getD i Rb.zero).name:Int),.int .u16 ((A.getD i Rb.zero).typ:Int),.string (A.getD i Rb.zero).lab,.int .u32 ((A.getD i Rb.zero).hash:Int)] wa wc))∨(s8 = .bool false∧Hid (Bx h g v yb bb #[.int .i64 kd,.int .i64 N,.int .i64 c.pos,.bool c.node,.int .u32 (c.name:Int),.int .u16 (c.typ:Int),.string c.lab,.int .u32 (c.hash:Int)] #[.int .i64 0,.bool false,.int .u32 0,.int .u16 0,.string { data := #[] },.int .u32 0] wa wc))))
        case first =>
          by_cases hA0:0<A.length
          · have HNt:=Lib.hid (HPa.out.nth (by omega) hA0 N HN64.out)
            clear hA0 hkw
            go_wp2_with fail
            refine HNt.out.mono ?_
            rintro e w5 ⟨i,hi,rfl,hb5⟩
            have HI:Hid (i<A.length):=hi
            have hP5:=HPa.out.below hb5
            have hal:=below_made w5 (.cells #[.int .i64 (A.getD i Rb.zero).pos,.bool (A.getD i Rb.zero).node,.int .u32 ((A.getD i Rb.zero).name:Int),.int .u16 ((A.getD i Rb.zero).typ:Int),.string (A.getD i Rb.zero).lab,.int .u32 ((A.getD i Rb.zero).hash:Int)] 62)
            have hy5:=(hb5.block _ hyl).trans HGy.out.2
            have hyl5:=(Array.getElem?_eq_some_iff.1 hy5).1
            have HE:Hid (Ps w1 h n1 T E B lb K g u v A k (w5.alloc (.cells #[.int .i64 (A.getD i Rb.zero).pos,.bool (A.getD i Rb.zero).node,.int .u32 ((A.getD i Rb.zero).name:Int),.int .u16 ((A.getD i Rb.zero).typ:Int),.string (A.getD i Rb.zero).lab,.int .u32 ((A.getD i Rb.zero).hash:Int)] 62))∧Bx h g v yb w5.heap.size #[.int .i64 kd,.int .i64 N,.int .i64 c.pos,.bool c.node,.int .u32 (c.name:Int),.int .u16 (c.typ:Int),.string c.lab,.int .u32 (c.hash:Int)] #[.int .i64 (A.getD i Rb.zero).pos,.bool (A.getD i Rb.zero).node,.int .u32 ((A.getD i Rb.zero).name:Int),.int .u16 ((A.getD i Rb.zero).typ:Int),.string (A.getD i Rb.zero).lab,.int .u32 ((A.getD i Rb.zero).hash:Int)] wa (w5.alloc (.cells #[.int .i64 (A.getD i Rb.zero).pos,.bool (A.getD i Rb.zero).node,.int .u32 ((A.getD i Rb.zero).name:Int),.int .u16 ((A.getD i Rb.zero).typ:Int),.string (A.getD i Rb.zero).lab,.int .u32 ((A.getD i Rb.zero).hash:Int)] 62))):=⟨hP5.below hal,(hal.block _ hyl5).trans hy5,heap_alloc_new _ _,HGy.out.1.1,HGy.out.1.2.1,HGy.out.1.2.2,hyl5⟩
            unfold Rb.agg
            clear hP5 hal hy5 hyl5 hb5 HNt HPa HGy c0 c1 c2 c3 c4 c5 c6 c7 hi
            go_wp2
            go_meet
            exact⟨_,rfl,HE.out.1,.inl ⟨i,rfl,HI.out,HE.out.2⟩⟩
          · have hAe:A = []:=List.length_eq_zero_iff.1 (by omega)
            subst hAe
            have HNt:=Lib.hid (nth_none HPa.out.r N)
            clear hA0 hkw
            go_wp2_with fail
            refine HNt.out.mono ?_
            rintro e w5 ⟨rfl,hb5⟩
            have hP5:=HPa.out.below hb5
            have hal:=below_made w5 (.cells #[.int .i64 0,.bool false,.int .u32 0,.int .u16 0,.string { data := #[] },.int .u32 0] 62)
            have hy5:=(hb5.block _ hyl).trans HGy.out.2
            have hyl5:=(Array.getElem?_eq_some_iff.1 hy5).1
            have HE:Hid (Ps w1 h n1 T E B lb K g u v [] k (w5.alloc (.cells #[.int .i64 0,.bool false,.int .u32 0,.int .u16 0,.string { data := #[] },.int .u32 0] 62))∧Bx h g v yb w5.heap.size #[.int .i64 kd,.int .i64 N,.int .i64 c.pos,.bool c.node,.int .u32 (c.name:Int),.int .u16 (c.typ:Int),.string c.lab,.int .u32 (c.hash:Int)] #[.int .i64 0,.bool false,.int .u32 0,.int .u16 0,.string { data := #[] },.int .u32 0] wa (w5.alloc (.cells #[.int .i64 0,.bool false,.int .u32 0,.int .u16 0,.string { data := #[] },.int .u32 0] 62))):=⟨hP5.below hal,(hal.block _ hyl5).trans hy5,heap_alloc_new _ _,HGy.out.1.1,HGy.out.1.2.1,HGy.out.1.2.2,hyl5⟩
            clear hP5 hal hy5 hyl5 hb5 HNt HPa HGy c0 c1 c2 c3 c4 c5 c6 c7
            go_wp2
            go_meet
            exact⟨_,rfl,HE.out.1,.inr ⟨rfl,HE.out.2⟩⟩
        case rest =>
          obtain⟨bb,rfl,HP5,hcs⟩:=hcut
          clear HPa HGy c0 c1 c2 c3 c4 c5 c6 c7 hyl HTs
          have e0:wc.cell? ⟨yb,0,none⟩=some (.int .i64 kd):=by
            rcases hcs with⟨i,-,-,HBx⟩ | ⟨-,HBx⟩
            · exact HBx.out.y8.1
            · exact HBx.out.y8.1
          go_upto_block 2 with fail
          clear e0
          go_cut [9,10,11,12,13] from 30 to 187 (fun ok s10 s11 s12 s13 wx=>ok = .bool true∧Hid (PsX w1 h n1 g (k+1) wx))
          case first =>
            clear hkw hlt1 hlt0
            have HGg:Hid (g<bb):=by
              rcases hcs with⟨i,-,-,HBx⟩ | ⟨-,HBx⟩
              · have:=HBx.out.gy;unfold Hid;omega
              · have:=HBx.out.gy;unfold Hid;omega
            by_cases q2:kd=2
            · subst q2
              as_aux_lemma =>
                rcases hcs with⟨i,rfl,hi,HBx⟩ | ⟨rfl,HBx⟩
                · have HO1:=Lib.hid (fun V (hV:Ps w1 h n1 T E B lb K g u v A k V)=>hV.delete hi (by omega))
                  obtain⟨e0,e1,e2,e3,e4,e5,e6,e7⟩:=HBx.out.y8
                  obtain⟨c0,c1,c2,c3,c4,c5⟩:=HBx.out.b6
                  have hbl:=HBx.out.ne.2
                  have hP5:=HP5.out
                  generalize (A.getD i Rb.zero).pos=z at *
                  unfold pV at HO1
                  clear c1 c2 c3 c4 c5 e1 e2 e3 e4 e5 e6 e7 HBx hi HP5 HTy HFe HN64
                  go_upto_region 17 with fail
                  clear e0
                  go_region_held3 (fun V=>V.cell? ⟨bb,0,none⟩=some (.int .i64 z)) (first | exact c0 | go_keep) ((first
                    | (go_at_call 29;refine(HO1.out _ (by first | exact hP5 | exact hP5.drew)).mono ?_;rintro e w6 ⟨r,rfl,hf6,hc6⟩;have c6:=(show World.cell? w6 ⟨bb,0,none⟩=some (.int .i64 z) from hf6.cell c0 hbl.2.2 hbl.1);clear c0;have c0:=c6)
                    | (go_at_call 30;refine(hc6 _ (by first | exact Below.refl _ _ | exact(Below.refl _ _).drew)).mono ?_;rintro e w7 ⟨rfl,hf7,K7,u7,hP7⟩;have c8:=(show World.cell? w7 ⟨bb,0,none⟩=some (.int .i64 z) from hf7.cell c0 (Nat.lt_of_lt_of_le hbl.2.2 hf6.size) (by have:=HGg.out;omega));clear c0;have c0:=c8)))
                  all_goals
                    have HR:Hid (PsX w1 h n1 g (k+1) w7):=(hP7.next (Nat.le_succ k)).ex
                    have t1:(r == r)=true:=by simp
                    clear hP7 hf7 hf6 hc6 c0 c6 c8 HO1 hP5
                    go_wp2_with fail
                    go_meet
                    exact⟨by first | rfl | simp,HR.out⟩
                · have hP5:=HP5.out
                  obtain⟨e0,e1,e2,e3,e4,e5,e6,e7⟩:=HBx.out.y8
                  clear e1 e2 e3 e4 e5 e6 e7 HBx HP5 HTy HFe HN64
                  go_upto_region 17 with fail
                  go_quiet (fail)
                  have HR:Hid (PsX w1 h n1 g (k+1) (wc.drewN nq)):=((hP5.below (below_drewN (Below.refl _ _) nq)).next (Nat.le_succ k)).ex
                  generalize wc.drewN nq=wz at HR ⊢
                  clear e0 hP5
                  go_wp2_with fail
                  go_meet
                  exact⟨by first | rfl | simp,HR.out⟩
            have b2:(kd == 2)=false:=by rw[beq_eq_false_iff_ne];exact q2
            by_cases q3:kd=3
            · subst q3
              as_aux_lemma =>
                rcases hcs with⟨i,rfl,hi,HBx⟩ | ⟨rfl,HBx⟩
                · have HO1:=Lib.hid (fun V (hV:Ps w1 h n1 T E B lb K g u v A k V)=>hV.delete hi (by omega))
                  obtain⟨e0,e1,e2,e3,e4,e5,e6,e7⟩:=HBx.out.y8
                  obtain⟨c0,c1,c2,c3,c4,c5⟩:=HBx.out.b6
                  have hbl:=HBx.out.ne.2
                  have hP5:=HP5.out
                  generalize (A.getD i Rb.zero).pos=z at *
                  unfold pV at HO1
                  clear c1 c2 c3 c4 c5 e1 e2 e3 e4 e5 e6 e7 HBx hi HP5 HTy HFe HN64
                  go_upto_region 17 with fail
                  clear e0
                  go_region_held3 (fun V=>V.cell? ⟨bb,0,none⟩=some (.int .i64 z)) (first | exact c0 | go_keep) ((first
                    | (go_at_call 29;refine(HO1.out _ (by first | exact hP5 | exact hP5.drew)).mono ?_;rintro e w6 ⟨r,rfl,hf6,hc6⟩;have c6:=(show World.cell? w6 ⟨bb,0,none⟩=some (.int .i64 z) from hf6.cell c0 hbl.2.2 hbl.1);clear c0;have c0:=c6)
                    | (go_at_call 30;refine(hc6 _ (by first | exact Below.refl _ _ | exact(Below.refl _ _).drew)).mono ?_;rintro e w7 ⟨rfl,hf7,K7,u7,hP7⟩;have c8:=(show World.cell? w7 ⟨bb,0,none⟩=some (.int .i64 z) from hf7.cell c0 (Nat.lt_of_lt_of_le hbl.2.2 hf6.size) (by have:=HGg.out;omega));clear c0;have c0:=c8)))
                  all_goals
                    have HR:Hid (PsX w1 h n1 g (k+1) w7):=(hP7.next (Nat.le_succ k)).ex
                    have t1:(r == r)=true:=by simp
                    clear hP7 hf7 hf6 hc6 c0 c6 c8 HO1 hP5
                    go_wp2_with fail
                    go_meet
                    exact⟨by first | rfl | simp,HR.out⟩
                · have hP5:=HP5.out
                  obtain⟨e0,e1,e2,e3,e4,e5,e6,e7⟩:=HBx.out.y8
                  clear e1 e2 e3 e4 e5 e6 e7 HBx HP5 HTy HFe HN64
                  go_upto_region 17 with fail
                  go_quiet (fail)
                  have HR:Hid (PsX w1 h n1 g (k+1) (wc.drewN nq)):=((hP5.below (below_drewN (Below.refl _ _) nq)).next (Nat.le_succ k)).ex
                  generalize wc.drewN nq=wz at HR ⊢
                  clear e0 hP5
                  go_wp2_with fail
                  go_meet
                  exact⟨by first | rfl | simp,HR.out⟩
            have b3:(kd == 3)=false:=by rw[beq_eq_false_iff_ne];exact q3
            by_cases q4:kd=4
            · subst q4
              as_aux_lemma =>
                rcases hcs with⟨i,rfl,hi,HBx⟩ | ⟨rfl,HBx⟩
                · have HO1:=Lib.hid (fun V (hV:Ps w1 h n1 T E B lb K g u v A k V)=>hV.insert hi (by omega))
                  obtain⟨e0,e1,e2,e3,e4,e5,e6,e7⟩:=HBx.out.y8
                  obtain⟨c0,c1,c2,c3,c4,c5⟩:=HBx.out.b6
                  have hbl:=HBx.out.ne.2
                  have hP5:=HP5.out
                  generalize (A.getD i Rb.zero).pos=z at *
                  unfold pV at HO1
                  clear c1 c2 c3 c4 c5 e1 e2 e3 e4 e5 e6 e7 HBx hi HP5 HTy HFe HN64
                  go_upto_region 19 with fail
                  clear e0
                  go_region_held3 (fun V=>V.cell? ⟨bb,0,none⟩=some (.int .i64 z)) (first | exact c0 | go_keep) ((first
                    | (go_at_call 31;refine(HO1.out _ (by first | exact hP5 | exact hP5.drew)).mono ?_;rintro e w6 ⟨r,rfl,hf6,hc6⟩;have c6:=(show World.cell? w6 ⟨bb,0,none⟩=some (.int .i64 z) from hf6.cell c0 hbl.2.2 hbl.1);clear c0;have c0:=c6)
                    | (go_at_call 32;refine(hc6 _ (by first | exact Below.refl _ _ | exact(Below.refl _ _).drew)).mono ?_;rintro e w7 ⟨rfl,hf7,K7,u7,hP7⟩;have c8:=(show World.cell? w7 ⟨bb,0,none⟩=some (.int .i64 z) from hf7.cell c0 (Nat.lt_of_lt_of_le hbl.2.2 hf6.size) (by have:=HGg.out;omega));clear c0;have c0:=c8)))
                  all_goals
                    have HR:Hid (PsX w1 h n1 g (k+1) w7):=(hP7.next (Nat.le_succ k)).ex
                    have t1:(r == r)=true:=by simp
                    clear hP7 hf7 hf6 hc6 c0 c6 c8 HO1 hP5
                    go_wp2_with fail
                    go_meet
                    exact⟨by first | rfl | simp,HR.out⟩
                · have hP5:=HP5.out
                  obtain⟨e0,e1,e2,e3,e4,e5,e6,e7⟩:=HBx.out.y8
                  clear e1 e2 e3 e4 e5 e6 e7 HBx HP5 HTy HFe HN64
                  go_upto_region 19 with fail
                  go_quiet (fail)
                  have HR:Hid (PsX w1 h n1 g (k+1) (wc.drewN nq)):=((hP5.below (below_drewN (Below.refl _ _) nq)).next (Nat.le_succ k)).ex
                  generalize wc.drewN nq=wz at HR ⊢
                  clear e0 hP5
                  go_wp2_with fail
                  go_meet
                  exact⟨by first | rfl | simp,HR.out⟩
            have b4:(kd == 4)=false:=by rw[beq_eq_false_iff_ne];exact q4
            by_cases q5:kd=5
            · subst q5
              as_aux_lemma =>
                rcases hcs with⟨i,rfl,hi,HBx⟩ | ⟨rfl,HBx⟩
                · have HM:=Lib.hid (moved_any HP5.out hi (by omega))
                  obtain⟨e0,e1,e2,e3,e4,e5,e6,e7⟩:=HBx.out.y8
                  obtain⟨c0,c1,c2,c3,c4,c5⟩:=HBx.out.b6
                  unfold Rb.agg at HM
                  unfold pV at HM
                  clear e1 e2 e3 e4 e5 e6 e7 HBx hi HP5 HTy HFe HN64
                  go_wp2_with fail
                  refine HM.out.mono ?_
                  rintro e w6 ⟨rfl,hx6⟩
                  have HR:=Lib.hid hx6
                  clear hx6 HM c0 c1 c2 c3 c4 c5 e0
                  go_wp2_with fail
                  go_meet
                  exact⟨rfl,HR.out⟩
                · have HR:Hid (PsX w1 h n1 g (k+1) wc):=(HP5.out.next (Nat.le_succ k)).ex
                  obtain⟨e0,e1,e2,e3,e4,e5,e6,e7⟩:=HBx.out.y8
                  clear e1 e2 e3 e4 e5 e6 e7 HBx HP5 HTy HFe HN64
                  go_wp2_with fail
                  go_meet
                  exact⟨by first | rfl | simp,HR.out⟩
            have b5:(kd == 5)=false:=by rw[beq_eq_false_iff_ne];exact q5
            by_cases q6:kd=6
            · subst q6
              as_aux_lemma =>
                obtain⟨bf,hty,HBx⟩:∃ bf:Rb,bf.Ty∧Hid (Bx h g v yb bb #[.int .i64 6,.int .i64 N,.int .i64 c.pos,.bool c.node,.int .u32 (c.name:Int),.int .u16 (c.typ:Int),.string c.lab,.int .u32 (c.hash:Int)] #[.int .i64 bf.pos,.bool bf.node,.int .u32 (bf.name:Int),.int .u16 (bf.typ:Int),.string bf.lab,.int .u32 (bf.hash:Int)] wa wc):=by
                  rcases hcs with⟨i,-,hi,HBx⟩ | ⟨-,HBx⟩
                  · exact⟨A.getD i Rb.zero,(HP5.out.f.fw _ (memR hi)).2,HBx⟩
                  · exact⟨Rb.zero,zero_ty,HBx⟩
                have HL:=Lib.hid (fun V b (hb:Rb.Ty b) (hV:Ps w1 h n1 T E B lb K g u v A k V)=>looked_any hV (by omega) b hb)
                obtain⟨e0,e1,e2,e3,e4,e5,e6,e7⟩:=HBx.out.y8
                obtain⟨c0,c1,c2,c3,c4,c5⟩:=HBx.out.b6
                have HL1:=Lib.hid (HL.out wc bf hty HP5.out)
                unfold Rb.agg at HL HL1
                unfold pV at HL HL1
                clear e1 e2 e3 e4 e5 e6 e7 hcs HFe HN64 hty HP5
                go_wp2_with fail
                refine HL1.out.mono ?_
                rintro e w6 ⟨rfl,hP6,hf6⟩
                have HBy:=Lib.hid (HBx.out.fr hf6)
                obtain⟨e0',e1,e2,e3,e4,e5,e6,e7⟩:=HBy.out.y8
                have HL2:=Lib.hid (HL.out w6 c HTy.out hP6)
                clear hP6 hf6 HL1 HBx HL c0 c1 c2 c3 c4 c5 e0 HBy
                go_wp2_with fail
                refine HL2.out.mono ?_
                rintro e w7 ⟨rfl,hP7,hf7⟩
                have HR:Hid (PsX w1 h n1 g (k+1) w7):=(hP7.next (Nat.le_succ k)).ex
                clear hP7 hf7 HL2 e0' e1 e2 e3 e4 e5 e6 e7
                go_wp2_with fail
                go_meet
                exact⟨rfl,HR.out⟩
            have b6:(kd == 6)=false:=by rw[beq_eq_false_iff_ne];exact q6
            by_cases q7:kd=7
            · subst q7
              as_aux_lemma =>
                obtain⟨bf,hty,HBx⟩:∃ bf:Rb,bf.Ty∧Hid (Bx h g v yb bb #[.int .i64 7,.int .i64 N,.int .i64 c.pos,.bool c.node,.int .u32 (c.name:Int),.int .u16 (c.typ:Int),.string c.lab,.int .u32 (c.hash:Int)] #[.int .i64 bf.pos,.bool bf.node,.int .u32 (bf.name:Int),.int .u16 (bf.typ:Int),.string bf.lab,.int .u32 (bf.hash:Int)] wa wc):=by
                  rcases hcs with⟨i,-,hi,HBx⟩ | ⟨-,HBx⟩
                  · exact⟨A.getD i Rb.zero,(HP5.out.f.fw _ (memR hi)).2,HBx⟩
                  · exact⟨Rb.zero,zero_ty,HBx⟩
                have HL:=Lib.hid (fun V b (hb:Rb.Ty b) (hV:Ps w1 h n1 T E B lb K g u v A k V)=>looked_any hV (by omega) b hb)
                obtain⟨e0,e1,e2,e3,e4,e5,e6,e7⟩:=HBx.out.y8
                obtain⟨c0,c1,c2,c3,c4,c5⟩:=HBx.out.b6
                have HL1:=Lib.hid (HL.out wc bf hty HP5.out)
                unfold Rb.agg at HL HL1
                unfold pV at HL HL1
                clear e1 e2 e3 e4 e5 e6 e7 hcs HFe HN64 hty HP5
                go_wp2_with fail
                refine HL1.out.mono ?_
                rintro e w6 ⟨rfl,hP6,hf6⟩
                have HBy:=Lib.hid (HBx.out.fr hf6)
                obtain⟨e0',e1,e2,e3,e4,e5,e6,e7⟩:=HBy.out.y8
                have HL2:=Lib.hid (HL.out w6 c HTy.out hP6)
                clear hP6 hf6 HL1 HBx HL c0 c1 c2 c3 c4 c5 e0 HBy
                go_wp2_with fail
                refine HL2.out.mono ?_
                rintro e w7 ⟨rfl,hP7,hf7⟩
                have HR:Hid (PsX w1 h n1 g (k+1) w7):=(hP7.next (Nat.le_succ k)).ex
                clear hP7 hf7 HL2 e0' e1 e2 e3 e4 e5 e6 e7
                go_wp2_with fail
                go_meet
                exact⟨rfl,HR.out⟩
            have b7:(kd == 7)=false:=by rw[beq_eq_false_iff_ne];exact q7
            by_cases q8:kd=8
            · subst q8
              as_aux_lemma =>
                obtain⟨bcs,HBx⟩:∃ bcs,Hid (Bx h g v yb bb #[.int .i64 8,.int .i64 N,.int .i64 c.pos,.bool c.node,.int .u32 (c.name:Int),.int .u16 (c.typ:Int),.string c.lab,.int .u32 (c.hash:Int)] bcs wa wc):=by
                  rcases hcs with⟨i,-,hi,HBx⟩ | ⟨-,HBx⟩
                  · exact⟨_,HBx⟩
                  · exact⟨_,HBx⟩
                obtain⟨e0,e1,e2,e3,e4,e5,e6,e7⟩:=HBx.out.y8
                have HKi:=Lib.hid (HP5.out.d.kind 4 HN64.out)
                have HNb:Hid (Wat.kndA (Rin.kX 7 224 T) N 4≠5→NoB (fx h T E B lb) N):=fun hq=>noB_of HN64.out hq
                generalize Wat.kndA (Rin.kX 7 224 T) N 4=kv at HKi HNb
                unfold pV at HKi
                clear e2 e3 e4 e5 e6 e7 hcs HFe
                go_wp2_with fail
                refine HKi.out.mono ?_
                rintro e w6 ⟨rfl,hd6,hf6⟩
                have HP6:=Lib.hid (HP5.out.code hd6 hf6)
                have HB6:=Lib.hid (HBx.out.fr hf6)
                clear hd6 hf6 HKi e0 e1 HBx HP5
                by_cases h5:kv=5
                · have t5:(kv != 5)=false:=by simp[h5]
                  have HR:Hid (PsX w1 h n1 g (k+1) w6):=(HP6.out.next (Nat.le_succ k)).ex
                  clear HNb h5 HP6 HB6
                  go_wp2_with fail
                  go_meet
                  exact⟨rfl,HR.out⟩
                have t5:(kv != 5)=true:=by simp[h5]
                have hNB:=HNb.out h5
                have HPl:=Lib.hid (HP6.out.d.placeW hNB)
                have HIn:=Lib.hid (fun V (hV:Ps w1 h n1 T E B lb K g u v A k V)=>hV.d.insertW hNB)
                have HDe:=Lib.hid (fun V (hV:Ps w1 h n1 T E B lb K g u v A k V)=>hV.d.deleteW hNB)
                have HMo:=Lib.hid (fun V (hV:Ps w1 h n1 T E B lb K g u v A k V)=>hV.d.moveW hNB N)
                unfold pV at HPl HIn HDe HMo
                obtain⟨e0,e1,e2,e3,e4,e5,e6,e7⟩:=HB6.out.y8
                clear e0 e2 e3 e4 e5 e6 e7 HNb h5
                have hc3:(kv≠6)∨(kv=6∧N.tmod 16=0)∨(kv=6∧N.tmod 16≠0):=by
                  by_cases q:kv=6
                  · by_cases q2:N.tmod 16=0
                    · exact .inr (.inl ⟨q,q2⟩)
                    · exact .inr (.inr ⟨q,q2⟩)
                  · exact .inl q
                rcases hc3 with q6 | ⟨q6,qm⟩ | ⟨q6,qm⟩
                rotate_left 2
                · have t6:(kv != 6)=false:=by simp[q6]
                  have t7:(N.tmod 16 == 0)=false:=by simpa using qm
                  have HR:Hid (PsX w1 h n1 g (k+1) w6):=(HP6.out.next (Nat.le_succ k)).ex
                  clear q6 qm HP6 HB6 HPl HIn HDe HMo
                  go_wp2_with fail
                  go_meet
                  exact⟨rfl,HR.out⟩
                · have t6:(kv != 6)=true:=by simp[q6]
                  clear q6
                  go_wp2_with fail
                  refine HPl.out.mono ?_
                  rintro e w7 ⟨rfl,hd7,hf7⟩
                  have HP7:=Lib.hid (HP6.out.code hd7 hf7)
                  have HB7:=Lib.hid (HB6.out.fr hf7)
                  clear hd7 hf7 HPl e1 HP6 HB6
                  obtain⟨e0,e1,e2,e3,e4,e5,e6,e7⟩:=HB7.out.y8
                  clear e0 e2 e3 e4 e5 e6 e7
                  go_wp2_with fail
                  refine(HIn.out _ HP7.out).mono ?_
                  rintro e w8 ⟨rfl,hd8,hf8⟩
                  have HP8:=Lib.hid (HP7.out.code hd8 hf8)
                  have HB8:=Lib.hid (HB7.out.fr hf8)
                  clear hd8 hf8 HIn e1 HP7 HB7
                  obtain⟨e0,e1,e2,e3,e4,e5,e6,e7⟩:=HB8.out.y8
                  clear e0 e2 e3 e4 e5 e6 e7
                  go_wp2_with fail
                  refine(HDe.out _ HP8.out).mono ?_
                  rintro e w9 ⟨rfl,hd9,hf9⟩
                  have HP9:=Lib.hid (HP8.out.code hd9 hf9)
                  have HB9:=Lib.hid (HB8.out.fr hf9)
                  clear hd9 hf9 HDe e1 HP8 HB8
                  obtain⟨e0,e1,e2,e3,e4,e5,e6,e7⟩:=HB9.out.y8
                  clear e0 e2 e3 e4 e5 e6 e7
                  go_wp2_with fail
                  refine(HMo.out _ HP9.out).mono ?_
                  rintro e w10 ⟨rfl,hd10,hf10⟩
                  have HR:Hid (PsX w1 h n1 g (k+1) w10):=((HP9.out.code hd10 hf10).next (Nat.le_succ k)).ex
                  clear hd10 hf10 HMo e1 HP9 HB9
                  go_wp2_with fail
                  go_meet
                  exact⟨by first | rfl | simp,HR.out⟩
                · have t6:(kv != 6)=false:=by simp[q6]
                  have t7:(N.tmod 16 == 0)=true:=by simpa using qm
                  clear q6 qm
                  go_wp2_with fail
                  refine HPl.out.mono ?_
                  rintro e w7 ⟨rfl,hd7,hf7⟩
                  have HP7:=Lib.hid (HP6.out.code hd7 hf7)
                  have HB7:=Lib.hid (HB6.out.fr hf7)
                  clear hd7 hf7 HPl e1 HP6 HB6
                  obtain⟨e0,e1,e2,e3,e4,e5,e6,e7⟩:=HB7.out.y8
                  clear e0 e2 e3 e4 e5 e6 e7
                  go_wp2_with fail
                  refine(HIn.out _ HP7.out).mono ?_
                  rintro e w8 ⟨rfl,hd8,hf8⟩
                  have HP8:=Lib.hid (HP7.out.code hd8 hf8)
                  have HB8:=Lib.hid (HB7.out.fr hf8)
                  clear hd8 hf8 HIn e1 HP7 HB7
                  obtain⟨e0,e1,e2,e3,e4,e5,e6,e7⟩:=HB8.out.y8
                  clear e0 e2 e3 e4 e5 e6 e7
                  go_wp2_with fail
                  refine(HDe.out _ HP8.out).mono ?_
                  rintro e w9 ⟨rfl,hd9,hf9⟩
                  have HP9:=Lib.hid (HP8.out.code hd9 hf9)
                  have HB9:=Lib.hid (HB8.out.fr hf9)
                  clear hd9 hf9 HDe e1 HP8 HB8
                  obtain⟨e0,e1,e2,e3,e4,e5,e6,e7⟩:=HB9.out.y8
                  clear e0 e2 e3 e4 e5 e6 e7
                  go_wp2_with fail
                  refine(HMo.out _ HP9.out).mono ?_
                  rintro e w10 ⟨rfl,hd10,hf10⟩
                  have HR:Hid (PsX w1 h n1 g (k+1) w10):=((HP9.out.code hd10 hf10).next (Nat.le_succ k)).ex
                  clear hd10 hf10 HMo e1 HP9 HB9
                  go_wp2_with fail
                  go_meet
                  exact⟨by first | rfl | simp,HR.out⟩
            have b8:(kd == 8)=false:=by rw[beq_eq_false_iff_ne];exact q8
            clear q2 q3 q4 q5 q6 q7 q8
            obtain⟨bcs,HBx⟩:∃ bcs,Hid (Bx h g v yb bb #[.int .i64 kd,.int .i64 N,.int .i64 c.pos,.bool c.node,.int .u32 (c.name:Int),.int .u16 (c.typ:Int),.string c.lab,.int .u32 (c.hash:Int)] bcs wa wc):=by
              rcases hcs with⟨i,-,hi,HBx⟩ | ⟨-,HBx⟩
              · exact⟨_,HBx⟩
              · exact⟨_,HBx⟩
            obtain⟨e0,e1,e2,e3,e4,e5,e6,e7⟩:=HBx.out.y8
            have HBl:=Lib.hid (HP5.out.block c HTy.out HFe.out)
            have hgb:g<wc.heap.size∧(∀ q,v.ownBlock=some q→q<wc.heap.size)∧(∀ q,blkM h q→q<wc.heap.size):=⟨(Array.getElem?_eq_some_iff.1 HP5.out.r.box).1,HP5.out.r.b.lt,HP5.out.d.lt⟩
            have HGb:=Lib.hid hgb
            unfold Rb.agg at HBl
            unfold pV at HBl
            clear hcs HFe HTy HP5 hgb HBx HN64
            go_wp2_with fail
            refine HBl.out.mono ?_
            rintro e w6 ⟨a,rfl,hf6,hcs⟩
            clear HBl e0 e1 e2 e3 e4 e5 e6 e7
            have hws:wc.heap.size≤w6.heap.size:=hf6.size
            clear hf6
            rcases hcs with⟨rfl,lb1,hP1⟩ | ⟨ha0,lb1,T1,hP1⟩
            · have HR:Hid (PsX w1 h n1 g (k+1) (w6.alloc (.cells #[.int .i64 0,.bool c.node,.int .u32 (c.name:Int),.int .u16 (c.typ:Int),.string c.lab,.int .u32 (c.hash:Int)] 62))):=((hP1.below (below_made _ _)).next (Nat.le_succ k)).ex
              rw[show ((0:Nat):Int)=0 from rfl]
              clear hP1 HGb hws
              go_wp2_with fail
              go_meet
              exact⟨rfl,HR.out⟩
            · have ha1:(0:Int)<(a:Int):=by omega
              obtain⟨nb,hnb⟩:∃ nb,nb=w6.heap.size:=⟨_,rfl⟩
              obtain⟨W2,hW2⟩:∃ W2,W2=w6.alloc (.cells #[.int .i64 (a:Int),.bool c.node,.int .u32 (c.name:Int),.int .u16 (c.typ:Int),.string c.lab,.int .u32 (c.hash:Int)] 62):=⟨_,rfl⟩
              have hb2:Below w6.heap.size w6 W2:=by rw[hW2];exact below_made _ _
              have hnx:W2.heap[nb]? = some (.cells #[.int .i64 (a:Int),.bool c.node,.int .u32 (c.name:Int),.int .u16 (c.typ:Int),.string c.lab,.int .u32 (c.hash:Int)] 62 (0,0)):=by rw[hW2,hnb];exact heap_alloc_new _ _
              have hP2:=hP1.below hb2
              have HB2:Hid (W2.heap[nb]? = some (.cells #[.int .i64 (a:Int),.bool c.node,.int .u32 (c.name:Int),.int .u16 (c.typ:Int),.string c.lab,.int .u32 (c.hash:Int)] 62 (0,0))∧g<nb∧(∀ q,v.ownBlock=some q→q<nb)∧(∀ q,blkM h q→q<nb)∧nb<W2.heap.size) :=
                ⟨hnx,by have:=HGb.out.1;omega,fun q hq=>by have:=HGb.out.2.1 q hq;omega,fun q hq=>by have:=HGb.out.2.2 q hq;omega,(Array.getElem?_eq_some_iff.1 hnx).1⟩
              have HD2:=Lib.hid hP2.drew
              obtain⟨c0,c1,c2,c3,c4,c5⟩:=@box6 W2 W2 h _ _ _ _ _ _ _ hnx
              have g1:W2.cell? ⟨g,1,none⟩=some v:=(cell_block hP2.r.box 1).trans rfl
              have hal:=below_made W2 (.cells #[.int .i64 (a:Int),.bool c.node,.int .u32 (c.name:Int),.int .u16 (c.typ:Int),.string c.lab,.int .u32 (c.hash:Int)] 62)
              have g2:(W2.alloc (.cells #[.int .i64 (a:Int),.bool c.node,.int .u32 (c.name:Int),.int .u16 (c.typ:Int),.string c.lab,.int .u32 (c.hash:Int)] 62)).cell? ⟨g,1,none⟩=some v:=(hal.cell (p:=⟨g,1,none⟩) (Array.getElem?_eq_some_iff.1 hP2.r.box).1).trans g1
              clear hP1 hP2 hb2 hnx hal HGb hws
              go_upto_region 13 with fail
              rw[←hW2,←hnb]
              clear hW2 hnb
              generalize decide (0<a)=q55
              obtain⟨v2,W3',hrun2,hm2⟩:=HD2.out.push (by omega)
              obtain⟨-,-,x3,x4,-,-⟩:=id hm2
              obtain⟨va2,vc2,rfl,-,-⟩:=(id hm2).1.r.b.row.slice
              have HM2:=Lib.hid hm2
              clear hm2
              obtain⟨W4,hW4⟩:∃ W4,W4=W3'.setCell ⟨g,1,none⟩ (.slice va2 (A ++ [{ c with pos:=(a:Int) }]).length vc2):=⟨_,rfl⟩
              go_cut [63] from 56 to 65 (fun s63 wc=>wc=W4)
              case first =>
                rw[List.length_append,List.length_singleton] at hrun2 hW4
                go_region_law (first
                  | (refine step_append_run (by rfl) (.tmp 60) (.tmp 62) 73 _ (by rfl) (by rfl) _ _ _ W3' (by rfl) (by rfl) hrun2 ?_))
                all_goals go_wp2_with fail
                all_goals go_meet
                all_goals exact hW4.symm
              case rest =>
                subst hcut
                obtain⟨hP4,hf4,-,-,hkq,-⟩:=HM2.out
                rw[←hW4] at hP4 hf4
                have hnv:¬ (nb=g∨v.ownBlock=some nb):=by
                  rintro (q | q)
                  · have:=HB2.out.2.1;omega
                  · have:=HB2.out.2.2.1 _ q;omega
                have hnb4:=(hf4.block nb HB2.out.2.2.2.2 hnv).trans HB2.out.1
                have hbl:nb<wc.heap.size∧¬ blkM h nb∧nb≠g:=⟨(Array.getElem?_eq_some_iff.1 hnb4).1,fun q=>by have:=HB2.out.2.2.2.1 _ q;omega,fun q=>hnv (.inl q)⟩
                have HO1:=Lib.hid (fun V (hV:Ps w1 h n1 T1 (a::E) (upB B a c.bk) lb1 K g u (.slice va2 (A ++ [{ c with pos:=(a:Int) }]).length vc2) (A ++ [{ c with pos:=(a:Int) }]) (k+1) V)=>hV.insert (i:=A.length) (by simp) (by omega))
                rw[getD_r] at HO1
                simp only at HO1
                have c0:=(cell_block hnb4 0).trans rfl
                simp only[List.getElem?_toArray,List.getElem?_cons_zero] at c0
                unfold pV at HO1
                clear hrun2 x3 x4 HM2 c1 c2 c3 c4 c5 g1 g2 hW4 hnb4 hnv hkq hf4 HB2 HD2
                go_upto_region 14 with fail
                go_region_held3 (fun V=>V.cell? ⟨nb,0,none⟩=some (.int .i64 (a:Int))) (first | exact c0 | go_keep) ((first
                  | (go_at_call 31;refine(HO1.out _ (by first | exact hP4 | exact hP4.drew)).mono ?_;rintro e w7 ⟨r,rfl,hf6,hc6⟩;have c6:=(show World.cell? w7 ⟨nb,0,none⟩=some (.int .i64 (a:Int)) from hf6.cell c0 hbl.1 hbl.2.1);clear c0;have c0:=c6)
                  | (go_at_call 32;refine(hc6 _ (by first | exact Below.refl _ _ | exact(Below.refl _ _).drew)).mono ?_;rintro e w8 ⟨rfl,hf7,K7,u7,hP7⟩;have c8:=(show World.cell? w8 ⟨nb,0,none⟩=some (.int .i64 (a:Int)) from hf7.cell c0 (Nat.lt_of_lt_of_le hbl.1 hf6.size) hbl.2.2);clear c0;have c0:=c8)))
                all_goals
                  have HR:=Lib.hid hP7.ex
                  have t1:(r == r)=true:=by simp
                  clear hP7 hf7 hf6 hc6 c0 c6 c8 HO1 hP4
                  go_wp2_with fail
                  go_meet
                  exact⟨by first | rfl | simp,HR.out⟩
          case rest =>
            obtain⟨rfl,HPx⟩:=hcut
            obtain⟨T6,E6,B6,lb6,K6,u6',v6,A6,hP6⟩:=HPx.out
            have HSm:=Lib.hid hP6.same2
            unfold pV at HSm
            clear hP6 HPx hcs HP5
            go_wp2_with fail
            refine HSm.out.mono ?_
            rintro e w7 ⟨rfl,hx7⟩
            have HX7:=Lib.hid hx7
            clear hx7 HSm
            go_wp2
            go_roundw
            case rel=>exact⟨k+1,by omega,by go_num,HX7.out⟩
            case measure=>simp[intOf];omega
      · obtain rfl:k=Q.length:=by omega
        clear hlt
        obtain⟨T,E,B,lb,K,u,v,A,hP⟩:=HPx.out
        have HP:=Lib.hid hP
        have hql:Q.length≤1000:=by omega
        obtain⟨va,vc,rfl,hv1,hv2⟩:=hP.r.b.row.slice
        clear hP HPx
        have HC:Hid (∀ V,Ps w1 h n1 T E B lb K g u (.slice va A.length vc) A Q.length V→V.cell? ⟨g,1,none⟩=some (.slice va A.length vc)):=fun V hV=>(cell_block hV.r.box 1).trans rfl
        have c1:=HC.out _ HP.out
        go_wp2
        go_loopw [14] (fun i wr=>∃ j:Nat,j≤A.length∧i = .int .i64 j∧Hid (Ps w1 h n1 T E B lb K g u (.slice va A.length vc) A Q.length wr)) (fun i _=>A.length-(intOf i).toNat)
        case atStart=>exact⟨0,Nat.zero_le _,rfl,HP.out⟩
        case round =>
          clear HP c1
          obtain⟨j,hj,rfl,HP⟩:=hrel
          have c1:=HC.out _ HP.out
          by_cases hlt:j<A.length
          · have hlt1:(j:Int)<(A.length:Int):=by omega
            have hlt0:(0:Int)≤(j:Int):=by omega
            have hkw:IntKind.i64.wrap ((j:Int)+1)=((j+1:Nat):Int):=(Ind.wrap_id (by omega) (by omega)).trans (by omega)
            have HPl:=Lib.hid (HP.out.place hlt hql)
            obtain⟨gv,o,rfl,-,hc⟩:=HP.out.r.b.row.at hlt
            have HAt:Hid (∀ V,Ps w1 h n1 T E B lb K g u (.slice (some ⟨gv,o,none⟩) A.length vc) A Q.length V→V.cell? ⟨gv,o+j*6,none⟩=some (.int .i64 (A.getD j Rb.zero).pos)):=fun V hV=>by
              obtain⟨gv',o',e,-,hc⟩:=hV.r.b.row.at hlt
              injection e with e
              injection e with e1 e2
              subst e1 e2
              exact hc 0 _ rfl
            have d0:=HAt.out _ HP.out
            generalize (A.getD j Rb.zero).pos=z at *
            unfold pV at HPl
            clear hc hlt
            go_wp2_with fail
            refine HPl.out.mono ?_
            rintro e w5 ⟨p,o1,rfl,hf5,hP5,hc5⟩
            have HC5:=Lib.hid (hc5 w5 (Below.refl _ _))
            have HP5:=Lib.hid hP5
            clear hf5 hc5 hP5 HPl c1 d0 HP
            have c1:=HC.out _ HP5.out
            have d0:=HAt.out _ HP5.out
            go_wp2_with fail
            refine HC5.out.mono ?_
            rintro e w6 ⟨rfl,hb6⟩
            have HP6:=Lib.hid (HP5.out.below hb6)
            have t1:((p:Int) != (p:Int))=false:=by simp
            have t2:(o1 != o1)=false:=by simp
            clear hb6 HC5 HP5 c1 d0 HAt
            go_wp2
            go_roundw
            case rel=>exact⟨j+1,by omega,by go_num,HP6.out⟩
            case measure=>simp[intOf];omega
          · obtain rfl:j=A.length:=by omega
            have HFa:=Lib.hid (HP.out.d.ix.faults HP.out.d.z)
            have HNn:=Lib.hid (fun W (hb:Below wr.heap.size wr W)=>HNm.out W (HTs.out.keep (HB1.out.trans ((HP.out.d.b.trans (hb.mono HP.out.d.b.size)).mono HB1.out.size))))
            have HEe:=Lib.hid (fun W (hb:Below wr.heap.size wr W)=>HB1.out.trans ((HP.out.d.b.trans (hb.mono HP.out.d.b.size)).mono HB1.out.size))
            unfold pV at HFa
            clear hlt
            go_wp2_with fail
            refine HFa.out.mono ?_
            rintro e w2 ⟨rfl,hb2⟩
            have HB2:=Lib.hid hb2
            clear hb2 HFa c1 HP
            go_wp2_with fail
            refine(HNn.out _ HB2.out).mono ?_
            rintro e w3 ⟨rfl,hb3⟩
            have HE:=Lib.hid ((HEe.out _ HB2.out).trans (hb3.mono (HEe.out _ HB2.out).size))
            clear hb3 HNn HEe HB2
            go_wp2
            go_ret
            exact⟨rfl,HE.out⟩
end
end Go.Proofs.YtmgeiaglandedaaGreatDoor.Ind
