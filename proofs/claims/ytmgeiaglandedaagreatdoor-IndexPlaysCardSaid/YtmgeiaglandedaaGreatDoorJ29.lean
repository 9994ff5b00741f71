/- The document's index: look, Entry, Node. -/
import Derived.Test.YtmgeiaglandedaaGreatDoorJ23
import Derived.Test.YtmgeiaglandedaaGreatDoorJ28
import Derived.Test.YtmgeiaglandedaaGreatDoorJ1
import Derived.Deep.DeepCutAuto
namespace Go.Proofs.YtmgeiaglandedaaGreatDoor.Ind
open Go.RowKit Num
open Pro
open Mem (Mm MemC MRet Hm rd blkM)
open Arn (wrL is64)
set_option linter.unusedVariables false
set_option maxRecDepth 100000
def RLk (b c:Rb):Prop:=c.node=b.node∧c.name=b.name∧c.typ=b.typ∧c.lab=b.lab∧c.hash=b.hash
theorem rdist_q (n h a:Int) (w:World) (h1 : -9223372036854775808≤n) (h2:n≤9223372036854775807):Calls Tryz.prog 224 #[.int .i64 n,.int .i64 h,.int .i64 a] w fun e w'=>e = .returned (.int .i64 (dI n h a))∧w'=w :=
  (rdist_any n h a w h1 h2).mono fun _ _ ⟨a,b⟩=>⟨a,b.symm⟩
theorem box_zc (w:World):(w.alloc (.cells #[.int .u32 0,.int .i64 0] 132)).heap[w.heap.size]? = some (.cells #[.int .u32 0,.int .i64 0] 132 (0,0)):=heap_alloc_new _ _
section
variable {n g:Nat} {W W':World} {u u' v v':Value} {T T':List Cel} {A A':List Rb} {hm K:Nat→Nat}
set_option maxHeartbeats 20000000 in
theorem rlook_any (d:Rx n W g u v (tbl hm K) A) (hn:n≤W.heap.size) (hA:A.length≤1000) (O:Ok 224 hm K) (hkb:∀ i,i<224→K i<4294967296) (b:Rb) (hh:b.hash<4294967296) (P:Nat→Bool)
    (hP:∀ q,q<224→K q≠0→∃ i,i<A.length∧fdR A (K q:Int)=(i:Int)∧(P (K q)=true↔RLk b (A.getD i Rb.zero)))
    (hPh:∀ q,K q≠0→P (K q)=true→hm (K q)=b.hash % 224) :
    Calls Tryz.prog 160 #[.pointer (some ⟨g,0,none⟩),b.agg] W fun e W'=>e = .returned (.tuple #[.int .i64 ((bkP K (slF 224 hm K (b.hash % 224) P)).1:Int),.bool (bkP K (slF 224 hm K (b.hash % 224) P)).2])∧Below W.heap.size W W':=by
  obtain⟨w0,hw0⟩:∃ w0,w0=W.alloc (.cells #[.int .i64 b.pos,.bool b.node,.int .u32 (b.name:Int),.int .u16 (b.typ:Int),.string b.lab,.int .u32 (b.hash:Int)] 62):=⟨_,rfl⟩
  have hb0:Below W.heap.size W w0:=by rw[hw0];exact below_made _ _
  have hbx:w0.heap[W.heap.size]? = some (.cells #[.int .i64 b.pos,.bool b.node,.int .u32 (b.name:Int),.int .u16 (b.typ:Int),.string b.lab,.int .u32 (b.hash:Int)] 62 (0,0)):=by rw[hw0];exact heap_alloc_new _ _
  have HB0:=Lib.hid hb0
  have d0:=d.below hb0
  have HX:Hid (∀ V,Below w0.heap.size w0 V→Rx n V g u v (tbl hm K) A∧V.heap[W.heap.size]? = some (.cells #[.int .i64 b.pos,.bool b.node,.int .u32 (b.name:Int),.int .u16 (b.typ:Int),.string b.lab,.int .u32 (b.hash:Int)] 62 (0,0))):=fun V hV=>⟨d0.below hV,(hV.block _ (Array.getElem?_eq_some_iff.1 hbx).1).trans hbx⟩
  have hy:b.hash % 224<224:=Nat.mod_lt _ (by omega)
  have HHo:Hid (∀ V,Below w0.heap.size w0 V→Calls Tryz.prog 74 #[.pointer (some ⟨g,0,none⟩),b.agg] V fun e w'=>e = .returned (.int .i64 ((b.hash % 224:Nat):Int))∧Below V.heap.size V w'):=fun V hV=>rhome_any g u v _ b V (HX.out V hV).1.box (HX.out V hV).1.t (tbl_len _ _) hh
  have HFi:Hid (∀ V (p:Int),Below w0.heap.size w0 V→Calls Tryz.prog 72 #[.pointer (some ⟨g,0,none⟩),.int .i64 p] V fun e w'=>e = .returned (.int .i64 (fdR A p))∧V=w'):=fun V p hV=>rfind_any g u v A p V (HX.out V hV).1.box (HX.out V hV).1.b.row hA
  have HD:=Lib.hid (fun(z a:Int) V=>rdist_q 224 z a V (by omega) (by omega))
  obtain⟨R,hR⟩:∃ R,R=bkP K (slF 224 hm K (b.hash % 224) P):=⟨_,rfl⟩
  have HOp:Hid (∀ s,NoL 224 hm K (b.hash % 224) P s→s<224→opb 224 hm K (b.hash % 224) (ps 224 (b.hash % 224) s)=true→R.1=0∧R.2=false):=fun s a hs ho=>by
    rw[hR,look_open a hs hPh ho];exact⟨rfl,rfl⟩
  have HHt:Hid (∀ s,NoL 224 hm K (b.hash % 224) P s→s<224→hit K P (ps 224 (b.hash % 224) s)=true→R.1=K (ps 224 (b.hash % 224) s)∧R.2=true):=fun s a hs ho=>by
    rw[hR,look_hit a hs ho];exact⟨rfl,rfl⟩
  have HNo:Hid (NoL 224 hm K (b.hash % 224) P 224→R.1=0∧R.2=false):=fun a=>by rw[hR,look_none a];exact⟨rfl,rfl⟩
  have HOb:Hid (∀ s,s<224→opb 224 hm K (b.hash % 224) (ps 224 (b.hash % 224) s)=(decide (K (ps 224 (b.hash % 224) s)=0) || decide (dI 224 (tb hm K (ps 224 (b.hash % 224) s)).2 (ps 224 (b.hash % 224) s)<(s:Int)))):=fun s hs=>opb_at O hy hs
  rw[←hR]
  have HP:=Lib.hid hP
  have HKb:=Lib.hid hkb
  obtain⟨bt,off,c,e0,q1,q2,hblt,hc⟩:=d0.t.open (by rw[tbl_len];omega)
  rw[tbl_len] at q1 hc e0
  subst e0
  obtain⟨va,vc,e0,v1,v2⟩:=d0.b.row.slice
  subst e0
  have HC:Hid (∀ V,Below w0.heap.size w0 V→V.cell? ⟨g,0,none⟩=some (.slice (some ⟨bt,off,none⟩) 224 c)∧V.cell? ⟨g,1,none⟩=some (.slice va A.length vc)∧∀ j,j<224→V.cell? ⟨bt,off+j*2,none⟩=some (.int .u32 (K j:Int))∧V.cell? ⟨bt,off+j*2+1,none⟩=some (.int .i64 (tb hm K j).2)):=fun V hV=>by
    refine⟨(cell_block (HX.out V hV).1.box 0).trans rfl,(cell_block (HX.out V hV).1.box 1).trans rfl,fun j hj=>⟨(hV.cell (p:=⟨bt,off+j*2,none⟩) hblt).trans ?_,(hV.cell (p:=⟨bt,off+j*2+1,none⟩) hblt).trans ?_⟩⟩
    · rw[(hc j hj).1,gt_in _ _ hj,tb_one]
    · rw[(hc j hj).2,gt_in _ _ hj]
  have HQ:Hid (∀ V,Below w0.heap.size w0 V→V.cell? ⟨W.heap.size,0,none⟩=some (.int .i64 b.pos)∧V.cell? ⟨W.heap.size,1,none⟩=some (.bool b.node)∧V.cell? ⟨W.heap.size,2,none⟩=some (.int .u32 (b.name:Int))∧V.cell? ⟨W.heap.size,3,none⟩=some (.int .u16 (b.typ:Int))∧V.cell? ⟨W.heap.size,4,none⟩=some (.string b.lab)∧V.cell? ⟨W.heap.size,5,none⟩=some (.int .u32 (b.hash:Int))):=fun V hV=>by
    have hg:=(HX.out V hV).2
    exact⟨(cell_block hg 0).trans rfl,(cell_block hg 1).trans rfl,(cell_block hg 2).trans rfl,(cell_block hg 3).trans rfl,(cell_block hg 4).trans rfl,(cell_block hg 5).trans rfl⟩
  have HAc:Hid (∀ V,Below w0.heap.size w0 V→RRow V (.slice va A.length vc) A):=fun V hV=>(HX.out V hV).1.b.row
  obtain⟨k0,k1,k2,k3,k4,k5⟩:=HQ.out w0 (Below.refl _ _)
  unfold Rb.agg at HHo ⊢
  clear d d0 hR hc hbx hb0 HX hh hn hP hPh hkb O
  generalize b.hash % 224=y at *
  go_enter Tryz.func160,Tryz.ntmps160
  go_upto_region 1 with fail
  rw[←hw0]
  clear hw0
  go_wp2_with fail
  refine(HHo.out _ (Below.refl _ _)).mono ?_
  rintro e w1 ⟨rfl,hb1⟩
  have HB1:=Lib.hid hb1
  clear hb1 HHo k0 k1 k2 k3 k4 k5
  go_wp2
  go_loopw [7] (fun i wr=>∃ s:Nat,s≤224∧i = .int .i64 s∧Hid (Below w0.heap.size w0 wr)∧Hid (NoL 224 hm K y P s)) (fun i _=>224-(intOf i).toNat)
  case atStart=>exact⟨0,by omega,rfl,HB1.out,NoL.zero⟩
  case round =>
    clear HB1
    obtain⟨s,hs,rfl,HB,HN⟩:=hrel
    obtain⟨c0,c1,hc⟩:=HC.out wr HB.out
    by_cases hlt:s<224
    · have hlt1:(s:Int)<224:=by omega
      have hkw:IntKind.i64.wrap ((s:Int)+1)=((s+1:Nat):Int):=(Ind.wrap_id (by omega) (by omega)).trans (by omega)
      obtain⟨p,hp⟩:∃ p,p=ps 224 y s:=⟨_,rfl⟩
      have hpl:p<224:=by rw[hp];exact ps_lt hy (by omega)
      obtain⟨q,hq⟩:∃ q,q=y+s:=⟨_,rfl⟩
      have hw1:IntKind.i64.wrap ((y:Int)+(s:Int))=(q:Int):=(Ind.wrap_id (by omega) (by omega)).trans (by omega)
      have hm1:Int.tmod (q:Int) 224=(p:Int):=by
        have:=mod_ps hy (i:=s) (by omega)
        rw[Int.tmod_eq_emod_of_nonneg (by omega),hp,←this,hq]
        omega
      have HMM:Hid (Int.tmod ((y+s:Nat):Int) 224=(p:Int)):=by unfold Hid;rw[←hq];exact hm1
      have hp1:(p:Int)<224:=by omega
      have hp0:(0:Int)≤(p:Int):=by omega
      have HOp1:=Lib.hid (HOp.out s HN.out hlt)
      have HHt1:=Lib.hid (HHt.out s HN.out hlt)
      have HOb1:=Lib.hid (HOb.out s hlt)
      have HNx:=Lib.hid (fun h1 h2=>NoL.next HN.out h1 h2)
      have hkb:=HKb.out p hpl
      have HP1:=Lib.hid (HP.out p hpl)
      rw[←hp] at HOp1 HHt1 HOb1 HNx
      obtain⟨f0,f1⟩:=hc p hpl
      clear hc hq hp
      have hal:=below_made wr (.cells #[.int .u32 0,.int .i64 0] 132)
      obtain⟨a0,a1,hca⟩:=HC.out _ (HB.out.trans (hal.mono HB.out.size))
      obtain⟨b0,b1⟩:=hca p hpl
      have HHit:Hid (hit K P p=(decide (K p≠0) && P (K p))):=rfl
      have z0:(wr.alloc (.cells #[.int .u32 0,.int .i64 0] 132)).cell? ⟨wr.heap.size,0,none⟩=some (.int .u32 0):=(cell_block (box_zc wr) 0).trans rfl
      have z1:(wr.alloc (.cells #[.int .u32 0,.int .i64 0] 132)).cell? ⟨wr.heap.size,1,none⟩=some (.int .i64 0):=(cell_block (box_zc wr) 1).trans rfl
      have z2:(wr.alloc (.cells #[.int .u32 0,.int .i64 0] 132)).frozen? ⟨wr.heap.size,0,none⟩=false:=Hea.frozen_block (box_zc wr) 0
      have z3:(wr.alloc (.cells #[.int .u32 0,.int .i64 0] 132)).frozen? ⟨wr.heap.size,1,none⟩=false:=Hea.frozen_block (box_zc wr) 1
      clear hca
      generalize K p=yk at *
      generalize (tb hm K p).2=z at *
      go_upto_region 5 with fail
      go_cut [8] (fun sl wc=>∃ gb,sl = .pointer (some ⟨gb,0,none⟩)∧Hid (Below wr.heap.size wr wc)∧Hid (wc.heap[gb]? = some (.cells #[.int .u32 (yk:Int),.int .i64 z] 132 (0,0))))
      case first =>
        clear HOp1 HHt1 HOb1 HNx HP1 HOp HHt HOb HNo HP HKb HAc HQ HC HFi HD hkw
        have HBx:=Lib.hid hal
        have HZ:=Lib.hid (box_zc wr)
        clear hal
        go_region
        all_goals go_wp2_with fail
        all_goals go_meet
        all_goals first
          | exact⟨_,rfl,below_made _ _,heap_alloc_new _ _⟩
          | exact⟨_,rfl,(below_made _ _).drew,heap_alloc_new _ _⟩
          | exact⟨_,rfl,(HBx.out.setCell (Nat.le_refl _) _).setCell (Nat.le_refl _) _,set_zc HZ.out _ _⟩
          | exact⟨_,rfl,((HBx.out.setCell (Nat.le_refl _) _).setCell (Nat.le_refl _) _).drew,set_zc HZ.out _ _⟩
      case rest =>
        obtain⟨gb,rfl,HBw,HG⟩:=hcut
        have HBc:=Lib.hid (HB.out.trans (HBw.out.mono HB.out.size))
        clear c0 c1 f0 f1 a0 a1 b0 b1 z0 z1 z2 z3 hal HBw hw1 hm1 hp0 HOp HHt HOb HP HKb HNo
        have g0:=(cell_block HG.out 0).trans rfl
        have g1:=(cell_block HG.out 1).trans rfl
        simp only[List.getElem?_toArray,List.getElem?_cons_zero,List.getElem?_cons_succ] at g0 g1
        have HGk:Hid (∀ V,Below wc.heap.size wc V→V.cell? ⟨gb,0,none⟩=some (.int .u32 (yk:Int))):=fun V hV=>(hV.cell (p:=⟨gb,0,none⟩) (Array.getElem?_eq_some_iff.1 HG.out).1).trans g0
        obtain⟨c0,c1,-⟩:=HC.out wc HBc.out
        by_cases hk0:yk=0
        · have hz0:((yk:Int) == 0)=true:=by rw[hk0];rfl
          have hr:=HOp1.out (by rw[HOb1.out,decide_eq_true hk0];rfl)
          obtain⟨R1,R2⟩:=R
          obtain⟨rfl,rfl⟩:=hr
          clear HOp1 HHt1 HOb1 HNx HP1 HHit hk0
          go_wp2_with fail
          go_quiet (fail)
          have HE:Hid (Below W.heap.size W (wc.drewN nq)):=below_drewN (HB0.out.trans (HBc.out.mono HB0.out.size)) _
          generalize wc.drewN nq=wz at HE ⊢
          clear c0 c1 g0 g1
          go_wp2
          go_ret2
          exact⟨rfl,HE.out⟩
        · have hz0:((yk:Int) == 0)=false:=by rw[beq_eq_false_iff_ne];omega
          have hw2:IntKind.i64.wrap ((y:Int)+(s:Int))=((y+s:Nat):Int):=(Ind.wrap_id (by omega) (by omega)).trans (by omega)
          have hm2:Int.tmod ((y+s:Nat):Int) 224=(p:Int):=HMM.out
          generalize (y+s:Nat)=q at hw2 hm2
          have HD1:=Lib.hid (HD.out z (p:Int))
          have HOc:Hid (opb 224 hm K y p=decide (dI 224 z (p:Int)<(s:Int))):=by unfold Hid;rw[HOb1.out,decide_eq_false hk0];rfl
          generalize dI 224 z (p:Int)=dd at HD1 HOc
          by_cases hdd:dd<(s:Int)
          · have hdd1:decide (dd<(s:Int))=true:=decide_eq_true hdd
            have hr:=HOp1.out (by rw[HOc.out];exact hdd1)
            obtain⟨R1,R2⟩:=R
            obtain⟨rfl,rfl⟩:=hr
            clear HOp1 HHt1 HOb1 HNx HP1 HHit hk0 HOc
            go_wp2_with fail
            go_quiet ((go_at_call 224;exact Calls.quiet_of_same (HD1.out _)))
            have HE:Hid (Below W.heap.size W (wc.drewN nq)):=below_drewN (HB0.out.trans (HBc.out.mono HB0.out.size)) _
            generalize wc.drewN nq=wz at HE ⊢
            clear c0 c1 g0 g1
            go_wp2
            go_ret2
            exact⟨rfl,HE.out⟩
          · have hdd1:decide (dd<(s:Int))=false:=decide_eq_false hdd
            have HNo1:Hid (opb 224 hm K y p=false):=HOc.out.trans hdd1
            go_wp2_with fail
            go_quiet ((go_at_call 224;exact Calls.quiet_of_same (HD1.out _)))
            have HBz:Hid (Below w0.heap.size w0 (wc.drewN nq)):=below_drewN HBc.out _
            have g2:=HGk.out _ (below_drewN (Below.refl _ _) nq)
            generalize wc.drewN nq=wz at HBz g2 ⊢
            clear c0 c1 g0 g1 HD1 HOc hw2 hm2 HOp1 HOb1 hdd hdd1
            have hkw2:IntKind.i64.wrap (yk:Int)=(yk:Int):=Ind.wrap_id (by omega) (by omega)
            obtain⟨j,hj,hfd,hpj⟩:=HP1.out hk0
            have HF1:=Lib.hid (HFi.out wz (yk:Int) HBz.out)
            rw[hfd] at HF1
            have HPj:=Lib.hid hpj
            have HH0:Hid (hit K P p=P yk):=by unfold Hid;rw[HHit.out];simp[hk0]
            clear hfd hpj HHit hk0
            obtain⟨gv,o,rfl,-,hc⟩:=(HAc.out wz HBz.out).at hj
            obtain⟨x,hx⟩:∃ x,x=A.getD j Rb.zero:=⟨_,rfl⟩
            rw[←hx] at hc HPj
            have e1:wz.cell? ⟨gv,o+j*6+1,none⟩=some (.bool x.node):=hc 1 _ rfl
            have e2:wz.cell? ⟨gv,o+j*6+2,none⟩=some (.int .u32 (x.name:Int)):=hc 2 _ rfl
            have e3:wz.cell? ⟨gv,o+j*6+3,none⟩=some (.int .u16 (x.typ:Int)):=hc 3 _ rfl
            have e4:wz.cell? ⟨gv,o+j*6+4,none⟩=some (.string x.lab):=hc 4 _ rfl
            have e5:wz.cell? ⟨gv,o+j*6+5,none⟩=some (.int .u32 (x.hash:Int)):=hc 5 _ rfl
            obtain⟨k0,k1,k2,k3,k4,k5⟩:=HQ.out wz HBz.out
            obtain⟨c0,c1,-⟩:=HC.out wz HBz.out
            have hj1:(j:Int)<(A.length:Int):=by omega
            have hj0:(0:Int)≤(j:Int):=by omega
            clear hc hx HFi HC HQ HAc
            go_wp2_with fail
            refine HF1.out.mono ?_
            rintro e w5 ⟨rfl,rfl⟩
            clear HF1
            by_cases p0:x.node=b.node
            · have t0:(x.node == b.node)=true:=by have q:=p0;simp[q]
              by_cases p1:x.name=b.name
              · have t1:((x.name:Int) == (b.name:Int))=true:=by have q:=p1;simp[q]
                by_cases p2:x.typ=b.typ
                · have t2:((x.typ:Int) == (b.typ:Int))=true:=by have q:=p2;simp[q]
                  by_cases p3:x.lab=b.lab
                  · have t3:(x.lab.toList == b.lab.toList)=true:=by have q:=p3;rw[str_eqB];exact decide_eq_true q
                    by_cases p4:x.hash=b.hash
                    · have t4:((x.hash:Int) == (b.hash:Int))=true:=by have q:=p4;simp[q]
                      have hr:=HHt1.out (by rw[HH0.out];exact HPj.out.2 ⟨p0,p1,p2,p3,p4⟩)
                      obtain⟨R1,R2⟩:=R
                      obtain⟨rfl,rfl⟩:=hr
                      have HE:Hid (Below W.heap.size W wz):=HB0.out.trans (HBz.out.mono HB0.out.size)
                      clear p0 p1 p2 p3 p4 HHt1 HNx HPj HH0
                      go_wp2_with fail
                      simp only[List.append_eq,List.cons_append,List.nil_append]
                      go_quiet (fail)
                      have HE2:Hid (Below W.heap.size W (wz.drewN nq)):=below_drewN HE.out _
                      have g3:=(show (wz.drewN nq).cell? ⟨gb,0,none⟩=_ from g2)
                      generalize wz.drewN nq=wy at HE2 g3 ⊢
                      clear c0 c1 g2 e1 e2 e3 e4 e5 k0 k1 k2 k3 k4 k5
                      go_wp2
                      go_ret2
                      exact⟨rfl,HE2.out⟩
                    · have t4:((x.hash:Int) == (b.hash:Int))=false:=by have q:=p4;rw[beq_eq_false_iff_ne];intro e;exact q (by omega)
                      have HN2:=Lib.hid (HNx.out HNo1.out (by
                        rw[HH0.out]
                        cases e:P yk with
                        | false=>rfl
                        | true=>exact absurd (HPj.out.1 e).2.2.2.2 p4))
                      clear p0 p1 p2 p3 p4 HHt1 HNx HPj HH0 HNo1
                      go_wp2_with fail
                      simp only[List.append_eq,List.cons_append,List.nil_append]
                      go_quiet (fail)
                      have HB2:Hid (Below w0.heap.size w0 (wz.drewN nq)):=below_drewN HBz.out _
                      generalize wz.drewN nq=wy at HB2 ⊢
                      clear c0 c1 g2 e1 e2 e3 e4 e5 k0 k1 k2 k3 k4 k5 HBz
                      go_wp2
                      go_roundw
                      case rel=>exact⟨s+1,by omega,by go_num,HB2.out,HN2.out⟩
                      case measure=>simp[intOf];omega
                  · have t3:(x.lab.toList == b.lab.toList)=false:=by have q:=p3;rw[str_eqB];exact decide_eq_false q
                    have HN2:=Lib.hid (HNx.out HNo1.out (by
                      rw[HH0.out]
                      cases e:P yk with
                      | false=>rfl
                      | true=>exact absurd (HPj.out.1 e).2.2.2.1 p3))
                    clear p0 p1 p2 p3 HHt1 HNx HPj HH0 HNo1
                    go_wp2_with fail
                    simp only[List.append_eq,List.cons_append,List.nil_append]
                    go_quiet (fail)
                    have HB2:Hid (Below w0.heap.size w0 (wz.drewN nq)):=below_drewN HBz.out _
                    generalize wz.drewN nq=wy at HB2 ⊢
                    clear c0 c1 g2 e1 e2 e3 e4 e5 k0 k1 k2 k3 k4 k5 HBz
                    go_wp2
                    go_roundw
                    case rel=>exact⟨s+1,by omega,by go_num,HB2.out,HN2.out⟩
                    case measure=>simp[intOf];omega
                · have t2:((x.typ:Int) == (b.typ:Int))=false:=by have q:=p2;rw[beq_eq_false_iff_ne];intro e;exact q (by omega)
                  have HN2:=Lib.hid (HNx.out HNo1.out (by
                    rw[HH0.out]
                    cases e:P yk with
                    | false=>rfl
                    | true=>exact absurd (HPj.out.1 e).2.2.1 p2))
                  clear p0 p1 p2 HHt1 HNx HPj HH0 HNo1
                  go_wp2_with fail
                  simp only[List.append_eq,List.cons_append,List.nil_append]
                  go_quiet (fail)
                  have HB2:Hid (Below w0.heap.size w0 (wz.drewN nq)):=below_drewN HBz.out _
                  generalize wz.drewN nq=wy at HB2 ⊢
                  clear c0 c1 g2 e1 e2 e3 e4 e5 k0 k1 k2 k3 k4 k5 HBz
                  go_wp2
                  go_roundw
                  case rel=>exact⟨s+1,by omega,by go_num,HB2.out,HN2.out⟩
                  case measure=>simp[intOf];omega
              · have t1:((x.name:Int) == (b.name:Int))=false:=by have q:=p1;rw[beq_eq_false_iff_ne];intro e;exact q (by omega)
                have HN2:=Lib.hid (HNx.out HNo1.out (by
                  rw[HH0.out]
                  cases e:P yk with
                  | false=>rfl
                  | true=>exact absurd (HPj.out.1 e).2.1 p1))
                clear p0 p1 HHt1 HNx HPj HH0 HNo1
                go_wp2_with fail
                simp only[List.append_eq,List.cons_append,List.nil_append]
                go_quiet (fail)
                have HB2:Hid (Below w0.heap.size w0 (wz.drewN nq)):=below_drewN HBz.out _
                generalize wz.drewN nq=wy at HB2 ⊢
                clear c0 c1 g2 e1 e2 e3 e4 e5 k0 k1 k2 k3 k4 k5 HBz
                go_wp2
                go_roundw
                case rel=>exact⟨s+1,by omega,by go_num,HB2.out,HN2.out⟩
                case measure=>simp[intOf];omega
            · have t0:(x.node == b.node)=false:=by have q:=p0;simpa using q
              have HN2:=Lib.hid (HNx.out HNo1.out (by
                rw[HH0.out]
                cases e:P yk with
                | false=>rfl
                | true=>exact absurd (HPj.out.1 e).1 p0))
              clear p0 HHt1 HNx HPj HH0 HNo1
              go_wp2_with fail
              simp only[List.append_eq,List.cons_append,List.nil_append]
              go_quiet (fail)
              have HB2:Hid (Below w0.heap.size w0 (wz.drewN nq)):=below_drewN HBz.out _
              generalize wz.drewN nq=wy at HB2 ⊢
              clear c0 c1 g2 e1 e2 e3 e4 e5 k0 k1 k2 k3 k4 k5 HBz
              go_wp2
              go_roundw
              case rel=>exact⟨s+1,by omega,by go_num,HB2.out,HN2.out⟩
              case measure=>simp[intOf];omega
    · obtain rfl:s=224:=by omega
      have hr:=HNo.out HN.out
      obtain⟨R1,R2⟩:=R
      obtain⟨rfl,rfl⟩:=hr
      have HE:Hid (Below W.heap.size W wr):=HB0.out.trans (HB.out.mono HB0.out.size)
      clear hc HOp HHt HOb HP HNo HAc HQ
      go_wp2
      go_ret2
      exact⟨rfl,HE.out⟩
end
end Go.Proofs.YtmgeiaglandedaaGreatDoor.Ind
