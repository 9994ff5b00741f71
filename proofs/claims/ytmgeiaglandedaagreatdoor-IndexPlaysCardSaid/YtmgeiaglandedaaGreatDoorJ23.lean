/- Plain mathematics of the index: the document's look is the search. Contracts of the index: Slots. The index within a statement: Move; a block is given back. The index within a statement: places where no block lies. -/
import Derived.Test.YtmgeiaglandedaaGreatDoorJ3
import Derived.Test.YtmgeiaglandedaaGreatDoorJ21
import Derived.Test.YtmgeiaglandedaaGreatDoorJ1
import Derived.Test.YtmgeiaglandedaaGreatDoorJ22
namespace Go.Proofs.YtmgeiaglandedaaGreatDoor.Ind
open Pro
set_option linter.unusedVariables false
section
variable {n:Nat} {hm K:Nat→Nat} {h s:Nat} {P:Nat→Bool}
def NoL (n:Nat) (hm K:Nat→Nat) (h:Nat) (P:Nat→Bool) (s:Nat):Prop:=∀ j,j<s→opb n hm K h (ps n h j)=false∧hit K P (ps n h j)=false
theorem NoL.zero:NoL n hm K h P 0:=fun j hj=>by omega
theorem NoL.next (a:NoL n hm K h P s) (h1:opb n hm K h (ps n h s)=false) (h2:hit K P (ps n h s)=false):NoL n hm K h P (s+1):=fun j hj=>by
  by_cases e:j=s
  · subst e;exact⟨h1,h2⟩
  · exact a j (by omega)
theorem NoL.at (a:NoL n hm K h P s) (hs:s<n) (hy:hit K P (ps n h s)=true∨opb n hm K h (ps n h s)=true):enK n hm K h P=s:=by
  refine sk_eq (Nat.le_of_lt hs) (fun j hj=>?_) (fun _=>?_)
  · obtain⟨h1,h2⟩:=a j hj
    rw[h1,h2];rfl
  · rw[Bool.or_eq_true];exact hy
theorem look_open (a:NoL n hm K h P s) (hs:s<n) (hP:∀ q,K q≠0→P (K q)=true→hm (K q)=h) (ho:opb n hm K h (ps n h s)=true):bkP K (slF n hm K h P)=(0,false):=by
  have he:=a.at hs (.inr ho)
  have hf:hit K P (ps n h s)=false:=by
    cases e:hit K P (ps n h s) with
    | false=>rfl
    | true =>
      exfalso
      unfold hit at e
      rw[Bool.and_eq_true,decide_eq_true_iff] at e
      unfold opb at ho
      rw[hP _ e.1 e.2,Bool.or_eq_true,decide_eq_true_iff,decide_eq_true_iff] at ho
      rcases ho with ho | ho
      · exact e.1 ho
      · omega
  unfold slF
  rw[he,if_neg (fun q=>by rw[hf] at q;cases q.2)]
  rfl
theorem look_hit (a:NoL n hm K h P s) (hs:s<n) (hy:hit K P (ps n h s)=true):bkP K (slF n hm K h P)=(K (ps n h s),true):=by
  have he:=a.at hs (.inl hy)
  unfold slF
  rw[he,if_pos ⟨hs,hy⟩]
  rfl
theorem look_none (a:NoL n hm K h P n):bkP K (slF n hm K h P)=(0,false):=by
  have he:enK n hm K h P=n:=sk_eq (Nat.le_refl _) (fun j hj=>by obtain⟨h1,h2⟩:=a j hj;rw[h1,h2];rfl) (fun q=>absurd q (Nat.lt_irrefl _))
  unfold slF
  rw[he,if_neg (fun q=>Nat.lt_irrefl _ q.1)]
  rfl
theorem opb_at (O:Ok n hm K) (hh:h<n) (hs:s<n):opb n hm K h (ps n h s)=(decide (K (ps n h s)=0) || decide (dI n (tb hm K (ps n h s)).2 (ps n h s)<(s:Int))):=by
  have hp:=ps_lt hh (Nat.le_of_lt hs)
  unfold opb
  by_cases q:K (ps n h s)=0
  · simp[q]
  · rw[show (tb hm K (ps n h s)).2=(hm (K (ps n h s)):Int) from ce_two q,dI_off (O.home hp q) hp,off_ps hh hs]
    simp[q]
end
end Go.Proofs.YtmgeiaglandedaaGreatDoor.Ind

namespace Go.Proofs.YtmgeiaglandedaaGreatDoor.Ind
open Go.RowKit Num
open Pro
open Mem (Mm MemC MRet Hm rd blkM)
open Sla (Sl St Lv pl aT pV Lo)
open Arn (wrL is64)
set_option linter.unusedVariables false
set_option maxRecDepth 100000
section
variable {X:Fx} {l:List Int} {K K':Nat→Nat} {r r':Value} {w w1 w2 w' W W':World} {e e':Ending} {b x a:Nat}
theorem infoU:(Tryz.prog.info? 59).map (fun i=>(i.zero,i.size,i.bytes))=some (some (.int .u32 0),1,4):=by kernel_rfl
theorem run_make_u (w:World) :
    (Instr.makeSlice 129 (.int .i64 224) (.int .i64 224)).run Tryz.prog w = .ok (.slice (some ⟨w.heap.size,0,none⟩) 224 224) (w.alloc (.cells (madeCells #[.int .u32 0] 224) 59)):=by
  obtain⟨i0,hi,hz0,hz1,hz2⟩:=info_parts infoU
  have hbb:(i0.bytes:Int)*((224:Nat):Int)≤281474976710656:=by rw[hz2];omega
  have hr:=run_make (P:=Tryz.prog) w 129 59 i0 _ Tryz.underlying129 hi hz0 .i64 .i64 ((224:Nat):Int) ((224:Nat):Int) (by omega) (by omega) hbb (by omega)
  simp only[Int.toNat_natCast,hz1] at hr
  exact hr
def SlR (w0:Nat) (h:Hm) (K:Nat→Nat) (u:Value) (W:World):Prop:=∃ b cs,u = .slice (some ⟨b,0,none⟩) 224 224∧W.heap[b]? = some (.cells cs 59 (0,0))∧(∀ j,j<224→cs[j]? = some (.int .u32 (K j:Int)))∧w0≤b∧¬ blkM h b
set_option maxHeartbeats 1000000 in
theorem Slots_any (d:Ix X K w):Calls Tryz.prog 88 #[pV X.h] w fun e W=>∃ u,e = .returned u∧Ix X K W∧Fr w.heap.size (blkM X.h) w W∧SlR w.heap.size X.h K u W:=by
  have HT:=Lib.hid (fun W (hW:Ix X K W)=>slots_any hW)
  have HM:=Lib.hid (fun(i:Nat) W (hi:i<224) (hW:Ix X K W)=>held_any hW hi)
  have HB:Hid (∀ i,i<224→K i<100000):=fun i hi=>d.kbd hi
  have hmk:=fun W=>run_make_u W
  have HCs:Hid ((madeCells #[Value.int .u32 0] 224).size=224):=by unfold Hid;simp[madeCells]
  generalize madeCells #[Value.int .u32 0] 224=M at hmk HCs
  have hd:=MB.start d
  clear d
  try unfold sV tV at *
  unfold pV at *
  go_enter Tryz.func88,Tryz.ntmps88
  go_wp2_with fail
  refine(HT.out _ hd.m).mono ?_
  rintro e w1 hq
  obtain rfl:=hq.1
  replace hd:=(hd.step hq).push (tC X) 110
  clear hq HT
  obtain⟨c0,c1,c2⟩:=hd.tcells (.head _)
  have HD:=Lib.hid (hd.push M 59)
  have HNe:Hid (w1.heap.size≠w1.heap.size+1):=by unfold Hid;omega
  rw[size_al] at HD
  clear hd
  go_wp2
  clear c0 c1 c2 hmk
  go_loopw [13] (fun i wr=>∃ (k:Nat) (cs:Array Value),k≤224∧i = .int .i64 k∧Hid (cs.size=224∧(∀ j,j<k→cs[j]? = some (.int .u32 (K j:Int)))∧MB X K w [(w1.heap.size+1,cs,59),(w1.heap.size,tC X,110)] wr)) (fun i _=>224-(intOf i).toNat)
  case atStart=>exact⟨0,M,by omega,rfl,HCs.out,fun j hj=>by omega,HD.out⟩
  case round =>
    clear HD
    obtain⟨k,cs,hk,rfl,HR⟩:=hrel
    obtain⟨hcs,hcj,hd⟩:=HR.out
    clear HR
    obtain⟨c0,c1,c2⟩:=hd.tcells (.tail _ (.head _))
    by_cases hlt:k<224
    · have hlt1:(k:Int)<224:=by omega
      have hlt0:(0:Int)≤(k:Int):=by omega
      have hkb:=HB.out k hlt
      have HM1:=Lib.hid (fun W hW=>HM.out k W hlt hW)
      have HC2:Hid (cs.size=224∧(∀ j,j<k→cs[j]? = some (.int .u32 (K j:Int)))):=⟨hcs,hcj⟩
      clear hcs hcj
      generalize hy:K k=y at hkb HM1
      have HY:=Lib.hid hy
      clear hy
      have hu:IntKind.u32.wrap (y:Int)=(y:Int):=Lis.u32_id (by omega) (by omega)
      go_wp2_with fail
      refine(HM1.out _ hd.m).mono ?_
      rintro e w4 hq
      obtain rfl:=hq.1
      replace hd:=hd.step hq
      clear hq c0 c1 c2 HM1
      have f0:w4.cell? ⟨w1.heap.size+1,k,none⟩=some (cs[k]'(by rw[HC2.out.1];exact hlt)):=(hd.cell (.head _) k).trans (Array.getElem?_eq_getElem _)
      have f1:w4.frozen? ⟨w1.heap.size+1,k,none⟩=false:=hd.frz (.head _) k
      have HR2:=Lib.hid (hd.put (ne1 HNe.out) k (.int .u32 (y:Int)))
      generalize cs[k]'_=z0 at f0
      clear hd
      go_wp2
      go_roundw
      case rel =>
        refine⟨k+1,_,by omega,by go_num,?_,?_,HR2.out⟩
        · rw[Array.size_setIfInBounds];exact HC2.out.1
        · intro j hj
          by_cases e:j=k
          · subst e
            rw[HY.out]
            exact Array.getElem?_setIfInBounds_self_of_lt (by rw[HC2.out.1];exact hlt)
          · rw[Array.getElem?_setIfInBounds_ne (fun q=>e q.symm)]
            exact HC2.out.2 j (by omega)
      case measure=>simp[intOf];omega
    · obtain rfl:k=224:=by omega
      obtain⟨g1,g2,g3⟩:=hd.bx _ (.head _)
      have HE:Hid (Ix X K wr∧Fr w.heap.size (blkM X.h) w wr∧SlR w.heap.size X.h K (.slice (some ⟨w1.heap.size+1,0,none⟩) 224 224) wr):=⟨hd.m,hd.f,w1.heap.size+1,cs,rfl,g1,hcj,g3,g2⟩
      clear hd g1 g2 g3 hcs hcj
      go_wp2
      go_ret
      exact⟨_,rfl,HE.out⟩
end
end Go.Proofs.YtmgeiaglandedaaGreatDoor.Ind

namespace Go.Proofs.YtmgeiaglandedaaGreatDoor.Ind
open Go.RowKit Num
open Pro
open Mem (Mm MemC MRet Hm rd blkM)
open Sla (Sl St Lv pl aT pV Lo Tk Tkn Gvn Kp tkF gvF Ts mem_lt bl_in zero_v X0)
open Arn (wrL is64)
open Rin (st_self st_len st_bytes lv_at)
set_option linter.unusedVariables false
set_option maxRecDepth 100000
section
variable {h:Hm} {l0 l l' lb lb':List Int} {T T':List Sl} {w0 w w' W W':World} {n a x y:Nat} {E:List Nat} {B:Nat→Bk} {K K':Nat→Nat}
theorem gvn_at2 {j k:Nat} (t:Gvn 7 224 T T' j k) (hx:x≠pl (aT 7 224 j) (T.getD j Sl.zero).c k):∀ j' k',j'<7→k'∈(T.getD j' Sl.zero).v→x=pl (aT 7 224 j') (T.getD j' Sl.zero).c k'→k'∈(T'.getD j' Sl.zero).v∧(T'.getD j' Sl.zero).c=(T.getD j' Sl.zero).c:=by
  intro j' k' hj' hk' e
  by_cases hjj:j'=j
  · subst hjj
    have hm:k'∈(T'.getD j' Sl.zero).v:=(t.mem k').2 ⟨fun q=>hx (by rw[e,q]),hk'⟩
    exact⟨hm,t.cls (fun q=>by rw[q] at hm;cases hm)⟩
  · rw[t.oth j' hjj]
    exact⟨hk',rfl⟩
theorem gvn_lvc {j k c:Nat} (t:Gvn 7 224 T T' j k) (hx:x≠pl (aT 7 224 j) (T.getD j Sl.zero).c k) (hl:LvC 7 224 T x c):LvC 7 224 T' x c:=by
  obtain⟨j',k',h1,h2,h3,h4⟩:=hl
  obtain⟨g1,g2⟩:=gvn_at2 t hx j' k' h1 h2 h3
  exact⟨j',k',h1,g1,by rw[g2];exact h3,g2.trans h4⟩
theorem Wi.give (d:Wi w0 h n T E B lb K W) (ha:a∈E) (hk:∀ i,i<224→K i≠a):Calls Tryz.prog 52 #[pV h,.int .i64 (a:Int)] W fun e W' =>
    ∃ T' lb',e = .returned (.int .i64 0)∧Wi w0 h n T' (E.filter (fun x=>decide (x≠a))) B lb' K W'∧Fr W.heap.size (blkM h) W W':=by
  obtain⟨l,h1,h2⟩:=id d.ix
  have hlv:=(h1.lv a ha).lv
  have hat:=lv_at h1.st hlv
  refine(h1.st.give (a:=(a:Int)) (by unfold is64;omega)).mono ?_
  obtain⟨j,k,hj,hk',rfl⟩:=hlv
  obtain⟨g1,g2⟩:=Sla.gv_yes (S:=7) (N:=224) h1.st.tk (by decide) hj hk'
  rintro e W' ⟨l',he,hs,hf,hkp⟩
  rw[g1] at he
  have hin:∀ x∈E.filter (fun x=>decide (x≠pl (aT 7 224 j) (T.getD j Sl.zero).c k)),x∈E∧x≠pl (aT 7 224 j) (T.getD j Sl.zero).c k:=fun x hx=>by
    have:=List.mem_filter.1 hx
    exact⟨this.1,by simpa using this.2⟩
  have hlen:l'.length=l.length:=(st_len hs).1.trans (st_len h1.st).1.symm
  have hsl:=sls_same h1.sl hlen (fun t q1 q2=>st_slots hs q1 q2)
  refine⟨_,l',he,d.fr ⟨l',⟨st_self hs,fun x hx=>gvn_lvc g2 (hin x hx).2 (h1.lv x (hin x hx).1),fun x hx=>(h1.bk x (hin x hx).1).same hlen (kp_at hkp (h1.lv x (hin x hx).1) (gvn_at2 g2 (hin x hx).2)),hsl,fun i hi hk0=>List.mem_filter.2 ⟨h1.kin i hi hk0,by simpa using hk i hi⟩⟩,Nc.refl _⟩ d.ok hf,hf⟩
theorem hmB_hash (h:(B x).hash=(B y).hash):hmB B x=hmB B y:=by unfold hmB hom;rw[h]
theorem Wi.move (d:Wi w0 h n T E B lb K W) (hx:x∈E) (hy:y∈E) (hn:∀ i,i<224→K i≠y):Calls Tryz.prog 37 #[pV h,.int .i64 (x:Int),.int .i64 (y:Int)] W fun e W'=>Fr W.heap.size (blkM h) W W' ∧
    ((e = .returned (.int .i64 30) ∧ (B x).hash ≠ (B y).hash ∧ Wi w0 h n T E B lb K W') ∨
     (e = .returned (.int .i64 7)∧(B x).hash=(B y).hash∧(∀ i,i<224→K i≠x)∧Wi w0 h n T E B lb K W') ∨
     (∃ i,e = .returned (.int .i64 0)∧(B x).hash=(B y).hash∧i<224∧K i=x∧Wi w0 h n T E B lb (up K i y) W'∧∀ z,z≠0→(In 224 (up K i y) z↔z=y∨z≠x∧In 224 K z))):=by
  have hx0:x≠0:=by have:=d.facts hx;omega
  have hy0:y≠0:=by have:=d.facts hy;omega
  by_cases hh:(B x).hash=(B y).hash
  · by_cases h1 : ∃ i, i < 224 ∧ K i = x
    · obtain⟨i,hi,hk⟩:=h1
      obtain⟨o1,o2⟩:=ok_move d.ok hi (by omega) hy0 (by rw[hk];exact(hmB_hash hh).symm) hn
      exact(Move_ok d.hm d.ix hx hy hh hi hk).mono fun e W' q=>⟨q.2.2,.inr (.inr ⟨i,q.1,hh,hi,hk,d.step q o1,by rw[←hk];exact o2⟩)⟩
    · exact(Move_out d.ix hx hy hh (fun i hi q=>h1 ⟨i,hi,q⟩)).mono fun e W' q=>⟨q.2.2,.inr (.inl ⟨q.1,hh,fun i hi z=>h1 ⟨i,hi,z⟩,d.same q⟩)⟩
  · exact(Move_unlike d.ix hx hy hh).mono fun e W' q=>⟨q.2.2,.inl ⟨q.1,hh,d.same q⟩⟩
end
end Go.Proofs.YtmgeiaglandedaaGreatDoor.Ind

namespace Go.Proofs.YtmgeiaglandedaaGreatDoor.Ind
open Go.RowKit Num
open Pro
open Mem (Mm MemC MRet Hm rd blkM)
open Sla (Sl St Lv pl aT pV Lo)
open Arn (wrL is64)
open Rin (kX)
set_option linter.unusedVariables false
set_option maxRecDepth 100000
theorem knd_out2 {x:List Int} {a:Int} {n:Nat} (hn:0<n) (h:Wat.kndA x a (n:Int)=5):∃ p:Nat,a=p∧p+n≤x.length∧∀ j,j<n→x.getD (p+j) 0=5:=by
  unfold Wat.kndA at h
  by_cases hf:Arn.fitB x.length a (n:Int)=true
  · rw[if_pos hf] at h
    obtain⟨p,q,rfl,hq,h1⟩:=Arn.fitB_nat hf
    obtain rfl:n=q:=by omega
    rw[Int.toNat_natCast,Int.toNat_natCast] at h
    unfold Wat.kndS at h
    split at h
    · rename_i hy
      have hl:((x.drop p).take n).length=n:=by rw[List.length_take,List.length_drop];omega
      refine⟨p,rfl,h1,fun j hj=>?_⟩
      have:=hy.2 j (by rw[hl];exact hj)
      rw[h,take_getD _ _ _ hj,drop_getD] at this
      exact this
    · omega
  · rw[if_neg hf] at h
    omega
theorem knd_in2 {x:List Int} {p n:Nat} (hn:0<n) (h1:p+n≤x.length) (h2:∀ j,j<n→x.getD (p+j) 0=5):Wat.kndA x (p:Int) (n:Int)=5:=by
  unfold Wat.kndA
  rw[if_pos (Arn.fitB_of h1),Int.toNat_natCast,Int.toNat_natCast]
  have hl:((x.drop p).take n).length=n:=by rw[List.length_take,List.length_drop];omega
  have hg:∀ i,i<n→((x.drop p).take n).getD i 0=5:=fun i hi=>by rw[take_getD _ _ _ hi,drop_getD,h2 i hi]
  unfold Wat.kndS
  rw[if_pos,hg 0 hn]
  exact⟨fun e=>by rw[e] at hl;simp at hl;omega,fun i hi=>by rw[hg i (by omega),hg 0 hn]⟩
theorem knd_less2 {x:List Int} {a:Int} {n m:Nat} (hm:0<m) (hmn:m≤n) (h:Wat.kndA x a (n:Int)=5):Wat.kndA x a (m:Int)=5:=by
  obtain⟨p,rfl,h1,h2⟩:=knd_out2 (by omega) h
  exact knd_in2 hm (by omega) (fun j hj=>h2 j (by omega))
section
variable {h:Hm} {lb:List Int} {T:List Sl} {w0 W W':World} {n x:Nat} {a:Int} {E:List Nat} {B:Nat→Bk} {K:Nat→Nat}
theorem noB_of (h64:is64 a) (hk:Wat.kndA (kX 7 224 T) a 4≠5):NoB (fx h T E B lb) a :=
  ⟨h64,.inr (.inr (fun q=>hk (knd_less2 (n:=16) (m:=4) (by omega) (by omega) q)))⟩
theorem Wi.noB_ne (d:Wi w0 h n T E B lb K W) (ha:NoB (fx h T E B lb) a) {i:Nat} (hi:i<224) (hk:K i≠0):(K i:Int)≠a:=by
  intro e
  have hx:=d.ix.kin hi hk
  have hf:=d.facts hx
  obtain⟨l,h1,h2⟩:=id d.ix
  have hl:=live_at h1.st (h1.lv _ hx).lv (n:=16) (by omega) (by omega)
  rw[e] at hl
  rcases ha.2 with q | q | q
  · omega
  · have:a.tmod 16=0:=by rw[←e,Int.tmod_eq_emod_of_nonneg (by omega)];omega
    exact q this
  · exact q hl
theorem Wi.kind (d:Wi w0 h n T E B lb K W) (m:Int) (ha:is64 a):Calls Tryz.prog 35 #[pV h,.int .i64 a,.int .i64 m] W fun e W'=>e = .returned (.int .i64 (Wat.kndA (kX 7 224 T) a m))∧Wi w0 h n T E B lb K W'∧Fr W.heap.size (blkM h) W W' :=
  (d.ix.kindR a m ha).mono fun e W' q=>⟨q.1,d.same q,q.2.2⟩
theorem Wi.insertW (d:Wi w0 h n T E B lb K W) (ha:NoB (fx h T E B lb) a):Calls Tryz.prog 31 #[pV h,.int .i64 a] W fun e W'=>e = .returned (.int .i64 30)∧Wi w0 h n T E B lb K W'∧Fr W.heap.size (blkM h) W W' :=
  (Insert_none d.ix ha).mono fun e W' q=>⟨q.1,d.same q,q.2.2⟩
theorem Wi.deleteW (d:Wi w0 h n T E B lb K W) (ha:NoB (fx h T E B lb) a):Calls Tryz.prog 29 #[pV h,.int .i64 a] W fun e W'=>e = .returned (.int .i64 30)∧Wi w0 h n T E B lb K W'∧Fr W.heap.size (blkM h) W W' :=
  (Delete_none d.ix ha).mono fun e W' q=>⟨q.1,d.same q,q.2.2⟩
theorem Wi.moveW (d:Wi w0 h n T E B lb K W) (ha:NoB (fx h T E B lb) a) (b:Int):Calls Tryz.prog 37 #[pV h,.int .i64 a,.int .i64 b] W fun e W'=>e = .returned (.int .i64 30)∧Wi w0 h n T E B lb K W'∧Fr W.heap.size (blkM h) W W' :=
  (Move_none d.ix ha).mono fun e W' q=>⟨q.1,d.same q,q.2.2⟩
theorem Wi.placeW (d:Wi w0 h n T E B lb K W) (ha:NoB (fx h T E B lb) a):Calls Tryz.prog 36 #[pV h,.int .i64 a] W fun e W'=>e = .returned (.tuple #[.int .i64 0,.bool false])∧Wi w0 h n T E B lb K W'∧Fr W.heap.size (blkM h) W W':=by
  have hs:slF 224 (hmX (fx h T E B lb)) K (0 % 224) (fun p=>decide ((p:Int)=a))=none:=by
    cases e:slF 224 (hmX (fx h T E B lb)) K (0 % 224) (fun p=>decide ((p:Int)=a)) with
    | none=>rfl
    | some q =>
      obtain⟨h1,h2,h3⟩:=slF_some (by omega) e
      exact absurd (by simpa using h3) (d.noB_ne ha h1 h2)
  refine(Place_any (X:=fx h T E B lb) a 0 (by omega) (fun V hV=>hash_none hV ha) d.ix).mono fun e W' q=>⟨?_,d.same q,q.2.2⟩
  have:=q.1
  rw[hs] at this
  exact this
end
end Go.Proofs.YtmgeiaglandedaaGreatDoor.Ind
