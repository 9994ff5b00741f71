/- Plain mathematics of watches: runs of one kind, and what each call answers. The landed watch: what runs produces. -/
import Derived.Test.YtmgeiaglandedaaGreatDoorJ6
import Derived.RangeFuncNested
import Derived.RangeFuncBound
import Derived.RangeFuncCalls
import Derived.RangeFuncLeaves
import Derived.Shelf.Abstract
import Derived.Shelf.RegionOpen
import Derived.WalkKit
import Derived.OwnWalkIn
import Derived.TacticsInMore
import Derived.LoopNIn
import Derived.LoopIn
import Derived.Stop.RegionWithIn
import Derived.Scope
namespace Go.Proofs.YtmgeiaglandedaaGreatDoor.Wat
open Go.RowKit Num Arn
set_option linter.unusedVariables false
abbrev Rn:=Nat×Nat×Int
def aggW (r:Rn):Value:=.agg #[.int .i64 (r.1:Int),.int .i64 (r.2.1:Int),.int .i64 r.2.2]
def mayW (n:Int):Bool:=decide (4≤n) && (decide (n≤1048576) && decide (n % 4=0))
theorem mayW_bd {n:Int} (h:mayW n=true):4≤n∧n≤1048576∧n % 4=0:=by simpa[mayW,and_assoc] using h
def bump (L:List Rn):List Rn:=match L.getLast? with | none => [] | some r=>L.dropLast ++ [(r.1,r.2.1+1,r.2.2)]
theorem bump_snoc (L:List Rn) (r:Rn):bump (L ++ [r])=L ++ [(r.1,r.2.1+1,r.2.2)]:=by
  unfold bump
  simp
def rl (x:List Int):Nat→List Rn
  | 0 => []
  | i+1=>if 0<i∧x.getD i 0=x.getD (i-1) 0 then bump (rl x i) else rl x i ++ [(i,1,x.getD i 0)]
inductive Good (x:List Int):Nat→List Rn→Prop
  | nil:Good x 0 []
  | snoc {p n:Nat} {L:List Rn} {k:Int} : Good x p L→1≤n→(∀ j,j<n→x.getD (p+j) 0=k)→(∀ r,L.getLast? = some r→r.2.2≠k)→Good x (p+n) (L ++ [(p,n,k)])
theorem Good.last {x:List Int} {p:Nat} {L:List Rn} (h:Good x p L) {r:Rn} (hr:L.getLast? = some r):r.1+r.2.1=p∧1≤r.2.1∧∀ j,j<r.2.1→x.getD (r.1+j) 0=r.2.2:=by
  cases h with
  | nil=>simp at hr
  | snoc h1 h2 h3 h4 =>
    simp at hr
    subst hr
    exact⟨rfl,h2,h3⟩
theorem rl_good (x:List Int) (i:Nat):Good x i (rl x i):=by
  induction i with
  | zero=>exact .nil
  | succ i ih =>
    unfold rl
    split
    · rename_i h
      obtain⟨h0,he⟩:=h
      generalize rl x i=L at ih ⊢
      cases ih with
      | nil=>omega
      | snoc h1 h2 h3 h4 =>
        rename_i p n L k
        rw[bump_snoc]
        show Good x (p+n+1) (L ++ [(p,n+1,k)])
        rw[Nat.add_assoc]
        refine .snoc h1 (by omega) (fun j hj=>?_) h4
        by_cases e:j<n
        · exact h3 j e
        · obtain rfl:j=n:=by omega
          rw[he,show p+j-1=p+(j-1) by omega]
          exact h3 _ (by omega)
    · rename_i h
      refine .snoc ih (Nat.le_refl _) (fun j hj => by obtain rfl : j = 0 := by omega
                                                      rfl) (fun r hr=>?_)
      obtain⟨e1,e2,e3⟩:=ih.last hr
      have:=e3 (r.2.1-1) (by omega)
      rw[show r.1+(r.2.1-1)=i-1 by omega] at this
      intro hk
      exact h ⟨by omega,by rw[this,hk]⟩
theorem rl_block (x:List Int) (p m:Nat) (h0:p=0∨x.getD (p-1) 0≠x.getD p 0) (h:∀ j,j≤m→x.getD (p+j) 0=x.getD p 0):rl x (p+m+1)=rl x p ++ [(p,m+1,x.getD p 0)]:=by
  induction m with
  | zero =>
    show rl x (p+1)=_
    rw[rl,if_neg (by rintro ⟨h1,h2⟩;rcases h0 with h0 | h0;omega;exact h0 h2.symm)]
  | succ m ih =>
    have:=ih (fun j hj=>h j (by omega))
    show rl x (p+(m+1)+1)=_
    rw[rl,if_pos ⟨by omega,by rw[h (m+1) (Nat.le_refl _),show p+(m+1)-1=p+m by omega,h m (by omega)]⟩,show p+(m+1)=p+m+1 by omega,this,bump_snoc]
theorem rl_step (x:List Int) (i:Nat):(rl x i).length≤(rl x (i+1)).length:=by
  show _≤(if 0<i∧x.getD i 0=x.getD (i-1) 0 then bump (rl x i) else rl x i ++ [(i,1,x.getD i 0)]).length
  split
  · generalize rl x i=L
    rcases List.eq_nil_or_concat L with rfl | ⟨M,r,rfl⟩
    · simp
    · rw[List.concat_eq_append,bump_snoc];simp
  · simp
theorem rl_mono (x:List Int) (i d:Nat):(rl x i).length≤(rl x (i+d)).length:=by
  induction d with
  | zero=>exact Nat.le_refl _
  | succ d ih=>exact Nat.le_trans ih (rl_step x (i+d))
theorem rl_less {x:List Int} {p m:Nat} {r:Rn} (hb:rl x (p+m)=rl x p ++ [r]) (h:p+m≤x.length):(rl x p).length<(rl x x.length).length:=by
  have h1:=rl_mono x (p+m) (x.length-(p+m))
  rw[show p+m+(x.length-(p+m))=x.length by omega,hb,List.length_append,List.length_singleton] at h1
  omega
def kndS (y:List Int):Int:=if y ≠ []∧∀ j,j<y.length→y.getD j 0=y.getD 0 0 then y.getD 0 0 else 0
theorem kind_yes {y:List Int} {p:Nat} {r:Rn} (hp:p≤y.length) (hr:(rl y p).getLast? = some r) (hn:r.2.1=y.length):kndS y=r.2.2:=by
  obtain⟨h1,h2,h3⟩:=(rl_good y p).last hr
  have h0:r.1=0:=by omega
  have e:=h3 0 (by omega)
  simp only[h0,Nat.zero_add] at h3 e
  rw[kndS,if_pos ⟨by rintro rfl;simp at hn;omega,fun j hj=>by rw[h3 j (by omega),e]⟩,e]
theorem kind_no {y:List Int} (h:∀ r∈rl y y.length,r.2.1≠y.length):kndS y=0:=by
  unfold kndS
  split
  · rename_i hs
    obtain⟨h1,h2⟩:=hs
    obtain⟨m,hm⟩:∃ m,y.length=m+1:=⟨y.length-1,by have:=List.length_pos_iff.2 h1;omega⟩
    have hb:=rl_block y 0 m (.inl rfl) (fun j hj=>by rw[Nat.zero_add];exact h2 j (by omega))
    rw[Nat.zero_add] at hb
    rw[hm,hb] at h
    exact absurd rfl (h (0,m+1,y.getD 0 0) (by simp))
  · rfl
def kndA (x:List Int) (a n:Int):Int:=if fitB x.length a n then kndS ((x.drop a.toNat).take n.toNat) else 0
def mrkA (x:List Int) (a n k:Int):List Int×Int :=
  if k<0∨8<k then (x,2) else if fitB x.length a n=false then (x,6) else if a % 4≠0∨n % 4≠0 then (x,9) else (wrL x a.toNat (List.replicate n.toNat k),0)
def lookA (x:List Int) (a n k:Int):Bool:=isW n && (fitB x.length a n && (decide (a % n=0) && (decide (k≠0) && decide (kndA x a n=k))))
def IsKinds (x:List Int):Prop:=∀ i,0≤x.getD i 0∧x.getD i 0≤8
theorem IsKinds.bytes {x:List Int} (h:IsKinds x):IsBytes x:=fun i=>by have:=h i;omega
theorem IsKinds.mem {x:List Int} (h:IsKinds x) {y:Int} (hy:y∈x):0≤y∧y≤8:=by
  obtain⟨i,hi,rfl⟩:=List.getElem_of_mem hy
  have:=h i
  simpa[List.getD,hi] using this
theorem IsKinds.of_mem {x:List Int} (h:∀ y∈x,0≤y∧y≤8):IsKinds x:=by
  intro i
  by_cases hi:i<x.length
  · have:=h _ (List.getElem_mem hi)
    simpa[List.getD,hi] using this
  · simp[List.getD,List.getElem?_eq_none (show x.length≤i by omega)]
theorem kinds_zeros (n:Nat):IsKinds (List.replicate n 0):=.of_mem fun y hy=>by
  have:=List.eq_of_mem_replicate hy
  omega
theorem mrkA_length (x:List Int) (a n k:Int):(mrkA x a n k).1.length=x.length:=by
  unfold mrkA
  split
  · rfl
  · split
    · rfl
    · rename_i hf
      split
      · rfl
      · obtain⟨p,q,rfl,rfl,h⟩:=fitB_nat (by simpa using hf:fitB x.length a n=true)
        exact wrL_length _ _ _ (by simp only[Int.toNat_natCast,List.length_replicate];omega)
theorem mrkA_kinds {x:List Int} (h:IsKinds x) (a n k:Int):IsKinds (mrkA x a n k).1:=by
  unfold mrkA
  split
  · exact h
  · rename_i hk
    split
    · exact h
    · split
      · exact h
      · refine .of_mem fun y hy=>?_
        simp only[wrL,List.mem_append] at hy
        rcases hy with hy | hy | hy
        · exact h.mem (List.mem_of_mem_take hy)
        · have:=List.eq_of_mem_replicate hy
          omega
        · exact h.mem (List.mem_of_mem_drop hy)
end Go.Proofs.YtmgeiaglandedaaGreatDoor.Wat

namespace Go.Proofs.YtmgeiaglandedaaGreatDoor.Wat
open Go.RowKit Go.Shelf Num Arn
set_option linter.unusedVariables false
attribute [local go_sem] Oper.semAt_some
theorem wpIn_scope_wide {n:Nat} {P:Program} {fn:Func} {R:Ending→World→Prop} {c:Code} {a:Act} {w:World} (h:c.wpIn Fence.wide n P (bodyPost P fn R) a w):(Code.scope c).wpIn Fence.wide n P (bodyPost P fn R) a w :=
  wpIn_wide.2 (wp_scope_straight (wpIn_wide.1 (wpIn_mono h (fun e a w hq=>by cases e<;>first | exact hq | exact hq.elim))))
def KpB (n₀ Bn:Nat) (W W':World):Prop:=W.heap.size≤W'.heap.size∧∀ k,k<n₀∨k=Bn→W'.heap[k]? = W.heap[k]?
theorem KpB.refl (n₀ Bn:Nat) (W:World):KpB n₀ Bn W W:=⟨Nat.le_refl _,fun _ _=>rfl⟩
theorem KpB.trans {n₀ Bn:Nat} {A B C:World} (h:KpB n₀ Bn A B) (k:KpB n₀ Bn B C):KpB n₀ Bn A C:=⟨Nat.le_trans h.1 k.1,fun i hi=>(k.2 i hi).trans (h.2 i hi)⟩
theorem KpB.cell {n₀ Bn:Nat} {W W':World} (h:KpB n₀ Bn W W') {b o:Nat} (hb:b<n₀∨b=Bn):W'.cell? ⟨b,o,none⟩=W.cell? ⟨b,o,none⟩:=by
  simp only[World.cell?,h.2 b hb]
theorem KpB.alloc {n₀ Bn:Nat} {W W':World} (h:KpB n₀ Bn W W') (hn:n₀≤W'.heap.size) (hB:Bn<W'.heap.size) (o:Obj):KpB n₀ Bn W (W'.alloc o) :=
  ⟨Nat.le_trans h.1 (by have:=size_alloc W' o;omega),fun k hk=>(Below.heap_alloc _ _ _ (by rcases hk with hk | hk<;>omega)).trans (h.2 k hk)⟩
theorem KpB.put {n₀ Bn:Nat} {w:World} (hn:n₀≤w.heap.size) (hB:Bn<w.heap.size) (W:World) (l:Nat) (o o':Obj) (hl:w.heap.size≤l) (h:W.heap[l]? = some o) (_:o.isCells=false) (_:o.isWalk=false):KpB n₀ Bn W (W.putObj l o') :=
  ⟨by simp,fun k hk=>World.putObj_heap_other (by rcases hk with hk | hk<;>omega)⟩
set_option maxRecDepth 100000 in
set_option maxHeartbeats 4000000 in
theorem runs1_in (n:Nat) (hn:1≤n) (l Bn n₀:Nat) (u:Value) (x:List Int) (hlen:x.length≤1048576) (J Jx:List Rn→World→Prop)
    (hJ:∀ s W,J s W→J s W.drew)
    (hY:∀ pre r W,J pre W→pre.length<(rl x x.length).length→YieldAt Fence.wide (n-1) Tryz.prog l #[aggW r] W fun e W' =>
      (e = .returned (.bool true)∧J (pre ++ [r]) W'∧KpB n₀ Bn W W')∨(e = .returned (.bool false)∧Jx (pre ++ [r]) W'))
    (W:World) (hBn:W.cell? ⟨Bn,0,none⟩=some u) (hx:Row .u8 W u x) (hxb:x ≠ []→∀ b,u.ownBlock=some b→b<n₀) (h0:J [] W) :
    CallsIn Fence.wide n Tryz.prog 225 #[.func (.yield l) #[] #[],.pointer (some ⟨Bn,0,none⟩)] W fun e W'=>(∃ v,e = .returned v) ∧
      ((∃ ys,ys=rl x x.length∧J ys W')∨(∃ pre,(∃ p,p≤x.length∧pre=rl x p)∧Jx pre W')):=by
  have HBy:=Lib.hid hx.bytes
  obtain⟨ad,cap,rfl,q2,q3,q4,q5⟩:=hx
  have HY:=Lib.hid hY
  have HC:=Lib.hid q5
  have HB:=Lib.hid hxb
  have H0:=Lib.hid h0
  have HBn:=Lib.hid hBn
  clear q4 q5 hY hxb h0 hBn
  refine callsIn_of_wp Tryz.func225 rfl trivial ?_ rfl
  simp only[Tryz.ntmps225,List.size_toArray,List.length_cons,List.length_nil,Nat.reduceAdd,Nat.reduceSub,Array.replicate_succ,Array.replicate_zero,List.push_toArray,List.append_toArray,List.nil_append,List.cons_append]
  refine wpIn_scope_wide ?_
  gi_wp2
  try refine wpIn_label ?_
  try gi_wp2
  gi_loopw [3] (fun i wr=>∃ p:Nat,p≤x.length∧i = .int .i64 p∧Hid (p=0∨p=x.length∨x.getD (p-1) 0≠x.getD p 0)∧Hid (J (rl x p) wr)∧Hid (KpB n₀ Bn W wr)) (fun i _=>x.length-(intOf i).toNat)
  case atStart=>exact⟨0,Nat.zero_le _,rfl,.inl rfl,H0.out,KpB.refl _ _ _⟩
  case round =>
    obtain⟨p,hp,rfl,HP,HJ,HBl⟩:=hrel
    by_cases hlt:p<x.length
    · have hlt1:(p:Int)<(x.length:Int):=by omega
      have hlt0:(0:Int)≤(p:Int):=by omega
      have hcp:¬ cap=p:=by omega
      have hbn:=(HBl.out.cell (b:=Bn) (o:=0) (.inr rfl)).trans HBn.out
      have hxne:x ≠ []:=by rintro rfl;simp at hlt
      obtain⟨b,off,rfl,hlb,hc⟩:=HC.out hxne
      have hbn0:=HB.out hxne b rfl
      have hcell0:=(HBl.out.cell (b:=b) (o:=off+p) (.inl hbn0)).trans (hc p hlt)
      have HC2:=Lib.hid hc
      clear hc hxne
      have hP0:p=0∨x.getD (p-1) 0≠x.getD p 0:=by
        rcases HP.out with h | h | h
        · exact .inl h
        · omega
        · exact .inr h
      have HP0:=Lib.hid hP0
      clear HP hP0
      obtain⟨y,hy⟩:∃ y,y=x.getD p 0:=⟨_,rfl⟩
      rw[←hy] at hcell0
      obtain⟨hy0,hy1⟩:=HBy.out p
      rw[←hy] at hy0 hy1
      have HYv:=Lib.hid hy
      clear hy
      gi_wp2
      gi_loopw [3,14] (fun a i w2=>∃ m:Nat,m≤x.length-p∧a = .int .i64 p∧i = .int .i64 m∧w2=wr∧Hid (∀ j,j<m→x.getD (p+j) 0=y)) (fun _ i _=>x.length-p-(intOf i).toNat)
      case atStart=>exact⟨0,Nat.zero_le _,rfl,rfl,rfl,fun j hj=>absurd hj (by omega)⟩
      case round =>
        obtain⟨m,hm,rfl,rfl,rfl,HM⟩:=hrel
        by_cases hlm:m<x.length-p
        · have hlm1:(m:Int)<((x.length-p:Nat):Int):=by omega
          have hlm0:(0:Int)≤(m:Int):=by omega
          have hcell1:wr.cell? ⟨b,off+p+m,none⟩=some (.int .u8 (x.getD (p+m) 0)):=by
            have h1:=HC2.out (p+m) (by omega)
            rw[←Nat.add_assoc] at h1
            exact(HBl.out.cell (b:=b) (o:=off+p+m) (.inl hbn0)).trans h1
          by_cases he:x.getD (p+m) 0=y
          · rw [he] at hcell1
            gi_wp2
            go_roundw
            case rel=>exact⟨m+1,by omega,by trivial,by go_num,by trivial,fun j hj=>by
              by_cases e:j<m
              · exact HM.out j e
              · obtain rfl:j=m:=by omega
                exact he⟩
            case measure=>simp[intOf];omega
          · have hm1:1≤m:=by
              rcases Nat.eq_zero_or_pos m with h | h
              · subst h
                rw[Nat.add_zero,←HYv.out] at he
                exact absurd rfl he
              · exact h
            have hblk:rl x (p+m)=rl x p ++ [(p,m,y)]:=by
              have h1:=rl_block x p (m-1) HP0.out (fun j hj=>by rw[←HYv.out];exact HM.out j (by omega))
              rw[show p+(m-1)+1=p+m by omega,show m-1+1=m by omega,←HYv.out] at h1
              exact h1
            have hbd:x.getD (p+m-1) 0=y:=by
              have:=HM.out (m-1) (by omega)
              rw[show p+(m-1)=p+m-1 by omega] at this
              exact this
            have HBD:Hid (x.getD (p+m-1) 0≠x.getD (p+m) 0):=by
              unfold Hid
              rw[hbd]
              exact fun e=>he e.symm
            have hss:=rl_less hblk (by omega)
            obtain⟨fn,tmps,assign,body,hyy,hR⟩:=HY.out (rl x p) (p,m,y) wr HJ.out hss
            dsimp only[aggW] at hyy
            rw[←hblk] at hR
            obtain⟨z,hz⟩:∃ z,z=x.getD (p+m) 0:=⟨_,rfl⟩
            rw[←hz] at hcell1 he
            have hzy:(z == y)=false:=by simpa using he
            clear hblk hbd hss hz
            gi_wp2
            refine hR.mono ?_
            rintro e W3 (⟨rfl,hJ3,hk3⟩ | ⟨rfl,hJx3⟩)
            · have HB3:=Lib.hid (HBl.out.trans hk3)
              have HJ3:=Lib.hid hJ3
              clear hJ3 hk3 hR hyy
              gi_wp2
              go_roundw
              case rel=>exact⟨p+m,by omega,by go_num,.inr (.inr HBD.out),HJ3.out,HB3.out⟩
              case measure=>simp[intOf];omega
            · clear hR hyy
              gi_wp2
              refine bodyPost_ret (results_none rfl _ _ _) rfl ?_
              exact⟨⟨_,rfl⟩,.inr ⟨rl x (p+m),⟨p+m,by omega,rfl⟩,hJx3⟩⟩
        · obtain rfl:m=x.length-p:=by omega
          have hblk:rl x x.length=rl x p ++ [(p,x.length-p,y)]:=by
            have h1:=rl_block x p (x.length-p-1) HP0.out (fun j hj=>by rw[←HYv.out];exact HM.out j (by omega))
            rw[show p+(x.length-p-1)+1=x.length by omega,show x.length-p-1+1=x.length-p by omega,←HYv.out] at h1
            exact h1
          have hw:IntKind.i64.wrap ((x.length:Int)-(p:Int))=((x.length-p:Nat):Int):=(wrap_id (by omega) (by omega)).trans (by omega)
          have hss:(rl x p).length<(rl x x.length).length:=by rw[hblk];simp
          obtain⟨fn,tmps,assign,body,hyy,hR⟩:=HY.out (rl x p) (p,x.length-p,y) wr.drew (hJ _ _ HJ.out) hss
          dsimp only[aggW] at hyy
          rw[←hblk] at hR
          clear hblk hss
          have hwy:IntKind.i64.wrap y=y:=wrap_id (by omega) (by omega)
          have hR2:=hR.mono (R':=fun e W'=>∃ c,e = .returned (.bool c)∧((c=true∧J (rl x x.length) W')∨(c=false∧Jx (rl x x.length) W'))) (fun e W' h=>by
            rcases h with⟨rfl,h,-⟩ | ⟨rfl,h⟩
            · exact⟨true,rfl,.inl ⟨rfl,h⟩⟩
            · exact⟨false,rfl,.inr ⟨rfl,h⟩⟩)
          clear hR
          gi_wp2
          gi_region_with (refine hR2.mono ?_;rintro e W3 ⟨c,rfl,hres⟩)
          all_goals
            gi_wp2
            refine bodyPost_ret (results_none rfl _ _ _) rfl ?_
            rcases hres with⟨-,h⟩ | ⟨-,h⟩
            · exact⟨⟨_,rfl⟩,.inl ⟨_,rfl,h⟩⟩
            · exact⟨⟨_,rfl⟩,.inr ⟨_,⟨x.length,Nat.le_refl _,rfl⟩,h⟩⟩
    · obtain rfl:p=x.length:=by omega
      have hbn:=(HBl.out.cell (b:=Bn) (o:=0) (.inr rfl)).trans HBn.out
      gi_wp2
      go_end0
      exact⟨⟨_,rfl⟩,.inl HJ.out⟩
theorem runs_stops (n:Nat) (hn:1≤n) (Bn n₀:Nat) (u:Value) (x:List Int) (hlen:x.length≤1048576) (w:World) (hBs:Bn<w.heap.size) (hBn:w.cell? ⟨Bn,0,none⟩=some u) (hx:Row .u8 w u x) (hxb:x ≠ []→∀ b,u.ownBlock=some b→b<n₀) :
    SeqStopsK Fence.wide n Tryz.prog 225 #[.pointer (some ⟨Bn,0,none⟩)] (fun r:Rn => #[aggW r]) (KpB n₀ Bn) (fun ys=>ys=rl x x.length) (fun pre=>∃ p,p≤x.length∧pre=rl x p) (rl x x.length).length w :=
  fun l J Jx W hW hJ _ hY h0=>runs1_in n hn l Bn n₀ u x hlen J Jx (fun s W' hs=>hJ s W' W'.drew none hs ⟨rfl,rfl,rfl,Nat.le_refl _,fun _ _ _=>rfl⟩ (fun r e=>by cases e)) hY W ((hW.cell (p:=⟨Bn,0,none⟩) hBs).trans hBn) (hx.mono hW (Nat.le_refl _)) hxb h0
end Go.Proofs.YtmgeiaglandedaaGreatDoor.Wat
