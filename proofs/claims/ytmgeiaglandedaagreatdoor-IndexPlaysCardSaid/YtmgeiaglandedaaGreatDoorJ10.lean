/- Contracts of the landed watch: its making, parts, counters; runs. Contracts of the landed watch that go through its runs. Contracts of the landed watch: what is looked at and marked. -/
import Derived.Test.YtmgeiaglandedaaGreatDoorJ7
import Derived.Test.YtmgeiaglandedaaGreatDoorJ0
import Derived.Maps.AppendAt
namespace Go.Proofs.YtmgeiaglandedaaGreatDoor.Wat
open Go.RowKit Num Arn
set_option linter.unusedVariables false
structure Hw where
  g:Nat
  b:Nat
def blkW (h:Hw) (k:Nat):Prop:=k=h.g∨k=h.b
def WaT (T:TypeId) (h:Hw) (w:World) (v:Value) (x:List Int) (lk ft:Int):Prop :=
  v = .pointer (some ⟨h.g,0,none⟩)∧w.heap[h.g]? = some (.cells #[.slice (some ⟨h.b,0,none⟩) x.length x.length,.int .i64 lk,.int .i64 ft] T (0,0)) ∧
    w.heap[h.b]? = some (.cells (vals x).toArray 5 (0,0))∧mayW x.length=true∧IsKinds x
theorem WaT.lt {T:TypeId} {h:Hw} {w:World} {v:Value} {x:List Int} {lk ft:Int} (ha:WaT T h w v x lk ft):∀ k,blkW h k→k<w.heap.size:=by
  obtain⟨-,h1,h2,-⟩:=ha
  rintro k (rfl | rfl)
  · exact lt_of_block h1
  · exact lt_of_block h2
theorem WaT.stay {T:TypeId} {h:Hw} {w w':World} {v:Value} {x:List Int} {lk ft:Int} {N:Nat} {S:Nat→Prop} (ha:WaT T h w v x lk ft) (hf:Fr N S w w') (hk:∀ k,blkW h k→k<N∧¬ S k):WaT T h w' v x lk ft:=by
  obtain⟨h0,h1,h2,h3⟩:=ha
  exact⟨h0,(hf.block _ (hk _ (.inl rfl)).1 (hk _ (.inl rfl)).2).trans h1,(hf.block _ (hk _ (.inr rfl)).1 (hk _ (.inr rfl)).2).trans h2,h3⟩
theorem WaT.below {T:TypeId} {h:Hw} {w w':World} {v:Value} {x:List Int} {lk ft:Int} (ha:WaT T h w v x lk ft) (hb:Below w.heap.size w w'):WaT T h w' v x lk ft :=
  ha.stay (Fr.of_below (S:=fun _=>False) hb) (fun k hk=>⟨ha.lt k hk,fun h=>h⟩)
theorem WaT.len {T:TypeId} {h:Hw} {w:World} {v:Value} {x:List Int} {lk ft:Int} (ha:WaT T h w v x lk ft):4≤x.length∧x.length≤1048576:=by
  obtain⟨-,-,-,h3,-⟩:=ha
  have:=mayW_bd h3
  omega
theorem WaT.row {T:TypeId} {h:Hw} {w:World} {v:Value} {x:List Int} {lk ft:Int} (ha:WaT T h w v x lk ft):Row .u8 w (.slice (some ⟨h.b,0,none⟩) x.length x.length) x:=by
  have hl:=ha.len
  obtain⟨-,-,h2,h3,h4⟩:=ha
  exact row_of_block h2 h4.bytes (by omega)
theorem WaT.ne {T:TypeId} {h:Hw} {w:World} {v:Value} {x:List Int} {lk ft:Int} (ha:WaT T h w v x lk ft):h.g≠h.b:=by
  have hl:=ha.len
  obtain⟨-,h1,h2,-,-⟩:=ha
  intro e
  rw[e,h2] at h1
  injection h1 with h1
  injection h1 with h1
  have:=congrArg Array.size h1
  simp[vals] at this
  omega
theorem WaT.cells {T:TypeId} {h:Hw} {w:World} {v:Value} {x:List Int} {lk ft:Int} (ha:WaT T h w v x lk ft) :
    w.cell? ⟨h.g,0,none⟩=some (.slice (some ⟨h.b,0,none⟩) x.length x.length)∧w.cell? ⟨h.g,1,none⟩=some (.int .i64 lk)∧w.cell? ⟨h.g,2,none⟩=some (.int .i64 ft) :=
  ⟨(cell_block ha.2.1 0).trans rfl,(cell_block ha.2.1 1).trans rfl,(cell_block ha.2.1 2).trans rfl⟩
theorem WaT.part {T:TypeId} {h:Hw} {w:World} {v:Value} {x:List Int} {lk ft:Int} (ha:WaT T h w v x lk ft) (a n o c:Nat) (ho:n≠0→o=a) (hc:n≤c) (hc2:c≤1048576) (hf:a+n≤x.length):Row .u8 w (.slice (some ⟨h.b,o,none⟩) n c) ((x.drop a).take n):=by
  have hl:((x.drop a).take n).length=n:=by rw[List.length_take,List.length_drop];omega
  obtain⟨ad,cap,e,-,-,q4,q5⟩:=ha.row
  injection e with e1 e2 e3
  have hx:x ≠ []:=by
    have:=ha.len
    rintro rfl
    simp at this
  obtain⟨b,off,rfl,hlt,hcell⟩:=q5 hx
  injection e1 with e1
  injection e1 with e1 e4 _
  subst e1 e4
  have hg:∀ i,i<n→((x.drop a).take n).getD i 0=x.getD (a+i) 0:=fun i hi=>by simp[List.getD,hi]
  refine⟨_,c,by rw[hl],by rw[hl];exact hc,by omega,fun i hi=>?_,fun hne=>⟨_,_,rfl,hlt,fun i hi=>?_⟩⟩
  · rw[hl] at hi
    rw[hg i hi]
    exact q4 _ (by omega)
  · rw[hl] at hi
    rw[ho (by omega),hg i hi]
    have:=hcell (a+i) (by omega)
    rw[Nat.zero_add] at this
    exact this
abbrev WaC (h:Hw) (w:World) (v:Value) (x:List Int) (lk ft:Int):Prop:=WaT 239 h w v x lk ft
theorem waT_made (T:TypeId) (w:World) (x:List Int) (hm:mayW x.length=true) (hb:IsKinds x) :
    WaT T ⟨w.heap.size+1,w.heap.size⟩ ((w.alloc (.cells (vals x).toArray 5)).alloc (.cells #[.slice (some ⟨w.heap.size,0,none⟩) x.length x.length,.int .i64 0,.int .i64 0] T)) (.pointer (some ⟨w.heap.size+1,0,none⟩)) x 0 0:=by
  have hz:=size_alloc w (.cells (vals x).toArray 5)
  have h1:=heap_alloc_new (w.alloc (.cells (vals x).toArray 5)) (.cells #[.slice (some ⟨w.heap.size,0,none⟩) x.length x.length,.int .i64 0,.int .i64 0] T)
  rw[hz] at h1
  refine⟨rfl,h1,?_,hm,hb⟩
  exact((below_made (w.alloc (.cells (vals x).toArray 5)) _).block _ (show w.heap.size<_ by omega)).trans (heap_alloc_new w _)
theorem infoB:(Tryz.prog.info? 5).map (fun i=>(i.zero,i.size,i.bytes))=some (some (.int .u8 0),1,1):=by kernel_rfl
theorem zeros_cells (n:Nat):madeCells #[Value.int .u8 0] n=(vals (List.replicate n 0)).toArray:=by
  rw[madeCells_one];simp[vals]
set_option maxRecDepth 100000 in
theorem new_yes (n:Nat) (w:World) (h:mayW n=true):Calls Tryz.prog 175 #[.int .i64 (n:Int)] w fun e w'=>∃ v h,e = .returned v∧WaC h w' v (List.replicate n 0) 0 0∧Below w.heap.size w w'∧∀ k,blkW h k→w.heap.size≤k:=by
  obtain⟨i0,hi,hz0,hz1,hz2⟩:=info_parts infoB
  obtain⟨b1,b2,b3⟩:=mayW_bd h
  have HA:=Lib.hid (waT_made 239 w (List.replicate n 0) (by rw[List.length_replicate];exact h) (kinds_zeros n))
  have HB:=Lib.hid (((Below.refl w.heap.size w).alloc (Nat.le_refl _) (.cells (madeCells #[Value.int .u8 0] n) 5)).alloc (le_alloc _ (Nat.le_refl _)) (.cells #[.slice (some ⟨w.heap.size,0,none⟩) n n,.int .i64 0,.int .i64 0] 239))
  rw[←zeros_cells,List.length_replicate] at HA
  have hz:(w.alloc (.cells (madeCells #[.int .u8 0] n) 5)).heap.size=w.heap.size+1:=Array.size_push _
  have g0:¬ (n:Int)<4:=by omega
  have g1:decide ((1048576:Int)<(n:Int))=false:=by rw[decide_eq_false_iff_not];omega
  have g2:(n:Int) % 4=0:=b3
  have g3:Int.tmod (n:Int) 4=0:=by rw[Int.tmod_eq_emod_of_nonneg (by omega)];exact b3
  clear h b3
  go_enter Tryz.func175,Tryz.ntmps175
  go_wp2_with (refine wpList_make_row rfl (.tmp 14) (.tmp 14) 51 rfl 5 i0 (.int .u8 0) 1 Tryz.underlying51 hi hz0 hz1 hz2 .i64 .i64 n rfl rfl (by omega) (by omega) ?_)
  go_ret
  exact⟨_,rfl,_,HA.out,HB.out,by rintro k (rfl | rfl)<;>simp⟩
theorem made_any (h:Hw) (v:Value) (x:List Int) (lk ft:Int) (w:World) (ha:WaC h w v x lk ft):Calls Tryz.prog 161 #[v] w fun e w'=>e = .returned (.bool true)∧w=w':=by
  have hl:=ha.len
  obtain⟨c0,-,-⟩:=ha.cells
  obtain⟨rfl,-⟩:=ha
  have hp:(0:Int)<(x.length:Int):=by omega
  go_enter Tryz.func161,Tryz.ntmps161
  go_wp2
  go_ret
  exact⟨ret_bool (by simpa using hp),rfl⟩
theorem faults_any (h:Hw) (v:Value) (x:List Int) (lk ft:Int) (w:World) (ha:WaC h w v x lk ft):Calls Tryz.prog 129 #[v] w fun e w'=>e = .returned (.int .i64 ft)∧w=w':=by
  have HM:=Lib.hid (made_any h v x lk ft w ha)
  obtain⟨-,-,c2⟩:=ha.cells
  obtain⟨rfl,-⟩:=ha
  go_enter Tryz.func129,Tryz.ntmps129
  go_wp2_with fail
  refine HM.out.mono ?_
  rintro e w' ⟨rfl,rfl⟩
  go_wp2
  go_ret
  exact⟨rfl,rfl⟩
def ptA (l a:Nat):Nat:=if l=a then 0 else a
set_option maxRecDepth 100000 in
theorem part_yes (h:Hw) (v:Value) (x:List Int) (lk ft:Int) (a n:Nat) (w:World) (ha:WaC h w v x lk ft) (hf:a+n≤x.length) :
    Calls Tryz.prog 162 #[v,.int .i64 (a:Int),.int .i64 (n:Int)] w fun e w'=>e = .returned (.tuple #[.slice (some ⟨h.b,ptA x.length a,none⟩) n (x.length-a),.bool true])∧w=w':=by
  have hl:=ha.len
  obtain⟨c0,-,-⟩:=ha.cells
  obtain⟨rfl,-⟩:=ha
  have e0:(0:Int)≤(a:Int):=by omega
  have e1:(0:Int)≤(n:Int):=by omega
  obtain⟨d,hd⟩:∃ d:Nat,d=x.length-a:=⟨_,rfl⟩
  have w1:IntKind.i64.wrap ((x.length:Int)-(a:Int))=(d:Int):=(wrap_id (by omega) (by omega)).trans (by omega)
  obtain⟨s,hs⟩:∃ s:Nat,s=a+n:=⟨_,rfl⟩
  have w2:IntKind.i64.wrap ((a:Int)+(n:Int))=(s:Int):=(wrap_id (by omega) (by omega)).trans (by omega)
  have e3:(a:Int)≤(s:Int):=by omega
  have e4:(s:Int)≤(x.length:Int):=by omega
  have g0:¬ ((a:Int)<0):=by omega
  have g1:decide ((n:Int)<0)=false:=by rw[decide_eq_false_iff_not];omega
  have g2:decide ((d:Int)<(n:Int))=false:=by rw[decide_eq_false_iff_not];omega
  have g4:decide (d<n)=false:=by rw[decide_eq_false_iff_not];omega
  have hsub:s-a=n:=by omega
  by_cases hc:x.length=a
  · obtain rfl:n=0:=by omega
    obtain rfl:s=a:=by omega
    have hpt:ptA x.length s=0:=by rw[ptA,if_pos hc]
    rw[hpt,←hc,Nat.sub_self]
    subst hc
    clear hd hs hsub hpt
    go_enter Tryz.func162,Tryz.ntmps162
    go_wp2
    go_ret2
    exact⟨rfl,rfl⟩
  · have hpt:ptA x.length a=a:=by rw[ptA,if_neg hc]
    rw[hpt]
    clear hd hs hpt
    go_enter Tryz.func162,Tryz.ntmps162
    go_wp2
    go_ret2
    exact⟨rfl,rfl⟩
theorem part_no (h:Hw) (v:Value) (x:List Int) (lk ft:Int) (a n:Int) (w:World) (ha:WaC h w v x lk ft) (h64:is64 a) (hf:fitB x.length a n=false) :
    Calls Tryz.prog 162 #[v,.int .i64 a,.int .i64 n] w fun e w'=>e = .returned (.tuple #[.slice none 0 0,.bool false])∧w=w':=by
  have hl:=ha.len
  have hnf:=fitB_not hf
  unfold is64 at h64
  obtain⟨c0,-,-⟩:=ha.cells
  obtain⟨rfl,-⟩:=ha
  by_cases a0:a<0
  · clear hnf hf
    go_enter Tryz.func162,Tryz.ntmps162
    go_wp2
    go_ret2
    exact⟨rfl,rfl⟩
  · have a1:0≤a:=by omega
    by_cases m0:n<0
    · clear hnf hf
      go_enter Tryz.func162,Tryz.ntmps162
      go_wp2
      go_ret2
      exact⟨rfl,rfl⟩
    · have m1:0≤n:=by omega
      obtain⟨d,hd⟩:∃ d:Int,d=(x.length:Int)-a:=⟨_,rfl⟩
      have w1:IntKind.i64.wrap ((x.length:Int)-a)=d:=(wrap_id (by omega) (by omega)).trans hd.symm
      have e2:d<n:=by omega
      have g1:decide (n<0)=false:=by rw[decide_eq_false_iff_not];omega
      have g2:decide (d<n)=true:=by rw[decide_eq_true_eq];exact e2
      clear hnf hf hd
      go_enter Tryz.func162,Tryz.ntmps162
      go_wp2
      go_ret2
      exact⟨rfl,rfl⟩
theorem runs_any (ad:Option Addr) (len cap:Nat) (w:World):Calls Tryz.prog 163 #[.slice ad len cap] w fun e w'=>e = .returned (.func (.func 225) #[] #[.pointer (some ⟨w.heap.size,0,none⟩)])∧w'=w.alloc (.cells #[.slice ad len cap] 51):=by
  go_enter Tryz.func163,Tryz.ntmps163
  go_wp2
  go_ret
  exact⟨rfl,rfl⟩
end Go.Proofs.YtmgeiaglandedaaGreatDoor.Wat

namespace Go.Proofs.YtmgeiaglandedaaGreatDoor.Wat
open Go.RowKit Go.Shelf Num Arn
set_option linter.unusedVariables false
attribute [local go_sem] Oper.semAt_some
def B3 (W:World) (B:Nat) (r:Rn):Prop:=W.heap[B]? = some (.cells #[.int .i64 (r.1:Int),.int .i64 (r.2.1:Int),.int .i64 r.2.2] 195 (0,0))
theorem B3.new (W:World) (r:Rn):B3 (W.alloc (.cells #[.int .i64 (r.1:Int),.int .i64 (r.2.1:Int),.int .i64 r.2.2] 195)) W.heap.size r:=heap_alloc_new _ _
theorem B3.own (B:Nat) (r:Rn):Own (fun(_:Unit) W=>B3 W B r):=fun s X Y row hs hg hrow =>
  (hg.block B (Array.getElem?_eq_some_iff.1 hs).1 (fun e=>by obtain⟨o,ho,hc⟩:=hrow B e.symm;rw[show X.heap[B]? = _ from hs] at ho;cases ho;cases hc)).trans hs
theorem B3.cells {W:World} {B p n:Nat} {k:Int} (h:B3 W B (p,n,k)):W.cell? ⟨B,0,none⟩=some (.int .i64 (p:Int))∧W.cell? ⟨B,1,none⟩=some (.int .i64 (n:Int))∧W.cell? ⟨B,2,none⟩=some (.int .i64 k) :=
  ⟨(cell_block h 0).trans rfl,(cell_block h 1).trans rfl,(cell_block h 2).trans rfl⟩
set_option maxRecDepth 100000 in
set_option maxHeartbeats 4000000 in
theorem kind_yes_any (h:Hw) (v:Value) (x:List Int) (lk ft:Int) (a n:Nat) (w:World) (ha:WaC h w v x lk ft) (hf:a+n≤x.length) :
    Calls Tryz.prog 82 #[v,.int .i64 (a:Int),.int .i64 (n:Int)] w fun e w'=>e = .returned (.int .i64 (kndS ((x.drop a).take n)))∧Below w.heap.size w w':=by
  have hl:=ha.len
  have hal:=(below_made w (.cells #[.int .i64 (n:Int)] 3)).trans ((below_made (w.alloc (.cells #[.int .i64 (n:Int)] 3)) (.cells #[.int .i64 0] 3)).mono (by simp))
  have HM:=Lib.hid (made_any h v x lk ft _ (ha.below hal))
  have HP:=Lib.hid (part_yes h v x lk ft a n _ (ha.below hal) hf)
  have hrow0:=ha.part a n (ptA x.length a) (x.length-a) (fun hn=>by unfold ptA;split<;>omega) (by omega) (by omega) hf
  have hlt:=ha.lt
  have hb:=hlt h.b (.inr rfl)
  obtain⟨rfl,-⟩:=ha
  have hyl:((x.drop a).take n).length=n:=by rw[List.length_take,List.length_drop];omega
  obtain⟨y,hy⟩:∃ y,y=(x.drop a).take n:=⟨_,rfl⟩
  obtain⟨c,hc⟩:∃ c,c=x.length-a:=⟨_,rfl⟩
  obtain⟨o,ho⟩:∃ o,o=ptA x.length a:=⟨_,rfl⟩
  rw[←hy] at hrow0 hyl ⊢
  rw[←hc,←ho] at hrow0 HP
  have HR:=Lib.hid (fun W=>runs_any (some ⟨h.b,o,none⟩) n c W)
  clear hy hc ho
  refine(callsIn_wide (n:=6)).1 ?_
  refine callsIn_of_wp_marks Tryz.func82 rfl trivial ?_ rfl
  simp only[Tryz.ntmps82,List.size_toArray,List.length_cons,List.length_nil,Nat.reduceAdd,Nat.reduceSub,Array.replicate_succ,Array.replicate_zero,List.push_toArray,List.append_toArray,List.nil_append,List.cons_append]
  gi_wp2_with (first | (refine⟨trivial,?_⟩;gi_at_call 161;refine(callsIn_wide.2 HM.out).mono ?_;rintro e w' ⟨rfl,rfl⟩) | (refine⟨trivial,?_⟩;gi_at_call 162;refine(callsIn_wide.2 HP.out).mono ?_;rintro e w' ⟨rfl,rfl⟩) | (refine⟨trivial,?_⟩;gi_at_call 163;refine(callsIn_wide.2 (HR.out _)).mono ?_;rintro e w' ⟨rfl,rfl⟩))
  have bK:=((Boxed.new w 3 (.int .i64 (n:Int))).alloc (.cells #[.int .i64 0] 3)).alloc (.cells #[.slice (some ⟨h.b,o,none⟩) n c] 51)
  have bS:=(Boxed.new (w.alloc (.cells #[.int .i64 (n:Int)] 3)) 3 (.int .i64 0)).alloc (.cells #[.slice (some ⟨h.b,o,none⟩) n c] 51)
  have bN:=Boxed.new ((w.alloc (.cells #[.int .i64 (n:Int)] 3)).alloc (.cells #[.int .i64 0] 3)) 51 (.slice (some ⟨h.b,o,none⟩) n c)
  simp only[World.size_alloc] at bS bN
  have hB0:Below w.heap.size w (((w.alloc (.cells #[.int .i64 (n:Int)] 3)).alloc (.cells #[.int .i64 0] 3)).alloc (.cells #[.slice (some ⟨h.b,o,none⟩) n c] 51)):=(((Below.refl _ w).alloc (Nat.le_refl _) _).alloc (by simp) _).alloc (by simp;omega) _
  have hsz:(((w.alloc (.cells #[.int .i64 (n:Int)] 3)).alloc (.cells #[.int .i64 0] 3)).alloc (.cells #[.slice (some ⟨h.b,o,none⟩) n c] 51)).heap.size=w.heap.size+3:=by simp
  obtain⟨W0,hW0⟩:∃ W0,((w.alloc (.cells #[.int .i64 (n:Int)] 3)).alloc (.cells #[.int .i64 0] 3)).alloc (.cells #[.slice (some ⟨h.b,o,none⟩) n c] 51)=W0:=⟨_,rfl⟩
  rw[hW0] at bK bS bN hB0 hsz ⊢
  clear hW0
  have hrow:=hrow0.mono hB0 (Nat.le_refl _)
  refine wpIn_rangeFunc_ownH rfl (by omega) (gf:=225) (lb := #[.pointer (some ⟨w.heap.size+1+1,0,none⟩)]) rfl trivial (enters_of Tryz.func225 (by kernel_rfl) rfl)
    (runs_stops 5 (by omega) (w.heap.size+1+1) w.heap.size _ y (by omega) W0 (by omega) bN.cell hrow (fun _ b e=>by cases e;exact hb)) (fun h k=>h.trans k) (KpB.put (by omega) (by omega)) (Below.refl _ _) (fun _=>rfl)
    (fun pre W=>((((∀ r∈pre,r.2.1≠n)∧Boxed W (w.heap.size+1) 3 (.int .i64 0))∧Boxed W w.heap.size 3 (.int .i64 (n:Int)))∧Boxed W (w.heap.size+1+1) 51 (.slice (some ⟨h.b,o,none⟩) n c))∧Below w.heap.size w W)
    (fun c pre W=>(c = .ret∧∃ r,pre.getLast? = some r∧r.2.1=n∧Boxed W (w.heap.size+1) 3 (.int .i64 r.2.2))∧Below w.heap.size w W)
    (OwnFrom.and (OwnFrom.and (OwnFrom.and (OwnFrom.and (ownFrom_pure _ _) (Own.from (boxed_own _ _ _) _)) (Own.from (boxed_own _ _ _) _)) (Own.from (boxed_own _ _ _) _)) (ownFrom_below (Nat.le_refl _) (by omega)))
    (fun c=>OwnFrom.and (Own.from (fun s X Y row hs hg hr=>by obtain⟨e,r,h1,h2,h3⟩:=hs;exact⟨e,r,h1,h2,boxed_own _ _ (fun(_:Unit)=>Value.int .i64 r.2.2) () X Y row h3 hg hr⟩) _) (ownFrom_below (Nat.le_refl _) (by omega)))
    ⟨⟨⟨⟨by simp,bS⟩,bK⟩,bN⟩,hB0⟩
    (fun r a' W=>∃ Bx,B3 W Bx r∧a' = { tmps := #[.pointer (some ⟨h.g,0,none⟩),.int .i64 (a:Int),.int .i64 (n:Int),undef,undef,.pointer (some ⟨w.heap.size,0,none⟩),.pointer (some ⟨w.heap.size+1,0,none⟩),.slice (some ⟨h.b,o,none⟩) n c,.bool true,.pointer (some ⟨Bx,0,none⟩),.pointer (some ⟨h.g,0,none⟩),.bool true,.bool false,.tuple #[.slice (some ⟨h.b,o,none⟩) n c,.bool true],.pointer (some ⟨h.g,0,none⟩),.int .i64 (a:Int),.int .i64 (n:Int),.tuple #[.slice (some ⟨h.b,o,none⟩) n c,.bool true],.slice (some ⟨h.b,o,none⟩) n c,.bool true,.bool true,.bool false,.slice (some ⟨h.b,o,none⟩) n c,.func (.func 225) #[] #[.pointer (some ⟨w.heap.size+1+1,0,none⟩)],aggW r,undef,undef,undef,undef,undef,undef],defers := [] })
    (fun r a' _ X Y row hs hg hr=>by obtain⟨Bx,h2,h3⟩:=hs;exact⟨Bx,B3.own Bx r () X Y row h2 hg (fun r e=>(hr r e).2),h3⟩)
    ?assign ?body ?done ?stop
  case assign =>
    rintro l pre r W K ⟨⟨⟨⟨hne,bS1⟩,bK1⟩,bN1⟩,hB1⟩ hK
    have hs1:=hB1.size
    have hs2:=bN1.lt
    obtain⟨p,m,q⟩:=r
    dsimp only[aggW] at hK ⊢
    gi_wp2
    exact hK _ _ ((KeepsOthers.alloc _ _).from _) ((KpB.refl _ _ _).alloc hs1 hs2 _) ⟨⟨⟨⟨hne,bS1.alloc _⟩,bK1.alloc _⟩,bN1.alloc _⟩,hB1.alloc hs1 _⟩ ⟨W.heap.size,B3.new W (p,m,q),rfl⟩
  case body =>
    rintro l pre r a' W hl ⟨rr,hr⟩ ⟨⟨⟨⟨hne,bS1⟩,bK1⟩,bN1⟩,hB1⟩ ⟨Bx,bX,rfl⟩ hlt
    obtain⟨p,m,q⟩:=r
    obtain⟨d0,d1,d2⟩:=bX.cells
    have cS:=bS1.cell
    have fS:=bS1.frozen
    have cK:=bK1.cell
    by_cases he:m=n
    · subst he
      gi_wp2
      exact⟨(KeepsOthers.setCell _ _ _).from _,⟨rfl,(p,m,q),by simp,rfl,bS1.set _⟩,hB1.setCell (p:=⟨w.heap.size+1,0,none⟩) (by simp) _⟩
    · have he2:((m:Int) == (n:Int))=false:=by rw[beq_eq_false_iff_ne];omega
      have he3:¬ (m:Int)=(n:Int):=by omega
      gi_wp2
      exact⟨KeepsFrom.refl _ _,KpB.refl _ _ _,⟨⟨⟨fun r hr=>by
        rw[List.mem_append,List.mem_singleton] at hr
        rcases hr with hr | rfl
        · exact hne r hr
        · exact he,bS1⟩,bK1⟩,bN1⟩,hB1⟩
  case done =>
    rintro D ys W hD rfl ⟨⟨⟨⟨hne,bS1⟩,bK1⟩,bN1⟩,hB1⟩ hK
    have cS:=bS1.cell
    have fS:=bS1.frozen
    gi_wp2
    have hK':=(KeepsOthers.setCell W ⟨w.heap.size+1,0,none⟩ (.int .i64 0)).same D _ hK rfl
    refine⟨by simp,.inl ⟨_,_,rfl,run_takeDeferred hK',?_⟩⟩
    have hc5:=cell_kept (World.cell?_setCell_same' W ⟨w.heap.size+1,0,none⟩ (.int .i64 0) (by rw[cS];rfl)) (grownBy_putObj' _ D (.deferred none)) (fun r e=>by cases e;exact⟨_,hK',rfl⟩)
    refine⟨.int .i64 0,?_,ret_int (kind_no (fun r hr=>by rw[hyl];exact hne r hr)).symm,(hB1.setCell (p:=⟨w.heap.size+1,0,none⟩) (by simp) _).trans (belowK_b (w:=w) (Nat.le_refl _) _ D _ _ (by omega) hK' rfl rfl)⟩
    simp[results,Tryz.f82,go_sem,hc5]
  case stop =>
    rintro D c pre W hD ⟨p,hp,rfl⟩ ⟨⟨rfl,r,hr1,hr2,bS1⟩,hB1⟩ hK
    gi_wp2
    refine⟨by simp,.inl ⟨_,_,rfl,run_takeDeferred hK,?_⟩⟩
    have hc5:=cell_kept bS1.cell (grownBy_putObj' _ D (.deferred none)) (fun r e=>by cases e;exact⟨_,hK,rfl⟩)
    refine⟨.int .i64 r.2.2,?_,ret_int (kind_yes hp hr1 (by rw[hyl];exact hr2)).symm,hB1.trans (belowK_b (w:=w) (Nat.le_refl _) W D _ _ (by omega) hK rfl rfl)⟩
    simp[results,Tryz.f82,go_sem,hc5]
theorem kind_not_any (h:Hw) (v:Value) (x:List Int) (lk ft:Int) (a n:Int) (w:World) (ha:WaC h w v x lk ft) (h64:is64 a) (hf:fitB x.length a n=false) :
    Calls Tryz.prog 82 #[v,.int .i64 a,.int .i64 n] w fun e w'=>e = .returned (.int .i64 0)∧Below w.heap.size w w':=by
  have hal:=(below_made w (.cells #[.int .i64 n] 3)).trans ((below_made (w.alloc (.cells #[.int .i64 n] 3)) (.cells #[.int .i64 0] 3)).mono (by simp))
  have HM:=Lib.hid (made_any h v x lk ft _ (ha.below hal))
  have HP:=Lib.hid (part_no h v x lk ft a n _ (ha.below hal) h64 hf)
  have bS:=Boxed.new (w.alloc (.cells #[.int .i64 n] 3)) 3 (.int .i64 0)
  rw[World.size_alloc] at bS
  have cS:=bS.cell
  have fS:=bS.frozen
  have HS:=Lib.hid bS.cell
  have HB:=Lib.hid hal
  obtain⟨rfl,-⟩:=ha
  clear hf h64 hal bS
  go_enter Tryz.func82,Tryz.ntmps82
  go_wp2_with fail
  refine HM.out.mono ?_
  rintro e w' ⟨rfl,rfl⟩
  go_wp2_with fail
  refine HP.out.mono ?_
  rintro e w' ⟨rfl,rfl⟩
  go_wp2
  refine bodyPost_ret (v:=.int .i64 0) (by simp[results,Tryz.results82,go_sem,HS.out]) rfl ⟨rfl,HB.out⟩
theorem kind_any (h:Hw) (v:Value) (x:List Int) (lk ft:Int) (a n:Int) (w:World) (ha:WaC h w v x lk ft) (h64:is64 a) :
    Calls Tryz.prog 82 #[v,.int .i64 a,.int .i64 n] w fun e w'=>e = .returned (.int .i64 (kndA x a n))∧Below w.heap.size w w':=by
  unfold kndA
  by_cases hf:fitB x.length a n=true
  · rw[if_pos hf]
    obtain⟨p,q,rfl,rfl,h1⟩:=fitB_nat hf
    exact kind_yes_any h v x lk ft p q w ha h1
  · rw[if_neg hf]
    exact kind_not_any h v x lk ft a n w ha h64 (by simpa using hf)
end Go.Proofs.YtmgeiaglandedaaGreatDoor.Wat

namespace Go.Proofs.YtmgeiaglandedaaGreatDoor.Wat
open Go.RowKit Num Arn
set_option linter.unusedVariables false
def alnB (a n:Int):Bool:=isW n && decide (a % n=0)
theorem lookA_eq (x:List Int) (a n k:Int):lookA x a n k=(alnB a n && (decide (k≠0) && decide (kndA x a n=k))):=by
  unfold lookA alnB
  by_cases hf:fitB x.length a n=true
  · rw[hf]
    cases isW n<;>simp
  · have hk:kndA x a n=0:=by rw[kndA,if_neg hf]
    have hf':fitB x.length a n=false:=by simpa using hf
    rw[hk,hf']
    by_cases h0:k=0
    · subst h0;simp
    · have:¬ (0:Int)=k:=fun e=>h0 e.symm
      simp[this]
theorem tmod_zero (a n:Int):Int.tmod a n=0↔a % n=0:=by
  rw[←Int.dvd_iff_tmod_eq_zero,←Int.dvd_iff_emod_eq_zero]
theorem aligned_any (a n:Int) (w:World):Calls Tryz.prog 251 #[.int .i64 a,.int .i64 n] w fun e w'=>e = .returned (.bool (alnB a n))∧w=w':=by
  have HT:=Lib.hid (tmod_zero a n)
  by_cases h1:n=1
  · subst h1
    go_enter Tryz.func251,Tryz.ntmps251
    go_wp2
    go_ret
    exact⟨ret_bool (by simp[alnB,isW]),rfl⟩
  · by_cases h2 : n = 2
    · subst h2
      go_enter Tryz.func251,Tryz.ntmps251
      go_wp2
      go_ret
      exact⟨ret_bool (by rw[Bool.eq_iff_iff];simp[alnB,isW];exact HT.out),rfl⟩
    · by_cases h4 : n = 4
      · subst h4
        go_enter Tryz.func251,Tryz.ntmps251
        go_wp2
        go_ret
        exact⟨ret_bool (by rw[Bool.eq_iff_iff];simp[alnB,isW];exact HT.out),rfl⟩
      · by_cases h8 : n = 8
        · subst h8
          go_enter Tryz.func251,Tryz.ntmps251
          go_wp2
          go_ret
          exact⟨ret_bool (by rw[Bool.eq_iff_iff];simp[alnB,isW];exact HT.out),rfl⟩
        · have HW:Hid (alnB a n=false):=by simp[Hid,alnB,isW,h1,h2,h4,h8]
          have e1:(n == 1)=false:=by simpa using h1
          have e2:(n == 2)=false:=by simpa using h2
          have e4:(n == 4)=false:=by simpa using h4
          have e8:(n == 8)=false:=by simpa using h8
          go_enter Tryz.func251,Tryz.ntmps251
          go_wp2
          go_ret
          exact⟨ret_bool HW.out.symm,rfl⟩
theorem frozen_block {w:World} {g:Nat} {c:Array Value} {e:TypeId} (h:w.heap[g]? = some (.cells c e (0,0))) (i:Nat):w.frozen? ⟨g,i,none⟩=false:=by simp[World.frozen?,h]
theorem WaT.tick {T:TypeId} {h:Hw} {w:World} {v:Value} {x:List Int} {lk ft:Int} (ha:WaT T h w v x lk ft) (m:Int):WaT T h (w.setCell ⟨h.g,1,none⟩ (.int .i64 m)) v x m ft:=by
  have hne:=ha.ne
  obtain⟨h0,h1,h2,h3⟩:=ha
  exact⟨h0,heap_setCell_own h1 _,(Below.heap_setCell _ _ _ _ (by exact fun e=>hne e.symm)).trans h2,h3⟩
theorem WaT.tock {T:TypeId} {h:Hw} {w:World} {v:Value} {x:List Int} {lk ft:Int} (ha:WaT T h w v x lk ft) (m:Int):WaT T h (w.setCell ⟨h.g,2,none⟩ (.int .i64 m)) v x lk m:=by
  have hne:=ha.ne
  obtain⟨h0,h1,h2,h3⟩:=ha
  exact⟨h0,heap_setCell_own h1 _,(Below.heap_setCell _ _ _ _ (by exact fun e=>hne e.symm)).trans h2,h3⟩
theorem WaT.free {T:TypeId} {h:Hw} {w:World} {v:Value} {x:List Int} {lk ft:Int} (ha:WaT T h w v x lk ft) (o:Nat):w.frozen? ⟨h.g,o,none⟩=false:=by
  obtain⟨h0,h1,h2,h3⟩:=ha
  exact frozen_block h1 o
def Looked (T:TypeId) (h:Hw) (w:World) (v:Value) (x:List Int) (lk ft:Int) (r:Bool) (e:Ending) (w':World):Prop :=
  e = .returned (.bool r)∧WaT T h w' v x (wrap64 (lk+1)) (if r then ft else wrap64 (ft+1))∧Fr w.heap.size (blkW h) w w'
set_option maxRecDepth 100000 in
set_option maxHeartbeats 2000000 in
theorem look_any (h:Hw) (v:Value) (x:List Int) (lk ft:Int) (a n k:Int) (w:World) (ha:WaC h w v x lk ft) (h64:is64 a) :
    Calls Tryz.prog 215 #[v,.int .i64 a,.int .i64 n,.int .i64 k] w (Looked 239 h w v x lk ft (lookA x a n k)):=by
  have HM:=Lib.hid (made_any h v x lk ft w ha)
  obtain⟨lk1,hlk1⟩:∃ m:Int,m=wrap64 (lk+1):=⟨_,rfl⟩
  obtain⟨ft1,hft1⟩:∃ m:Int,m=wrap64 (ft+1):=⟨_,rfl⟩
  have hs:wrap64 (lk+1)=lk1:=hlk1.symm
  have hs2:wrap64 (ft+1)=ft1:=hft1.symm
  have ha1:=ha.tick lk1
  have hf1:Fr w.heap.size (blkW h) w (w.setCell ⟨h.g,1,none⟩ (.int .i64 lk1)):=(Fr.refl _ _ w).setCell (.inr (.inl rfl)) _
  obtain⟨-,c1,c2⟩:=ha.cells
  have f1:=ha.free 1
  have hv:=ha.1
  subst hv
  obtain⟨w1,hw1⟩:∃ w1,w1=w.setCell ⟨h.g,1,none⟩ (.int .i64 lk1):=⟨_,rfl⟩
  rw[←hw1] at ha1 hf1
  have HA:=Lib.hid (aligned_any a n w1)
  have HK:=Lib.hid (kind_any h _ x lk1 ft a n w1 ha1 h64)
  obtain⟨-,-,d2⟩:=ha1.cells
  have f2:=ha1.free 2
  have HA1:=Lib.hid ha1
  have HF1:=Lib.hid hf1
  have hl:=lookA_eq x a n k
  obtain⟨r,hr⟩:∃ r,r=lookA x a n k:=⟨_,rfl⟩
  obtain⟨q,hq⟩:∃ q,q=kndA x a n:=⟨_,rfl⟩
  obtain⟨g,hg⟩:∃ g,g=alnB a n:=⟨_,rfl⟩
  rw[←hr,←hq,←hg] at hl
  rw[←hq] at HK
  rw[←hg] at HA
  rw[←hr]
  have HFin:Hid (∀ w3,Below w1.heap.size w1 w3→Looked 239 h w (.pointer (some ⟨h.g,0,none⟩)) x lk ft true (.returned (.bool true)) w3∧Looked 239 h w (.pointer (some ⟨h.g,0,none⟩)) x lk ft false (.returned (.bool false)) (w3.setCell ⟨h.g,2,none⟩ (.int .i64 ft1))∧w3.cell? ⟨h.g,2,none⟩=some (.int .i64 ft)∧w3.frozen? ⟨h.g,2,none⟩=false):=by
    intro w3 hb
    have h3:=HA1.out.below hb
    have hf3:=HF1.out.below hb (HF1.out.size)
    rw[hlk1] at h3
    rw[hft1]
    exact⟨⟨rfl,h3,hf3⟩,⟨rfl,h3.tock (wrap64 (ft+1)),hf3.setCell (.inr (.inl rfl)) _⟩,h3.cells.2.2,h3.free 2⟩
  rw[hw1] at HA HK HFin d2 f2
  clear ha h64 hr hq hg ha1 hf1 hlk1 hft1 HA1 HF1 hw1
  by_cases h1:g=true
  · subst h1
    by_cases h2:k=0
    · subst h2
      obtain rfl:r=false:=by rw[hl];simp
      obtain⟨-,hz,-,-⟩:=HFin.out _ (Below.refl _ _)
      have HZ:=Lib.hid hz
      clear hl hz
      go_enter Tryz.func215,Tryz.ntmps215
      go_wp2_with fail
      refine HM.out.mono ?_
      rintro e w' ⟨rfl,rfl⟩
      go_wp2_with fail
      refine HA.out.mono ?_
      rintro e w' ⟨rfl,rfl⟩
      go_wp2
      go_ret
      exact HZ.out
    · have h2':(k == 0)=false:=by simpa using h2
      by_cases h3:q=k
      · subst h3
        obtain rfl:r=true:=by rw[hl];simp[h2]
        clear hl
        go_enter Tryz.func215,Tryz.ntmps215
        go_wp2_with fail
        refine HM.out.mono ?_
        rintro e w' ⟨rfl,rfl⟩
        go_wp2_with fail
        refine HA.out.mono ?_
        rintro e w' ⟨rfl,rfl⟩
        go_wp2_with fail
        refine HK.out.mono ?_
        rintro e w3 ⟨rfl,hb⟩
        obtain⟨hz,-,-,-⟩:=HFin.out _ hb
        have HZ:=Lib.hid hz
        clear hz
        go_wp2
        go_ret
        exact HZ.out
      · obtain rfl:r=false:=by rw[hl];simp[h3]
        have h3':(q == k)=false:=by simpa using h3
        clear hl
        go_enter Tryz.func215,Tryz.ntmps215
        go_wp2_with fail
        refine HM.out.mono ?_
        rintro e w' ⟨rfl,rfl⟩
        go_wp2_with fail
        refine HA.out.mono ?_
        rintro e w' ⟨rfl,rfl⟩
        go_wp2_with fail
        refine HK.out.mono ?_
        rintro e w3 ⟨rfl,hb⟩
        obtain⟨-,hz,e2,f3⟩:=HFin.out _ hb
        have HZ:=Lib.hid hz
        clear hz
        go_wp2
        go_ret
        exact HZ.out
  · obtain rfl:g=false:=by simpa using h1
    obtain rfl:r=false:=by rw[hl];simp
    obtain⟨-,hz,-,-⟩:=HFin.out _ (Below.refl _ _)
    have HZ:=Lib.hid hz
    clear hl hz
    go_enter Tryz.func215,Tryz.ntmps215
    go_wp2_with fail
    refine HM.out.mono ?_
    rintro e w' ⟨rfl,rfl⟩
    go_wp2_with fail
    refine HA.out.mono ?_
    rintro e w' ⟨rfl,rfl⟩
    go_wp2
    go_ret
    exact HZ.out
theorem wrL_set (x M:List Int) (o i:Nat) (y:Int) (hi:i<M.length) (ho:o+M.length≤x.length):(wrL x o M).set (o+i) y=wrL x o (M.set i y):=by
  unfold wrL
  rw[List.length_set,List.set_append_right _ _ (by rw[List.length_take];omega),List.length_take,Nat.min_eq_left (by omega),show o+i-o=i by omega,List.set_append_left _ _ hi]
theorem rep_set (n i:Nat) (k z:Int) (h:i<n):(List.replicate i k++List.replicate (n-i) z).set i k=List.replicate (i+1) k++List.replicate (n-(i+1)) z:=by
  rw[List.set_append_right _ _ (by simp),List.length_replicate,Nat.sub_self,show n-i=(n-(i+1))+1 by omega,List.replicate_succ,List.set_cons_zero,List.replicate_succ']
  simp
set_option maxRecDepth 100000 in
set_option maxHeartbeats 2000000 in
theorem markP_any (b o n c:Nat) (x:List Int) (k:Int) (w:World) (hb:w.heap[b]? = some (.cells (vals x).toArray 5 (0,0))) (hfit:o+n≤x.length) (hl:x.length≤1048576) (h0:0≤k) (h8:k≤8) :
    Calls Tryz.prog 230 #[.slice (some ⟨b,o,none⟩) n c,.int .i64 k] w fun e w'=>e = .returned (.tuple #[])∧w'.heap[b]? = some (.cells (vals (wrL x o (List.replicate n k))).toArray 5 (0,0))∧Fr w.heap.size (fun m=>m=b) w w':=by
  by_cases hn:n=0
  · subst hn
    have HE:Hid (w.heap[b]? = some (.cells (vals (wrL x o (List.replicate 0 k))).toArray 5 (0,0))):=by
      unfold Hid
      rw[List.replicate_zero,wrL_nil]
      exact hb
    have hcl0:∀ ty W,(Builtin.clear_ #[51] ty #[.slice (some ⟨b,o,none⟩) 0 c]).run Tryz.prog W = .ok (.tuple #[]) W:=fun ty W=>by
      simp[Builtin.clear_,run_underlying (P:=Tryz.prog) Tryz.underlying51]
    clear hb
    by_cases hk:k=0
    · subst hk
      go_enter Tryz.func230,Tryz.ntmps230
      go_wp2
      refine bodyPost_ret (results_none rfl _ _ _) rfl ⟨rfl,HE.out,Fr.refl _ _ _⟩
    · have hk2:(k == 0)=false:=by simpa using hk
      go_enter Tryz.func230,Tryz.ntmps230
      go_wp2
      go_loopw [10] (fun i wr=>i = .int .i64 0∧wr=w) (fun _ _=>0)
      case atStart=>exact⟨rfl,rfl⟩
      case round =>
        obtain⟨rfl,rfl⟩:=hrel
        go_wp2
        refine bodyPost_end (results_none rfl _ _ _) rfl ⟨rfl,HE.out,Fr.refl _ _ _⟩
  · have hn1:0<n:=by omega
    obtain⟨w1,hw1⟩:∃ w1,w1=w.setCells b o (List.replicate n (.int .u8 0)):=⟨_,rfl⟩
    have hcl:∀ ty,(Builtin.clear_ #[51] ty #[.slice (some ⟨b,o,none⟩) n c]).run Tryz.prog w = .ok (.tuple #[]) w1:=fun ty=>by
      rw[hw1]
      refine Lib.run_clear_slice w _ 5 ty (.int .u8 0) Tryz.underlying51 zeroU8 rfl rfl b o n c hn1 (fun j hj=>?_) (fun j hj=>?_)
      · rw[cell_block hb,List.getElem?_toArray,vals_get _ _ (by omega)];rfl
      · unfold World.frozen?;simp only[hb];simp
    have HW1:Hid (w1.heap[b]? = some (.cells (vals (wrL x o (List.replicate n 0))).toArray 5 (0,0))):=by
      rw[hw1,←vals_zeros]
      exact heap_setCells_own _ _ _ _ hb (by rw[List.length_replicate];exact hfit)
    have HFr:Hid (Fr w.heap.size (fun m=>m=b) w w1):=by rw[hw1];exact Arn.Fr.setCells (S:=fun m=>m=b) rfl _ _ _ (Fr.refl _ _ _)
    clear hb hw1
    by_cases hk:k=0
    · subst hk
      go_enter Tryz.func230,Tryz.ntmps230
      go_wp2
      refine bodyPost_ret (results_none rfl _ _ _) rfl ⟨rfl,HW1.out,HFr.out⟩
    · have hk2:(k == 0)=false:=by simpa using hk
      have hwk:IntKind.u8.wrap k=k:=by simp[IntKind.wrap,IntKind.bits,IntKind.signed];omega
      go_enter Tryz.func230,Tryz.ntmps230
      go_wp2
      go_loopw [10] (fun i wr=>∃ m:Nat,m≤n∧i = .int .i64 m∧Hid (wr.heap[b]? = some (.cells (vals (wrL x o (List.replicate m k++List.replicate (n-m) 0))).toArray 5 (0,0)))∧Hid (Fr w.heap.size (fun m=>m=b) w wr)) (fun i _=>n-(intOf i).toNat)
      case atStart=>exact⟨0,Nat.zero_le _,rfl,by simpa[Hid] using HW1.out,HFr.out⟩
      case round =>
        obtain⟨m,hm,rfl,HH,HF⟩:=hrel
        by_cases hlt:m<n
        · have hlt1:(m:Int)<(n:Int):=by omega
          have hlt0:(0:Int)≤(m:Int):=by omega
          have hlen:(List.replicate m k++List.replicate (n-m) 0).length=n:=by simp;omega
          obtain⟨L,hL⟩:∃ L,L=wrL x o (List.replicate m k++List.replicate (n-m) 0):=⟨_,rfl⟩
          have hLl:L.length=x.length:=by rw[hL];exact wrL_length _ _ _ (by rw[hlen];exact hfit)
          have hblk:=HH.out
          rw[←hL] at hblk
          have hcell:wr.cell? ⟨b,o+m,none⟩=some (.int .u8 (L.getD (o+m) 0)):=by
            rw[cell_block hblk,List.getElem?_toArray,vals_get _ _ (by omega)]
          have hfr:=frozen_block hblk (o+m)
          have HN:Hid ((wr.setCell ⟨b,o+m,none⟩ (.int .u8 k)).heap[b]? = some (.cells (vals (wrL x o (List.replicate (m+1) k++List.replicate (n-(m+1)) 0))).toArray 5 (0,0))):=by
            have h1:=heap_setCell_own (o:=o+m) hblk (.int .u8 k)
            rw[vals_set,hL,wrL_set _ _ _ _ _ (by rw[hlen];exact hlt) (by rw[hlen];exact hfit),rep_set _ _ _ _ hlt] at h1
            exact h1
          have HFN:Hid (Fr w.heap.size (fun m=>m=b) w (wr.setCell ⟨b,o+m,none⟩ (.int .u8 k))):=HF.out.setCell (.inr rfl) _
          clear hblk hL hlen hLl HH HF
          go_wp2
          go_roundw
          case rel=>exact⟨m+1,by omega,by go_num,HN.out,HFN.out⟩
          case measure=>simp[intOf];omega
        · obtain rfl:m=n:=by omega
          have HE:Hid (wr.heap[b]? = some (.cells (vals (wrL x o (List.replicate m k))).toArray 5 (0,0))):=by simpa[Hid] using HH.out
          go_wp2
          refine bodyPost_end (results_none rfl _ _ _) rfl ⟨rfl,HE.out,HF.out⟩
def Marked (T:TypeId) (h:Hw) (w:World) (v:Value) (lk ft:Int) (r:List Int×Int) (e:Ending) (w':World):Prop :=
  e = .returned (.int .i64 r.2)∧WaT T h w' v r.1 lk ft∧Fr w.heap.size (blkW h) w w'
set_option maxRecDepth 100000 in
set_option maxHeartbeats 2000000 in
theorem mark_any (h:Hw) (v:Value) (x:List Int) (lk ft:Int) (a n k:Int) (w:World) (ha:WaC h w v x lk ft) (h64:is64 a) :
    Calls Tryz.prog 178 #[v,.int .i64 a,.int .i64 n,.int .i64 k] w (Marked 239 h w v lk ft (mrkA x a n k)):=by
  have hl:=ha.len
  have HM:=Lib.hid (made_any h v x lk ft w ha)
  have HSame:Hid (∀ e,Marked 239 h w v lk ft (x,e) (.returned (.int .i64 e)) w):=fun e=>⟨rfl,ha,Fr.refl _ _ _⟩
  have hml:=mrkA_length x a n k
  have hmk:=mrkA_kinds ha.2.2.2.2 a n k
  have HA:=Lib.hid ha
  have hv:=ha.1
  subst hv
  by_cases k0:k<0
  · have hr:mrkA x a n k=(x,2):=by rw[mrkA,if_pos (.inl k0)]
    rw[hr]
    clear hr hml hmk ha
    go_enter Tryz.func178,Tryz.ntmps178
    go_wp2_with fail
    refine HM.out.mono ?_
    rintro e w' ⟨rfl,rfl⟩
    go_wp2
    go_ret
    exact HSame.out 2
  · by_cases k8 : 8 < k
    · have hr:mrkA x a n k=(x,2):=by rw[mrkA,if_pos (.inr k8)]
      rw[hr]
      clear hr hml hmk ha
      go_enter Tryz.func178,Tryz.ntmps178
      go_wp2_with fail
      refine HM.out.mono ?_
      rintro e w' ⟨rfl,rfl⟩
      go_wp2
      go_ret
      exact HSame.out 2
    · have d8:decide ((8:Int)<k)=false:=by rw[decide_eq_false_iff_not];omega
      by_cases hf:fitB x.length a n=true
      · obtain ⟨p, q, rfl, rfl, hpq⟩ := fitB_nat hf
        have HP:=Lib.hid (part_yes h _ x lk ft p q w ha hpq)
        by_cases ha4:(p:Int) % 4=0
        · have ta:Int.tmod (p:Int) 4=0:=(tmod_zero _ _).2 ha4
          by_cases hq4:(q:Int) % 4=0
          · have tq:Int.tmod (q:Int) 4=0:=(tmod_zero _ _).2 hq4
            have hr:mrkA x p q k=(wrL x p (List.replicate q k),0):=by
              rw[mrkA,if_neg (by omega),if_neg (by rw[hf];decide),if_neg (by omega)]
              rfl
            rw[hr] at hml hmk ⊢
            have hpt:ptA x.length p+q≤x.length:=by unfold ptA;split<;>omega
            have HMk:=Lib.hid (markP_any h.b (ptA x.length p) q (x.length-p) x k w ha.2.2.1 hpt hl.2 (by omega) (by omega))
            have hwr:wrL x (ptA x.length p) (List.replicate q k)=wrL x p (List.replicate q k):=by
              unfold ptA
              split
              · obtain rfl:q=0:=by omega
                rw[List.replicate_zero,wrL_nil,wrL_nil]
              · rfl
            rw[hwr] at HMk
            have HFin:Hid (∀ w3,w3.heap[h.b]? = some (.cells (vals (wrL x p (List.replicate q k))).toArray 5 (0,0))→Fr w.heap.size (fun m=>m=h.b) w w3→Marked 239 h w (.pointer (some ⟨h.g,0,none⟩)) lk ft (wrL x p (List.replicate q k),0) (.returned (.int .i64 0)) w3):=by
              intro w3 h3 hf3
              have hne:=ha.ne
              have hlt:=ha.lt
              obtain⟨a0,a1,a2,a3,a4⟩:=ha
              refine⟨rfl,⟨rfl,?_,h3,by rw[hml];exact a3,hmk⟩,hf3.mono (Nat.le_refl _) (fun m _ hm=>.inr hm)⟩
              simp only[] at hml ⊢
              rw[hml]
              exact(hf3.block _ (hlt _ (.inl rfl)) hne).trans a1
            obtain⟨o,ho⟩:∃ o,o=ptA x.length p:=⟨_,rfl⟩
            obtain⟨c,hc⟩:∃ c,c=x.length-p:=⟨_,rfl⟩
            rw[←ho,←hc] at HP HMk
            clear hr hml hmk ha hf hpt hwr ha4 hq4 HA ho hc
            go_enter Tryz.func178,Tryz.ntmps178
            go_wp2_with fail
            refine HM.out.mono ?_
            rintro e w' ⟨rfl,rfl⟩
            go_wp2_with fail
            refine HP.out.mono ?_
            rintro e w' ⟨rfl,rfl⟩
            go_wp2_with fail
            refine HMk.out.mono ?_
            rintro e w3 ⟨rfl,h3,hf3⟩
            have HZ:=Lib.hid (HFin.out w3 h3 hf3)
            clear h3 hf3
            go_wp2
            go_ret
            exact HZ.out
          · have tq:¬ Int.tmod (q:Int) 4=0:=fun e=>hq4 ((tmod_zero _ _).1 e)
            have hr:mrkA x p q k=(x,9):=by
              rw[mrkA,if_neg (by omega),if_neg (by rw[hf];decide),if_pos (.inr hq4)]
            rw[hr]
            clear hr hml hmk ha hf HA
            go_enter Tryz.func178,Tryz.ntmps178
            go_wp2_with fail
            refine HM.out.mono ?_
            rintro e w' ⟨rfl,rfl⟩
            go_wp2_with fail
            refine HP.out.mono ?_
            rintro e w' ⟨rfl,rfl⟩
            go_wp2
            go_ret
            exact HSame.out 9
        · have ta:¬ Int.tmod (p:Int) 4=0:=fun e=>ha4 ((tmod_zero _ _).1 e)
          have hr:mrkA x p q k=(x,9):=by
            rw[mrkA,if_neg (by omega),if_neg (by rw[hf];decide),if_pos (.inl ha4)]
          rw[hr]
          clear hr hml hmk ha hf HA
          go_enter Tryz.func178,Tryz.ntmps178
          go_wp2_with fail
          refine HM.out.mono ?_
          rintro e w' ⟨rfl,rfl⟩
          go_wp2_with fail
          refine HP.out.mono ?_
          rintro e w' ⟨rfl,rfl⟩
          go_wp2
          go_ret
          exact HSame.out 9
      · have hf':fitB x.length a n=false:=by simpa using hf
        have hr:mrkA x a n k=(x,6):=by rw[mrkA,if_neg (by omega),if_pos hf']
        rw[hr]
        have HP:=Lib.hid (part_no h _ x lk ft a n w ha h64 hf')
        clear hr hml hmk ha hf hf' HA
        go_enter Tryz.func178,Tryz.ntmps178
        go_wp2_with fail
        refine HM.out.mono ?_
        rintro e w' ⟨rfl,rfl⟩
        go_wp2_with fail
        refine HP.out.mono ?_
        rintro e w' ⟨rfl,rfl⟩
        go_wp2
        go_ret
        exact HSame.out 6
end Go.Proofs.YtmgeiaglandedaaGreatDoor.Wat
