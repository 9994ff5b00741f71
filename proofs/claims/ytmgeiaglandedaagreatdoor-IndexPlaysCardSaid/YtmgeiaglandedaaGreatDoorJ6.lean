/- Plain mathematics of arenas: what each call answers, and which bytes there are behind it. Contracts of the document's arena: its making, what fits, what is read. Contracts of the document's arena: Read, Write, Zero, Move. Contracts of the document's arena: Zero, Move, Has. What is asked of arena's functions; acts; few acts; the example of the page. The example of the page. Contracts of the landed arena: its making, its length, what is read of it. Contracts of the landed arena: what is written. Acts that come in as arguments. -/
import Derived.Test.YtmgeiaglandedaaGreatDoorJ0
import Derived.Test.YtmgeiaglandedaaGreatDoorJ4
import Derived.BigRegion
import Derived.Deep.AppendLies
import Derived.Lib.SliceRun
namespace Go.Proofs.YtmgeiaglandedaaGreatDoor.Arn
open Go.RowKit Num
set_option linter.unusedVariables false
theorem size_alloc (w:World) (o:Obj):(w.alloc o).heap.size=w.heap.size+1:=Array.size_push _
theorem wrap_id {n:Int} (h1 : -9223372036854775808≤n) (h2:n≤9223372036854775807):IntKind.i64.wrap n=n:=by simp[IntKind.wrap,IntKind.bits,IntKind.signed];omega
def mayN (n:Int):Bool:=decide (16≤n) && (decide (n≤1048576) && decide (n % 16=0))
theorem mayN_bd {n:Int} (h:mayN n=true):16≤n∧n≤1048576∧n % 16=0:=by simpa[mayN,and_assoc] using h
def fitB (n:Nat) (a m:Int):Bool:=decide (0≤a) && (decide (0≤m) && (decide (a≤n) && decide (m≤(n:Int)-a)))
theorem fitB_bd {n:Nat} {a m:Int} (h:fitB n a m=true):0≤a∧0≤m∧a≤n∧m≤(n:Int)-a:=by simpa[fitB,and_assoc] using h
theorem fitB_nat {n:Nat} {a m:Int} (h:fitB n a m=true):∃ x y:Nat,a=x∧m=y∧x+y≤n:=by
  obtain⟨h1,h2,h3,h4⟩:=fitB_bd h
  exact⟨a.toNat,m.toNat,by omega,by omega,by omega⟩
theorem fitB_of {n x y:Nat} (h:x+y≤n):fitB n x y=true:=by simp[fitB];omega
theorem fitB_not {n:Nat} {a m:Int} (h:fitB n a m=false):¬ (0≤a∧0≤m∧a≤n∧m≤(n:Int)-a):=by
  intro h2
  have:fitB n a m=true:=by simp[fitB];omega
  rw[h] at this
  cases this
def wrL (l:List Int) (a:Nat) (b:List Int):List Int:=l.take a++(b++l.drop (a+b.length))
theorem wrL_length (l:List Int) (a:Nat) (b:List Int) (h:a+b.length≤l.length):(wrL l a b).length=l.length:=by
  simp[wrL];omega
def IsBytes (l:List Int):Prop:=∀ i,0≤l.getD i 0∧l.getD i 0<256
theorem IsBytes.mem {l:List Int} (h:IsBytes l) {x:Int} (hx:x∈l):0≤x∧x<256:=by
  obtain⟨i,hi,rfl⟩:=List.getElem_of_mem hx
  have:=h i
  simpa[List.getD,hi] using this
theorem IsBytes.of_mem {l:List Int} (h:∀ x∈l,0≤x∧x<256):IsBytes l:=by
  intro i
  by_cases hi:i<l.length
  · have:=h _ (List.getElem_mem hi)
    simpa[List.getD,hi] using this
  · simp[List.getD,List.getElem?_eq_none (show l.length≤i by omega)]
theorem wrL_bytes {l b:List Int} (a:Nat) (hl:IsBytes l) (hb:IsBytes b):IsBytes (wrL l a b):=by
  refine IsBytes.of_mem fun x hx=>?_
  simp only[wrL,List.mem_append] at hx
  rcases hx with hx | hx | hx
  · exact hl.mem (List.mem_of_mem_take hx)
  · exact hb.mem hx
  · exact hl.mem (List.mem_of_mem_drop hx)
theorem part_bytes {l:List Int} (a n:Nat) (hl:IsBytes l):IsBytes ((l.drop a).take n) :=
  IsBytes.of_mem fun x hx=>hl.mem (List.mem_of_mem_drop (List.mem_of_mem_take hx))
theorem zeros_bytes (n:Nat):IsBytes (List.replicate n 0) :=
  IsBytes.of_mem fun x hx=>by
    have:=List.eq_of_mem_replicate hx
    omega
def putA (l:List Int) (a x v:Int):List Int×Int:=if ste l a x v=0 then (stl l a.toNat x.toNat v,0) else (l,ste l a x v)
def wriA (l:List Int) (a:Int) (b:List Int):List Int×Int:=if fitB l.length a b.length then (wrL l a.toNat b,0) else (l,6)
def zerA (l:List Int) (a n:Int):List Int×Int:=if fitB l.length a n then (wrL l a.toNat (List.replicate n.toNat 0),0) else (l,6)
def reaA (l:List Int) (a n:Int):List Int×Int:=if fitB l.length a n then ((l.drop a.toNat).take n.toNat,0) else ([],6)
theorem ste_zero {l:List Int} {a x v:Int} (h:ste l a x v=0):∃ m n:Nat,a=m∧x=n∧m+n≤l.length∧n≤8:=by
  unfold ste at h
  split at h
  · rename_i hf
    have hw:isW x=true:=by simp[fits] at hf;exact hf.1
    obtain⟨b1,b2⟩:=isW_bd hw
    obtain⟨p1,p2,p3⟩:=plc_ok h
    exact⟨a.toNat,x.toNat,by omega,by omega,by omega,by omega⟩
  · omega
end Go.Proofs.YtmgeiaglandedaaGreatDoor.Arn

namespace Go.Proofs.YtmgeiaglandedaaGreatDoor.Arn
open Go.RowKit Num
set_option linter.unusedVariables false
theorem infoB:(Tryz.prog.info? 5).map (fun i=>(i.zero,i.size,i.bytes))=some (some (.int .u8 0),1,1):=by kernel_rfl
end Go.Proofs.YtmgeiaglandedaaGreatDoor.Arn

namespace Go.Proofs.YtmgeiaglandedaaGreatDoor.Arn
open Go.RowKit Num
set_option linter.unusedVariables false
end Go.Proofs.YtmgeiaglandedaaGreatDoor.Arn

namespace Go.Proofs.YtmgeiaglandedaaGreatDoor.Arn
open Go.RowKit Num
set_option linter.unusedVariables false
end Go.Proofs.YtmgeiaglandedaaGreatDoor.Arn

namespace Go.Proofs.YtmgeiaglandedaaGreatDoor.Arn
open Go.RowKit Num
set_option linter.unusedVariables false
def NewRow (B:Nat) (w:World) (v:Value) (l:List Int):Prop :=
  Row .u8 w v l∧∀ b off n c,v = .slice (some ⟨b,off,none⟩) n c→l ≠ []→B≤b∧∀ i,i<l.length→w.frozen? ⟨b,off+i,none⟩=false
section
variable {H:Type} (blk:H→Nat→Prop) (Ar:H→World→Value→List Int→Prop) (Tb:World→Prop)
def ViewAt (w:World) (v:Value) (h:H) (l:List Int) (a m:Nat) (x:Option Addr):Prop :=
  Row .u8 w (.slice x m m) ((l.drop a).take m)∧(0<m→∃ b off,x=some ⟨b,off,none⟩∧blk h b∧∀ w' l',Ar h w' v l'→∀ i,i<m→w'.frozen? ⟨b,off+i,none⟩=false∧(∃ u,w'.cell? ⟨b,off+i,none⟩=some u)∧∀ y,0≤y→y<256→Ar h (w'.setCell ⟨b,off+i,none⟩ (.int .u8 y)) v (l'.set (a+i) y))
def is64 (n:Int):Prop := -9223372036854775808≤n∧n≤9223372036854775807
end
end Go.Proofs.YtmgeiaglandedaaGreatDoor.Arn

namespace Go.Proofs.YtmgeiaglandedaaGreatDoor.Arn
open Go.RowKit Num
set_option linter.unusedVariables false
end Go.Proofs.YtmgeiaglandedaaGreatDoor.Arn

namespace Go.Proofs.YtmgeiaglandedaaGreatDoor.Arn
open Go.RowKit Num
set_option linter.unusedVariables false
structure Hn where
  g:Nat
  b:Nat
  n:Nat
def blkC (h:Hn) (k:Nat):Prop:=k=h.g∨k=h.b
def ArC (h:Hn) (w:World) (v:Value) (l:List Int):Prop :=
  v = .pointer (some ⟨h.g,0,none⟩)∧w.heap[h.g]? = some (.cells #[.slice (some ⟨h.b,0,none⟩) l.length l.length] 181 (0,0))∧w.heap[h.b]? = some (.cells (vals l).toArray 5 (0,0))∧mayN l.length=true∧IsBytes l∧l.length=h.n
theorem ArC.lt {h:Hn} {w:World} {v:Value} {l:List Int} (ha:ArC h w v l):∀ k,blkC h k→k<w.heap.size:=by
  obtain⟨-,h1,h2,-⟩:=ha
  rintro k (rfl | rfl)
  · exact lt_of_block h1
  · exact lt_of_block h2
theorem ArC.stay {h:Hn} {w w':World} {v:Value} {l:List Int} {N:Nat} {T:Nat→Prop} (ha:ArC h w v l) (hf:Fr N T w w') (hk:∀ k,blkC h k→k<N∧¬ T k):ArC h w' v l:=by
  obtain⟨h0,h1,h2,h3⟩:=ha
  exact⟨h0,(hf.block _ (hk _ (.inl rfl)).1 (hk _ (.inl rfl)).2).trans h1,(hf.block _ (hk _ (.inr rfl)).1 (hk _ (.inr rfl)).2).trans h2,h3⟩
theorem ArC.below {h:Hn} {w w':World} {v:Value} {l:List Int} (ha:ArC h w v l) (hb:Below w.heap.size w w'):ArC h w' v l :=
  ha.stay (Fr.of_below (S:=fun _=>False) hb) (fun k hk=>⟨ha.lt k hk,fun h=>h⟩)
theorem ArC.row {h:Hn} {w:World} {v:Value} {l:List Int} (ha:ArC h w v l):Row .u8 w (.slice (some ⟨h.b,0,none⟩) l.length l.length) l:=by
  obtain⟨-,-,h2,h3,h4,-⟩:=ha
  have:=mayN_bd h3
  exact row_of_block h2 h4 (by omega)
theorem ArC.len {h:Hn} {w:World} {v:Value} {l:List Int} (ha:ArC h w v l):16≤l.length∧l.length≤1048576:=by
  obtain⟨-,-,-,h3,-⟩:=ha
  have:=mayN_bd h3
  omega
theorem ArC.ne {h:Hn} {w:World} {v:Value} {l:List Int} (ha:ArC h w v l):h.g≠h.b:=by
  have hl:=ha.len
  obtain⟨-,h1,h2,-,-⟩:=ha
  intro e
  rw[e,h2] at h1
  injection h1 with h1
  injection h1 with h1
  have:=congrArg Array.size h1
  simp[vals] at this
  omega
theorem sized_any (n:Int) (w:World):Calls Tryz.prog 179 #[.int .i64 n] w fun e w'=>e = .returned (.bool (mayN n))∧w=w':=by
  by_cases h1:16≤n
  · by_cases h2 : n ≤ 1048576
    · go_enter Tryz.func179,Tryz.ntmps179
      go_wp2
      go_ret
      exact⟨ret_bool (by simp only[mayN,h1,h2,decide_true,Bool.true_and];exact Bool.eq_iff_iff.2 (by simp)),rfl⟩
    · go_enter Tryz.func179,Tryz.ntmps179
      go_wp2
      go_ret
      exact⟨ret_bool (by simp[mayN];omega),rfl⟩
  · go_enter Tryz.func179,Tryz.ntmps179
    go_wp2
    go_ret
    exact⟨ret_bool (by simp[mayN];omega),rfl⟩
set_option maxRecDepth 100000 in
theorem cloneA_any (v:Value) (l:List Int) (w:World) (hr:Row .u8 w v l) (h:l.length≤1000000000) :
    Calls Tryz.prog 144 #[v] w fun e w'=>e = .returned (.slice (some ⟨w.heap.size,0,none⟩) l.length l.length)∧w'=w.alloc (.cells (vals l).toArray 5):=by
  obtain⟨i0,hi,hz0,hz1,hz2⟩:=info_parts infoB
  have HB:=Lib.hid hr.bytes
  obtain⟨a,cap,rfl,q2,q3,q4,q5⟩:=hr
  have HQ:=Lib.hid q5
  clear q4 q5
  by_cases hn:l = []
  · subst hn
    have H0:Hid (w.alloc (.cells (madeCells #[.int .u8 0] 0) 5)=w.alloc (.cells (vals []).toArray 5)):=by
      unfold Hid;rw[madeCells_one];rfl
    go_enter Tryz.func144,Tryz.ntmps144
    go_wp2_with (first | (refine wpList_make_row rfl (.tmp 5) (.tmp 5) 51 rfl 5 i0 (.int .u8 0) 1 Tryz.underlying51 hi hz0 hz1 hz2 .i64 .i64 0 rfl rfl (by omega) (by omega) ?_) | (refine wpList_copy_nothing rfl (.tmp 7) (.tmp 8) 51 51 rfl 5 Tryz.underlying51 (by kernel_rfl) _ _ _ _ _ _ rfl rfl rfl ?_))
    go_wp2
    go_ret
    exact⟨rfl,H0.out⟩
  · obtain⟨b,off,rfl,hlb,hc⟩:=HQ.out hn
    have HN:Hid ((w.alloc (.cells (madeCells #[.int .u8 0] l.length) 5)).setRow w.heap.size (vals l).toArray=w.alloc (.cells (vals l).toArray 5)):=setRow_alloc _ _ _ _
    have HS:Hid (∀ j u,(vals l)[j]? = some u→(w.alloc (.cells (madeCells #[.int .u8 0] l.length) 5)).cell? ((⟨b,off,none⟩:Addr).add j)=some u):=by
      intro j u hj
      obtain⟨hj2,-⟩:=List.getElem?_eq_some_iff.1 hj
      rw[vals_length] at hj2
      rw[vals_get _ _ hj2] at hj
      rw[Addr_add,←hj]
      exact((below_made w _).cell (p:=⟨b,off+j,none⟩) hlb).trans (hc j hj2)
    have HR:Hid (((madeCells #[.int .u8 0] l.length).toList.take 0++(vals l++(madeCells #[.int .u8 0] l.length).toList.drop (0+(vals l).length))).toArray=(vals l).toArray):=by
      have:(madeCells #[Value.int .u8 0] l.length).toList.length=l.length:=by simp[size_madeCells1]
      unfold Hid
      rw[List.drop_eq_nil_of_le (by rw[this,vals_length];omega)]
      simp
    have HF:Hid (0+(vals l).length≤(madeCells #[Value.int .u8 0] l.length).size):=by unfold Hid;rw[vals_length,size_madeCells1];omega
    have HL:Hid ((vals l).length=Nat.min l.length l.length):=by unfold Hid;rw[vals_length];simp
    clear hc hn
    go_enter Tryz.func144,Tryz.ntmps144
    go_wp2_with (first | (refine wpList_make_row rfl (.tmp 5) (.tmp 5) 51 rfl 5 i0 (.int .u8 0) 1 Tryz.underlying51 hi hz0 hz1 hz2 .i64 .i64 l.length rfl rfl (by omega) (by omega) ?_) | (refine wpList_copy_row rfl (.tmp 7) (.tmp 8) 51 51 rfl 5 Tryz.underlying51 (by kernel_rfl) w.heap.size 0 l.length l.length ⟨b,off,none⟩ l.length cap rfl rfl (madeCells #[.int .u8 0] l.length) 5 (heap_alloc_new w _) (vals l) HL.out HS.out HF.out (vals_oneCell l) (vals l).toArray HR.out _ HN.out ?_))
    go_wp2
    go_ret
    exact⟨rfl,rfl⟩
theorem newRow_made (w:World) (l:List Int) (hb:IsBytes l) (hl:l.length≤1000000000):NewRow w.heap.size (w.alloc (.cells (vals l).toArray 5)) (.slice (some ⟨w.heap.size,0,none⟩) l.length l.length) l:=by
  refine⟨row_of_block (heap_alloc_new w _) hb (by omega),?_⟩
  intro b off n c e hne
  injection e with e1 e2 e3
  injection e1 with e1
  injection e1 with e1 e4 _
  subst e1 e4
  have hg:=heap_alloc_new w (.cells (vals l).toArray 5)
  exact⟨Nat.le_refl _,fun i hi=>by unfold World.frozen?;simp only[hg];simp⟩
theorem arC_made (w:World) (l:List Int) (hm:mayN l.length=true) (hb:IsBytes l) :
    ArC ⟨w.heap.size+1,w.heap.size,l.length⟩ ((w.alloc (.cells (vals l).toArray 5)).alloc (.cells #[.slice (some ⟨w.heap.size,0,none⟩) l.length l.length] 181)) (.pointer (some ⟨w.heap.size+1,0,none⟩)) l:=by
  have hz:=size_alloc w (.cells (vals l).toArray 5)
  have h1:=heap_alloc_new (w.alloc (.cells (vals l).toArray 5)) (.cells #[.slice (some ⟨w.heap.size,0,none⟩) l.length l.length] 181)
  rw[hz] at h1
  refine⟨rfl,h1,?_,hm,hb,rfl⟩
  exact((below_made (w.alloc (.cells (vals l).toArray 5)) _).block _ (show w.heap.size<_ by omega)).trans (heap_alloc_new w _)
theorem zeros_cells (n:Nat):madeCells #[Value.int .u8 0] n=(vals (List.replicate n 0)).toArray:=by
  rw[madeCells_one];simp[vals]
set_option maxRecDepth 100000 in
theorem newC_yes (n:Nat) (w:World) (h:mayN n=true):Calls Tryz.prog 92 #[.int .i64 (n:Int)] w fun e w'=>∃ v h,e = .returned v∧ArC h w' v (List.replicate n 0)∧Below w.heap.size w w'∧∀ k,blkC h k→w.heap.size≤k:=by
  obtain⟨i0,hi,hz0,hz1,hz2⟩:=info_parts infoB
  obtain⟨b1,b2,-⟩:=mayN_bd h
  have HM:=Lib.hid (sized_any n w)
  rw[h] at HM
  have HA:=Lib.hid (arC_made w (List.replicate n 0) (by rw[List.length_replicate];exact h) (zeros_bytes n))
  have hb:=((Below.refl w.heap.size w).alloc (Nat.le_refl _) (.cells (madeCells #[Value.int .u8 0] n) 5)).alloc (le_alloc _ (Nat.le_refl _)) (.cells #[.slice (some ⟨w.heap.size,0,none⟩) n n] 181)
  have HB:=Lib.hid hb
  rw[←zeros_cells,List.length_replicate] at HA
  clear h hb
  go_enter Tryz.func92,Tryz.ntmps92
  go_wp2_with fail
  refine HM.out.mono ?_
  rintro e w' ⟨rfl,rfl⟩
  have hz:(w.alloc (.cells (madeCells #[.int .u8 0] n) 5)).heap.size=w.heap.size+1:=Array.size_push _
  go_wp2_with (refine wpList_make_row rfl (.tmp 6) (.tmp 6) 51 rfl 5 i0 (.int .u8 0) 1 Tryz.underlying51 hi hz0 hz1 hz2 .i64 .i64 n rfl rfl (by omega) (by omega) ?_)
  go_ret
  exact⟨_,_,rfl,HA.out,HB.out,by rintro k (rfl | rfl)<;>simp⟩
theorem madeC_any (h:Hn) (v:Value) (l:List Int) (w:World) (ha:ArC h w v l):Calls Tryz.prog 143 #[v] w fun e w'=>e = .returned (.bool true)∧w=w':=by
  have hl:=ha.len
  obtain⟨rfl,h1,-,-,-⟩:=ha
  have c1:=cell_of_one h1
  have hp:(0:Int)<(l.length:Int):=by omega
  clear h1
  go_enter Tryz.func143,Tryz.ntmps143
  go_wp2
  go_ret
  exact⟨ret_bool (by simpa using hp),rfl⟩
theorem lenC_any (h:Hn) (v:Value) (l:List Int) (w:World) (ha:ArC h w v l):Calls Tryz.prog 176 #[v] w fun e w'=>e = .returned (.int .i64 (l.length:Int))∧Below w.heap.size w w':=by
  have HM:=Lib.hid (madeC_any h v l w ha)
  obtain⟨rfl,h1,-,-,-⟩:=ha
  have c1:=cell_of_one h1
  clear h1
  go_enter Tryz.func176,Tryz.ntmps176
  go_wp2_with fail
  refine HM.out.mono ?_
  rintro e w' ⟨rfl,rfl⟩
  go_wp2
  go_ret
  exact⟨rfl,Below.refl _ _⟩
theorem getC_any (h:Hn) (v:Value) (l:List Int) (a x:Int) (w:World) (ha:ArC h w v l):Calls Tryz.prog 216 #[v,.int .i64 a,.int .i64 x] w fun e w'=>e = .returned (.tuple #[.int .u64 (ldv l a x).1,.int .i64 (ldv l a x).2])∧Below w.heap.size w w':=by
  have HM:=Lib.hid (madeC_any h v l w ha)
  have HL:=Lib.hid (load_any _ a x l w ha.row)
  obtain⟨rfl,h1,-,-,-⟩:=ha
  have c1:=cell_of_one h1
  obtain⟨p,q,hpq⟩:∃ p q,ldv l a x=(p,q):=⟨_,_,rfl⟩
  rw[hpq] at HL ⊢
  clear h1 hpq
  go_enter Tryz.func216,Tryz.ntmps216
  go_wp2_with fail
  refine HM.out.mono ?_
  rintro e w' ⟨rfl,rfl⟩
  go_wp2_with fail
  refine HL.out.mono ?_
  rintro e w1 ⟨rfl,hb⟩
  go_wp2
  go_ret2
  exact⟨rfl,hb⟩
def vwA (a m:Nat):Nat:=if m=0 then 0 else a
set_option maxRecDepth 100000 in
theorem viewC_yes (h:Hn) (v:Value) (l:List Int) (a m:Nat) (w:World) (ha:ArC h w v l) (hf:a+m≤l.length):Calls Tryz.prog 222 #[v,.int .i64 a,.int .i64 m] w fun e w'=>e = .returned (.tuple #[.slice (some ⟨h.b,vwA a m,none⟩) m m,.int .i64 0])∧w=w':=by
  have HM:=Lib.hid (madeC_any h v l w ha)
  have hl:=ha.len
  obtain⟨rfl,h1,-,-,-⟩:=ha
  have c1:=cell_of_one h1
  have e0:(0:Int)≤(a:Int):=by omega
  have e1:(0:Int)≤(m:Int):=by omega
  obtain⟨d,hd⟩:∃ d:Nat,d=l.length-a:=⟨_,rfl⟩
  have w1:IntKind.i64.wrap ((l.length:Int)-(a:Int))=(d:Int):=(wrap_id (by omega) (by omega)).trans (by omega)
  have e2:(m:Int)≤(d:Int):=by omega
  obtain⟨s,hs⟩:∃ s:Nat,s=a+m:=⟨_,rfl⟩
  have w2:IntKind.i64.wrap ((a:Int)+(m:Int))=(s:Int):=(wrap_id (by omega) (by omega)).trans (by omega)
  have e3:(a:Int)≤(s:Int):=by omega
  have e4:(s:Int)≤(l.length:Int):=by omega
  have hsub:s-a=m:=by omega
  have g0:decide ((a:Int)<0)=false:=by rw[decide_eq_false_iff_not];omega
  have g1:decide ((m:Int)<0)=false:=by rw[decide_eq_false_iff_not];omega
  have g2:decide ((d:Int)<(m:Int))=false:=by rw[decide_eq_false_iff_not];omega
  have g3:¬ d<m:=by omega
  have g4:decide (d<m)=false:=by rw[decide_eq_false_iff_not];omega
  by_cases hm:m=0
  · subst hm
    obtain rfl:s=a:=by omega
    clear h1 hd hs hsub
    go_enter Tryz.func222,Tryz.ntmps222
    go_wp2_with fail
    refine HM.out.mono ?_
    rintro e w' ⟨rfl,rfl⟩
    go_wp2
    go_ret2
    exact⟨rfl,rfl⟩
  · have hv:vwA a m=a:=by rw[vwA,if_neg hm]
    rw[hv]
    have e5:¬ s=a:=by omega
    have e6:¬ s-a=0:=by omega
    clear h1 hd hs hv
    go_enter Tryz.func222,Tryz.ntmps222
    go_wp2_with fail
    refine HM.out.mono ?_
    rintro e w' ⟨rfl,rfl⟩
    go_wp2
    go_ret2
    exact⟨rfl,rfl⟩
theorem viewC_no (h:Hn) (v:Value) (l:List Int) (a m:Int) (w:World) (ha:ArC h w v l) (h64:is64 a) (hf:fitB l.length a m=false):Calls Tryz.prog 222 #[v,.int .i64 a,.int .i64 m] w fun e w'=>e = .returned (.tuple #[.slice none 0 0,.int .i64 6])∧w=w':=by
  have HM:=Lib.hid (madeC_any h v l w ha)
  have hl:=ha.len
  have hnf:=fitB_not hf
  unfold is64 at h64
  obtain⟨rfl,h1,-⟩:=ha
  have c1:=cell_of_one h1
  by_cases a0:a<0
  · clear h1 hnf hf
    go_enter Tryz.func222,Tryz.ntmps222
    go_wp2_with fail
    refine HM.out.mono ?_
    rintro e w' ⟨rfl,rfl⟩
    go_wp2
    go_ret2
    exact⟨rfl,rfl⟩
  · have a1:0≤a:=by omega
    by_cases m0:m<0
    · clear h1 hnf hf
      go_enter Tryz.func222,Tryz.ntmps222
      go_wp2_with fail
      refine HM.out.mono ?_
      rintro e w' ⟨rfl,rfl⟩
      go_wp2
      go_ret2
      exact⟨rfl,rfl⟩
    · have m1:0≤m:=by omega
      obtain⟨d,hd⟩:∃ d:Int,d=(l.length:Int)-a:=⟨_,rfl⟩
      have w1:IntKind.i64.wrap ((l.length:Int)-a)=d:=(wrap_id (by omega) (by omega)).trans hd.symm
      have e2:d<m:=by omega
      have g0:decide (a<0)=false:=by rw[decide_eq_false_iff_not];omega
      have g1:decide (m<0)=false:=by rw[decide_eq_false_iff_not];omega
      have g2:decide (d<m)=true:=by rw[decide_eq_true_iff];omega
      clear h1 hnf hf hd
      go_enter Tryz.func222,Tryz.ntmps222
      go_wp2_with fail
      refine HM.out.mono ?_
      rintro e w' ⟨rfl,rfl⟩
      go_wp2
      go_ret2
      exact⟨rfl,rfl⟩
theorem heap_setCell_own {w:World} {g o:Nat} {c:Array Value} {t:TypeId} {fr:Nat×Nat} (hg:w.heap[g]? = some (.cells c t fr)) (u:Value):(w.setCell ⟨g,o,none⟩ u).heap[g]? = some (.cells (c.setIfInBounds o u) t fr):=by
  have hlt:g<w.heap.size:=(Array.getElem?_eq_some_iff.1 hg).1
  have hv:w.heap[g] = .cells c t fr:=(Array.getElem?_eq_some_iff.1 hg).2
  unfold World.setCell
  rw[Array.getElem?_eq_getElem (by simpa using hlt),Array.getElem_modify]
  simp[hv]
theorem vals_set (l:List Int) (i:Nat) (y:Int):(vals l).toArray.setIfInBounds i (.int .u8 y)=(vals (l.set i y)).toArray:=by
  simp[vals,List.map_set]
theorem set_bytesC {l:List Int} (h:IsBytes l) (k:Nat) (y:Int) (h0:0≤y) (h1:y<256):IsBytes (l.set k y) :=
  IsBytes.of_mem fun x hx=>by
    rcases List.mem_or_eq_of_mem_set hx with hx | rfl
    · exact h.mem hx
    · exact⟨h0,h1⟩
theorem ArC.set {h:Hn} {w:World} {v:Value} {l:List Int} (ha:ArC h w v l) (i:Nat) (y:Int) (h0:0≤y) (h1:y<256):ArC h (w.setCell ⟨h.b,i,none⟩ (.int .u8 y)) v (l.set i y):=by
  have hne:=ha.ne
  obtain⟨h0',h1',h2',h3',h4',h5'⟩:=ha
  refine⟨h0',?_,?_,by rw[List.length_set];exact h3',set_bytesC h4' _ _ h0 h1,by rw[List.length_set];exact h5'⟩
  · rw[List.length_set,Below.heap_setCell _ _ _ _ hne];exact h1'
  · rw[heap_setCell_own h2',vals_set]
theorem ArC.view {h:Hn} {w:World} {v:Value} {l:List Int} (ha:ArC h w v l) (a m:Nat) (hf:a+m≤l.length):ViewAt blkC ArC w v h l a m (some ⟨h.b,vwA a m,none⟩):=by
  have hl:=ha.len
  have hlen:((l.drop a).take m).length=m:=by rw[List.length_take,List.length_drop];omega
  refine⟨⟨_,m,by rw[hlen],by omega,by omega,?_,?_⟩,?_⟩
  · intro i hi
    have:=part_bytes a m ha.2.2.2.2.1 i
    exact WalkArith.wf_u8 (by omega)
  · intro hne
    have hm:¬ m=0:=by rintro rfl;simp at hne
    refine⟨h.b,vwA a m,rfl,ha.lt _ (.inr rfl),fun i hi=>?_⟩
    rw[hlen] at hi
    rw[vwA,if_neg hm,cell_block ha.2.2.1,List.getElem?_toArray,vals_get _ _ (by omega),take_getD _ _ _ hi,drop_getD]
  · intro hm
    refine⟨h.b,a,by rw[vwA,if_neg (by omega)],.inr rfl,fun w' l' ha' i hi=>?_⟩
    have hll:l'.length=l.length:=ha'.2.2.2.2.2.trans ha.2.2.2.2.2.symm
    have hg:=ha'.2.2.1
    refine⟨by unfold World.frozen?;simp only[hg];simp,⟨_,by rw[cell_block hg,List.getElem?_toArray,vals_get _ _ (by omega)]⟩,fun y h0 h1=>ha'.set _ y h0 h1⟩
theorem readC_any (h:Hn) (v:Value) (l:List Int) (a m:Int) (w:World) (ha:ArC h w v l) (h64:is64 a):Calls Tryz.prog 142 #[v,.int .i64 a,.int .i64 m] w fun e w'=>∃ u,e = .returned (.tuple #[u,.int .i64 (reaA l a m).2])∧Below w.heap.size w w'∧NewRow w.heap.size w' u (reaA l a m).1:=by
  have hl:=ha.len
  by_cases hf:fitB l.length a m=true
  · obtain⟨x,y,rfl,rfl,hxy⟩:=fitB_nat hf
    have hr:reaA l x y=((l.drop x).take y,0):=by rw[reaA,if_pos hf];rfl
    rw[hr]
    have HV:=Lib.hid (viewC_yes h v l x y w ha hxy)
    have hlen:((l.drop x).take y).length=y:=by rw[List.length_take,List.length_drop];omega
    have hrow:=(ha.view x y hxy).1
    have HC:=Lib.hid (cloneA_any _ _ w hrow (by omega))
    have HN:=Lib.hid (newRow_made w _ (part_bytes x y ha.2.2.2.2.1) (by omega))
    obtain⟨ad,cap,he,-,-,-,-⟩:=hrow
    obtain⟨P,hP⟩:∃ P,P=(l.drop x).take y:=⟨_,rfl⟩
    rw[←hP] at HC HN hlen ⊢
    rw[hlen] at HC HN
    obtain⟨rfl,h1,-⟩:=ha
    clear h1 hP he hr hf hlen
    go_enter Tryz.func142,Tryz.ntmps142
    go_wp2_with fail
    refine HV.out.mono ?_
    rintro e w' ⟨rfl,rfl⟩
    go_wp2_with fail
    refine HC.out.mono ?_
    rintro e w' ⟨rfl,rfl⟩
    go_wp2
    go_ret2
    exact⟨_,rfl,below_made _ _,HN.out⟩
  · have hf':fitB l.length a m=false:=by simpa using hf
    have hr:reaA l a m=([],6):=by rw[reaA,if_neg hf]
    rw[hr]
    have HV:=Lib.hid (viewC_no h v l a m w ha h64 hf')
    obtain⟨rfl,h1,-⟩:=ha
    clear h1 hr hf hf'
    go_enter Tryz.func142,Tryz.ntmps142
    go_wp2_with fail
    refine HV.out.mono ?_
    rintro e w' ⟨rfl,rfl⟩
    go_wp2
    go_ret2
    exact⟨_,rfl,Below.refl _ _,Row.nil _ _,fun _ _ _ _ _ hne=>absurd rfl hne⟩
end Go.Proofs.YtmgeiaglandedaaGreatDoor.Arn

namespace Go.Proofs.YtmgeiaglandedaaGreatDoor.Arn
open Go.RowKit Num
set_option linter.unusedVariables false
theorem Fr.setRow {N:Nat} {S:Nat→Prop} {a w:World} (h:Fr N S a w) {g:Nat} (hg:S g) (cs:Array Value):Fr N S a (w.setRow g cs) :=
  h.trans ⟨rfl,rfl,rfl,by simp[World.setRow],fun k _ hs=>setRow_other w g k cs (by rintro rfl;exact hs hg)⟩
theorem Fr.setCells {N:Nat} {S:Nat→Prop} {a:World} {g:Nat} (hg:S g):∀ (vs:List Value) (o:Nat) (w:World),Fr N S a w→Fr N S a (w.setCells g o vs)
  | [],_,_,h=>h
  | v::r,o,w,h=>Fr.setCells hg r (o+1) _ (h.setCell (p:=⟨g,o,none⟩) (.inr hg) v)
theorem wrL_cons (l:List Int) (o:Nat) (x:Int) (r:List Int) (h:o+(r.length+1)≤l.length):wrL (l.set o x) (o+1) r=wrL l o (x::r):=by
  unfold wrL
  rw[List.length_cons,List.drop_set_of_lt (by omega),List.take_set,List.set_eq_take_append_cons_drop,if_pos (by rw[List.length_take];omega),List.take_take,Nat.min_eq_left (by omega),List.drop_eq_nil_of_le (by rw[List.length_take];omega),List.append_assoc,show o+1+r.length=o+(r.length+1) by omega]
  rfl
theorem wrL_nil (l:List Int) (o:Nat):wrL l o []=l:=by simp[wrL]
theorem heap_setCells_own {g:Nat} {t:TypeId} {fr:Nat×Nat} : ∀ (vs:List Int) (o:Nat) (w:World) (l:List Int),w.heap[g]? = some (.cells (vals l).toArray t fr)→o+vs.length≤l.length→(w.setCells g o (vals vs)).heap[g]? = some (.cells (vals (wrL l o vs)).toArray t fr)
  | [],o,w,l,h,_=>by rw[wrL_nil];exact h
  | v::r,o,w,l,h,hl=>by
    have h1:=heap_setCell_own (o:=o) h (.int .u8 v)
    rw[vals_set] at h1
    have:=heap_setCells_own r (o+1) _ _ h1 (by rw[List.length_set];simp only[List.length_cons] at hl;omega)
    rw[wrL_cons _ _ _ _ (by simp only[List.length_cons] at hl;omega)] at this
    exact this
theorem vals_zeros (n:Nat):vals (List.replicate n 0)=List.replicate n (.int .u8 0):=by simp[vals]
theorem zeroU8:∀ w,(zeroValue 5).run Tryz.prog w = .ok (.int .u8 0) w:=by
  intro w
  kernel_rfl
set_option maxRecDepth 100000 in
theorem fillC_any (b o n:Nat) (l X Y:List Int) (u:Value) (w:World) (hb:w.heap[b]? = some (.cells (vals l).toArray 5 (0,0))) (hfit:o+n≤l.length) (hl:l.length≤1048576) (hx:Row .u8 w u X) (hY:Y.length=n) (hXY:X=Y∨X = []∧Y=List.replicate n 0) :
    Calls Tryz.prog 185 #[u,.slice (some ⟨b,o,none⟩) n n] w fun e w'=>e = .returned (.tuple #[])∧w'.heap[b]? = some (.cells (vals (wrL l o Y)).toArray 5 (0,0))∧Fr w.heap.size (fun k=>k=b) w w':=by
  have hcl0:∀ ty W,(Builtin.clear_ #[51] ty #[.slice (some ⟨b,o,none⟩) 0 0]).run Tryz.prog W = .ok (.tuple #[]) W:=fun ty W=>by
    simp[Builtin.clear_,run_underlying (P:=Tryz.prog) Tryz.underlying51]
  by_cases hn:n=0
  · subst hn
    obtain rfl:Y = []:=List.length_eq_zero_iff.1 hY
    obtain rfl:X = []:=by rcases hXY with h | ⟨h,-⟩<;>exact h
    obtain⟨ad,cap,rfl,-,-,-,-⟩:=hx
    have HW:=Lib.hid (show w.heap[b]? = some (.cells (vals (wrL l o [])).toArray 5 (0,0)) by rw[wrL_nil];exact hb)
    clear hb hXY
    go_enter Tryz.func185,Tryz.ntmps185
    go_wp2_with (refine wpList_copy_nothing rfl (.tmp 5) (.tmp 6) 51 218 rfl 5 Tryz.underlying51 (by kernel_rfl) _ _ _ _ _ _ rfl rfl rfl ?_)
    go_wp2
    refine bodyPost_end (results_none rfl _ _ _) rfl ⟨rfl,HW.out,Fr.refl _ _ _⟩
  have hn1:0<n:=by omega
  have hnn:(0:Int)≤(n:Int):=by omega
  rcases hXY with rfl | ⟨rfl,rfl⟩
  · have hxl:X.length=n:=hY
    have HBy:=Lib.hid hx.bytes
    obtain⟨ad,cap,rfl,q2,q3,q4,q5⟩:=hx
    obtain⟨xb,xo,rfl,hxb,hxc⟩:=q5 (by rintro rfl;simp at hY;omega)
    subst hxl
    have HS:Hid (∀ j v,(vals X)[j]? = some v→w.cell? ((⟨xb,xo,none⟩:Addr).add j)=some v):=by
      intro j v hj
      obtain⟨hj2,-⟩:=List.getElem?_eq_some_iff.1 hj
      rw[vals_length] at hj2
      rw[vals_get _ _ hj2] at hj
      rw[Addr_add,←hj]
      exact hxc j hj2
    have HL:Hid ((vals X).length=Nat.min X.length X.length):=by unfold Hid;rw[vals_length];simp
    have HF:Hid (o+(vals X).length≤(vals l).toArray.size):=by unfold Hid;rw[vals_length,List.size_toArray,vals_length];exact hfit
    have HR:Hid (((vals l).toArray.toList.take o++(vals X++(vals l).toArray.toList.drop (o+(vals X).length))).toArray=(vals (wrL l o X)).toArray):=by
      unfold Hid;rw[vals_length];simp[vals,wrL]
    have HG:=Lib.hid hb
    obtain⟨w1,hw1⟩:∃ w1,w1=w.setRow b (vals (wrL l o X)).toArray:=⟨_,rfl⟩
    have HW1:Hid (w1.heap[b]? = some (.cells (vals (wrL l o X)).toArray 5 (0,0))):=by rw[hw1];exact setRow_heap _ _ _ _ _ _ hb
    have HFr:Hid (Fr w.heap.size (fun k=>k=b) w w1):=by rw[hw1];exact Arn.Fr.setRow (S:=fun k=>k=b) (Fr.refl _ _ _) rfl _
    have HE:=Lib.hid hw1.symm
    have HV:=Lib.hid (vals_oneCell X)
    have HVL:=Lib.hid (vals_length X)
    clear hb hxc q5 q4 hY hfit hw1
    go_enter Tryz.func185,Tryz.ntmps185
    go_wp2_with (refine wpList_copy_row rfl (.tmp 5) (.tmp 6) 51 218 rfl 5 Tryz.underlying51 (by kernel_rfl) b o X.length X.length ⟨xb,xo,none⟩ X.length cap rfl rfl (vals l).toArray 5 HG.out (vals X) HL.out HS.out HF.out HV.out (vals (wrL l o X)).toArray HR.out w1 HE.out ?_;rw[HVL.out])
    go_wp2
    refine bodyPost_end (results_none rfl _ _ _) rfl ⟨rfl,HW1.out,HFr.out⟩
  · obtain⟨ad,cap,rfl,-,-,-,-⟩:=hx
    obtain⟨w1,hw1⟩:∃ w1,w1=w.setCells b o (List.replicate n (.int .u8 0)):=⟨_,rfl⟩
    have hcl:∀ ty,(Builtin.clear_ #[51] ty #[.slice (some ⟨b,o,none⟩) n n]).run Tryz.prog w = .ok (.tuple #[]) w1:=fun ty=>by
      rw[hw1]
      refine Lib.run_clear_slice w _ 5 ty (.int .u8 0) Tryz.underlying51 zeroU8 rfl rfl b o n n hn1 (fun j hj=>?_) (fun j hj=>?_)
      · rw[cell_block hb,List.getElem?_toArray,vals_get _ _ (by omega)];rfl
      · unfold World.frozen?;simp only[hb];simp
    have HW1:Hid (w1.heap[b]? = some (.cells (vals (wrL l o (List.replicate n 0))).toArray 5 (0,0))):=by
      rw[hw1,←vals_zeros]
      exact heap_setCells_own _ _ _ _ hb (by rw[List.length_replicate];exact hfit)
    have HFr:Hid (Fr w.heap.size (fun k=>k=b) w w1):=by rw[hw1];exact Arn.Fr.setCells (S:=fun k=>k=b) rfl _ _ _ (Fr.refl _ _ _)
    clear hb hY hfit hw1
    go_enter Tryz.func185,Tryz.ntmps185
    go_wp2_with (refine wpList_copy_nothing rfl (.tmp 5) (.tmp 6) 51 218 rfl 5 Tryz.underlying51 (by kernel_rfl) _ _ _ _ _ _ rfl rfl (Nat.zero_min _) ?_)
    go_wp2
    refine bodyPost_end (results_none rfl _ _ _) rfl ⟨rfl,HW1.out,HFr.out⟩
def WroteC (w:World) (v:Value) (h:Hn) (r:List Int×Int) (e:Ending) (w':World):Prop :=
  e = .returned (.int .i64 r.2)∧ArC h w' v r.1∧Fr w.heap.size (blkC h) w w'
def chg (l:List Int) (a n:Int) (Y:List Int):List Int×Int:=if fitB l.length a n then (wrL l a.toNat Y,0) else (l,6)
set_option maxRecDepth 100000 in
theorem changeC_any (h:Hn) (v:Value) (l:List Int) (a n:Int) (u:Value) (X Y:List Int) (w:World) (ha:ArC h w v l) (h64:is64 a) (hx:Row .u8 w u X) (hY:fitB l.length a n=true→Y.length=n.toNat∧(X=Y∨X = []∧Y=List.replicate n.toNat 0)) (hYb:IsBytes Y) :
    Calls Tryz.prog 184 #[v,.int .i64 a,.int .i64 n,.func (.func 185) #[u] #[]] w (WroteC w v h (chg l a n Y)):=by
  have hl:=ha.len
  by_cases hf:fitB l.length a n=true
  · obtain⟨x,y,rfl,rfl,hxy⟩:=fitB_nat hf
    have hr:chg l x y Y=(wrL l x Y,0):=by rw[chg,if_pos hf];rfl
    obtain⟨y1,y2⟩:=hY hf
    rw[Int.toNat_natCast] at y1 y2
    rw[hr]
    have HV:=Lib.hid (viewC_yes h v l x y w ha hxy)
    have hfit:vwA x y+y≤l.length:=by unfold vwA;split<;>omega
    have hwr:wrL l (vwA x y) Y=wrL l x Y:=by
      unfold vwA
      split
      · have:Y = []:=List.length_eq_zero_iff.1 (by omega)
        rw[this,wrL_nil,wrL_nil]
      · rfl
    have HF:=Lib.hid (fillC_any h.b (vwA x y) y l X Y u w ha.2.2.1 hfit (by omega) hx y1 y2)
    rw[hwr] at HF
    have HA:=Lib.hid ha
    have HYb:=Lib.hid hYb
    have HLen:Hid ((wrL l x Y).length=l.length):=wrL_length _ _ _ (by omega)
    obtain⟨rfl,h1,-⟩:=ha
    obtain⟨ad,cap,rfl,-,-,-,-⟩:=hx
    clear h1 hr hf y1 y2 hY hwr hfit hYb
    go_enter Tryz.func184,Tryz.ntmps184
    go_wp2_with fail
    refine HV.out.mono ?_
    rintro e w' ⟨rfl,rfl⟩
    go_wp2_with fail
    refine HF.out.mono ?_
    rintro e w1 ⟨rfl,hg,hfr⟩
    have HW:Hid (WroteC w (.pointer (some ⟨h.g,0,none⟩)) h (wrL l x Y,0) (.returned (.int .i64 0)) w1):=by
      have hne:=HA.out.ne
      have hlt:=HA.out.lt
      obtain⟨a0,a1,a2,a3,a4,a5⟩:=HA.out
      refine⟨rfl,⟨rfl,?_,hg,by rw[HLen.out];exact a3,wrL_bytes _ a4 HYb.out,HLen.out.trans a5⟩,hfr.mono (Nat.le_refl _) (fun k _ hk=>.inr hk)⟩
      rw[HLen.out]
      exact(hfr.block _ (hlt _ (.inl rfl)) hne).trans a1
    clear hfr hg
    go_wp2
    go_ret
    exact HW.out
  · have hf':fitB l.length a n=false:=by simpa using hf
    have hr:chg l a n Y=(l,6):=by rw[chg,if_neg hf]
    rw[hr]
    have HV:=Lib.hid (viewC_no h v l a n w ha h64 hf')
    have HW:Hid (WroteC w v h (l,6) (.returned (.int .i64 6)) w):=⟨rfl,ha,Fr.refl _ _ _⟩
    obtain⟨rfl,h1,-⟩:=ha
    obtain⟨ad,cap,rfl,-,-,-,-⟩:=hx
    clear h1 hr hf hf' hY hYb
    go_enter Tryz.func184,Tryz.ntmps184
    go_wp2_with fail
    refine HV.out.mono ?_
    rintro e w' ⟨rfl,rfl⟩
    go_wp2
    go_ret
    exact HW.out
theorem writeC_any (h:Hn) (v:Value) (l:List Int) (a:Int) (u:Value) (X:List Int) (w:World) (ha:ArC h w v l) (h64:is64 a) (hx:Row .u8 w u X) :
    Calls Tryz.prog 173 #[v,.int .i64 a,u] w (WroteC w v h (wriA l a X)):=by
  have HC:=Lib.hid (changeC_any h v l a X.length u X X w ha h64 hx (fun _=>⟨by simp,.inl rfl⟩) hx.bytes)
  have hr:chg l a X.length X=wriA l a X:=rfl
  rw[hr] at HC
  obtain⟨rfl,h1,-⟩:=ha
  obtain⟨ad,cap,rfl,-,-,-,-⟩:=hx
  obtain⟨r,h0⟩:∃ r,r=wriA l a X:=⟨_,rfl⟩
  rw[←h0] at HC ⊢
  clear h1 hr h0
  go_enter Tryz.func173,Tryz.ntmps173
  go_wp2_with fail
  refine HC.out.mono ?_
  rintro e w1 ⟨rfl,hw⟩
  have HW:=Lib.hid hw
  clear hw
  go_wp2
  go_ret
  exact⟨rfl,HW.out⟩
theorem zeroC_any (h:Hn) (v:Value) (l:List Int) (a n:Int) (w:World) (ha:ArC h w v l) (h64:is64 a) :
    Calls Tryz.prog 266 #[v,.int .i64 a,.int .i64 n] w (WroteC w v h (zerA l a n)):=by
  have HC:=Lib.hid (changeC_any h v l a n (.slice none 0 0) [] (List.replicate n.toNat 0) w ha h64 (Row.nil _ _) (fun _=>⟨List.length_replicate,.inr ⟨rfl,rfl⟩⟩) (zeros_bytes _))
  have hr:chg l a n (List.replicate n.toNat 0)=zerA l a n:=rfl
  rw[hr] at HC
  obtain⟨rfl,h1,-⟩:=ha
  obtain⟨r,h0⟩:∃ r,r=zerA l a n:=⟨_,rfl⟩
  rw[←h0] at HC ⊢
  clear h1 hr h0
  go_enter Tryz.func266,Tryz.ntmps266
  go_wp2_with fail
  refine HC.out.mono ?_
  rintro e w1 ⟨rfl,hw⟩
  have HW:=Lib.hid hw
  clear hw
  go_wp2
  go_ret
  exact⟨rfl,HW.out⟩
set_option maxRecDepth 100000 in
theorem putC_any (h:Hn) (v:Value) (l:List Int) (a x y:Int) (w:World) (ha:ArC h w v l) (h0:0≤y) (h1:y<18446744073709551616) :
    Calls Tryz.prog 96 #[v,.int .i64 a,.int .i64 x,.int .u64 y] w (WroteC w v h (putA l a x y)):=by
  have hl:=ha.len
  have HM:=Lib.hid (madeC_any h v l w ha)
  have HF:=Lib.hid (fits_any y x w h0 h1)
  have HW0:Hid (∀ e,WroteC w v h (l,e) (.returned (.int .i64 e)) w):=fun e=>⟨rfl,ha,Fr.refl _ _ _⟩
  by_cases hf:fits y x=true
  · have hw:isW x=true:=by simp[fits] at hf;exact hf.1
    obtain⟨b1,b2⟩:=isW_bd hw
    have HL:=Lib.hid (load_any _ a x l w ha.row)
    by_cases hp:plc l.length a x=0
    · obtain⟨p1,p2,p3⟩:=plc_ok hp
      obtain⟨m,rfl⟩:=Int.eq_ofNat_of_zero_le p1
      obtain⟨n,rfl⟩:=Int.eq_ofNat_of_zero_le (show 0≤x by omega)
      have hld:ldv l m n=(le ((l.drop m).take n),0):=by simp[ldv,hw,hp]
      rw[hld] at HL
      have hst:ste l m n y=0:=by rw[ste,if_pos hf,hp]
      have hr:putA l m n y=(stl l m n y,0):=by rw[putA,if_pos hst];rfl
      rw[hr]
      have hlen:((l.drop m).take n).length=n:=by rw[List.length_take,List.length_drop];omega
      have hpl:plc ((l.drop m).take n).length 0 n=0:=by rw[hlen];unfold plc;rw[if_neg (by omega),if_pos (by simp)]
      have hst2:ste ((l.drop m).take n) 0 n y=0:=by rw[ste,if_pos hf,hpl]
      have hs2:stl ((l.drop m).take n) (0:Int).toNat (n:Int).toNat y=(parts y).take n:=by
        unfold stl
        have hd:((l.drop m).take n).drop n = []:=List.drop_eq_nil_of_le (by omega)
        rw[Int.toNat_natCast,show (0:Int).toNat=0 from rfl,Nat.zero_add,hd]
        simp
      obtain⟨P,hP⟩:∃ P,P=(l.drop m).take n:=⟨_,rfl⟩
      have hrow:Row .u8 w (.slice (some ⟨h.b,m,none⟩) n (l.length-m)) P:=by
        obtain⟨⟨ad,cap,e,e2,e3,e4,e5⟩,-⟩:=ha.view m n (by omega)
        rw[hlen,vwA,if_neg (by omega)] at e
        injection e with e e' e''
        refine⟨some ⟨h.b,m,none⟩,l.length-m,by rw[hP,hlen],by rw[hP,hlen];omega,by omega,by rw[hP];exact e4,fun hne=>?_⟩
        rw[hP] at hne ⊢
        rw[e]
        exact e5 hne
      have HS:=Lib.hid (fun(W:World) (hb:Below w.heap.size w W)=>store_any _ 0 n y P W (hrow.mono hb (Nat.le_refl _)) h0 h1 (by rw[hP,hlen];omega))
      unfold Stored at HS
      rw[←hP] at hst2 hs2
      rw[hst2,hs2] at HS
      simp only[if_true] at HS
      have hpn:((parts y).take n).length=n:=by rw[List.length_take,parts_length];omega
      have hpb:IsBytes ((parts y).take n):=IsBytes.of_mem fun z hz=>IsBytes.mem (l:=parts y) (parts_bd y h0 h1) (List.mem_of_mem_take hz)
      have hchg:chg l m n ((parts y).take n)=(stl l m n y,0):=by
        rw[chg,if_pos (fitB_of (by omega))]
        simp only[Int.toNat_natCast,wrL,stl,hpn]
      have HCh:=Lib.hid (fun(W:World) (u:Value) (hb:Below w.heap.size w W) (hx:Row .u8 W u ((parts y).take n))=>changeC_any h v l m n u _ ((parts y).take n) W (ha.below hb) (by unfold is64;omega) hx (fun _=>⟨by rw[hpn];simp,.inl rfl⟩) hpb)
      rw[hchg] at HCh
      have HA:=Lib.hid ha
      obtain⟨r,hr0⟩:∃ r,r=stl l m n y:=⟨_,rfl⟩
      rw[←hr0] at HCh ⊢
      obtain⟨q,hq0⟩:∃ q,q=(parts y).take n:=⟨_,rfl⟩
      rw[←hq0] at HCh HS
      obtain⟨s,hs⟩:∃ s:Nat,s=m+n:=⟨_,rfl⟩
      have w2:IntKind.i64.wrap ((m:Int)+(n:Int))=(s:Int):=(wrap_id (by omega) (by omega)).trans (by omega)
      have e0:(0:Int)≤(m:Int):=by omega
      have e3:(m:Int)≤(s:Int):=by omega
      have e4:(s:Int)≤(l.length:Int):=by omega
      have e5:¬ l.length=m:=by omega
      have e6:¬ l.length-m=0:=by omega
      have hsub:s-m=n:=by omega
      obtain⟨ld,hld0⟩:∃ ld,ld=le ((l.drop m).take n):=⟨_,rfl⟩
      rw[←hld0] at HL
      rw[hf] at HF
      have HCell:Hid (∀ W,Below w.heap.size w W→W.cell? ⟨h.g,0,none⟩=some (.slice (some ⟨h.b,0,none⟩) l.length l.length)):=fun W hb=>cell_of_one (ha.below hb).2.1
      have c1:=HCell.out w (Below.refl _ _)
      obtain⟨rfl,h1',-⟩:=ha
      clear h1' hld0 hs hq0 hr0 hchg hpb hpn hs2 hst2 hrow hP hpl hlen hr hst hld p2 p3 hp hf hw
      go_enter Tryz.func96,Tryz.ntmps96
      go_wp2_with fail
      refine HM.out.mono ?_
      rintro e w' ⟨rfl,rfl⟩
      go_wp2_with fail
      refine HF.out.mono ?_
      rintro e w' ⟨rfl,rfl⟩
      go_wp2_with fail
      refine HL.out.mono ?_
      rintro e w1 ⟨rfl,hb1⟩
      have HB1:=Lib.hid hb1
      have c2:=HCell.out w1 hb1
      clear hb1
      go_wp2_with fail
      try simp only[hsub]
      refine(HS.out w1 HB1.out).mono ?_
      rintro e w2 ⟨u,rfl,hb2,hrow2⟩
      have HB2:=Lib.hid (HB1.out.trans (hb2.mono HB1.out.size))
      have HR2:=Lib.hid hrow2
      obtain⟨ad,cap,rfl,-,-,-,-⟩:=hrow2
      clear hb2
      go_wp2_with fail
      refine(HCh.out w2 _ HB2.out HR2.out).mono ?_
      rintro e w3 ⟨rfl,ha',hfr⟩
      have HE:Hid (WroteC w (.pointer (some ⟨h.g,0,none⟩)) h (r,0) (.returned (.int .i64 0)) w3) :=
        ⟨rfl,ha',(Fr.of_below HB2.out).trans (hfr.mono HB2.out.size (fun _ _ hs=>hs))⟩
      clear ha' hfr
      go_wp2
      go_ret
      exact HE.out
    · have hld:ldv l a x=(0,plc l.length a x):=by simp[ldv,hw,hp]
      rw[hld] at HL
      have hst:ste l a x y=plc l.length a x:=by rw[ste,if_pos hf]
      have hr:putA l a x y=(l,plc l.length a x):=by rw[putA,if_neg (by rw[hst];exact hp),hst]
      rw[hr]
      obtain⟨p,hpp⟩:∃ p,p=plc l.length a x:=⟨_,rfl⟩
      rw[←hpp] at hp HL ⊢
      have hne:(p == 0)=false:=by simpa using hp
      rw[hf] at HF
      have HA:=Lib.hid ha
      obtain⟨rfl,h1',-⟩:=ha
      have c1:=cell_of_one h1'
      clear h1' hpp hp hr hst hld hf hw
      go_enter Tryz.func96,Tryz.ntmps96
      go_wp2_with fail
      refine HM.out.mono ?_
      rintro e w' ⟨rfl,rfl⟩
      go_wp2_with fail
      refine HF.out.mono ?_
      rintro e w' ⟨rfl,rfl⟩
      go_wp2_with fail
      refine HL.out.mono ?_
      rintro e w1 ⟨rfl,hb1⟩
      have HE:Hid (WroteC w (.pointer (some ⟨h.g,0,none⟩)) h (l,p) (.returned (.int .i64 p)) w1):=⟨rfl,HA.out.below hb1,Fr.of_below hb1⟩
      clear hb1
      go_wp2
      go_ret
      exact HE.out
  · have hf':fits y x=false:=by simpa using hf
    have hst:ste l a x y=2:=by rw[ste,hf'];rfl
    have hr:putA l a x y=(l,2):=by rw[putA,if_neg (by rw[hst];decide),hst]
    rw[hr]
    rw[hf'] at HF
    obtain⟨rfl,h1',-⟩:=ha
    clear h1' hr hst hf hf'
    go_enter Tryz.func96,Tryz.ntmps96
    go_wp2_with fail
    refine HM.out.mono ?_
    rintro e w' ⟨rfl,rfl⟩
    go_wp2_with fail
    refine HF.out.mono ?_
    rintro e w' ⟨rfl,rfl⟩
    go_wp2
    go_ret
    exact HW0.out 2
end Go.Proofs.YtmgeiaglandedaaGreatDoor.Arn

namespace Go.Proofs.YtmgeiaglandedaaGreatDoor.Arn
open Go.RowKit Num
set_option linter.unusedVariables false
end Go.Proofs.YtmgeiaglandedaaGreatDoor.Arn
