/- What IndexFinds keeps: who is in, who is out; rows that grow, and one out of a row. What IndexFinds keeps, as one; who is in is found. -/
import Derived.Test.YtmgeiaglandedaaGreatDoorJ22
import Derived.Deep.RegionHeld3
namespace Go.Proofs.YtmgeiaglandedaaGreatDoor.Ind
open Go.RowKit Num
open Pro
open Mem (Mm MemC MRet Hm rd blkM)
open Sla (Sl St Lv pl aT pV Lo tkF Ts X0)
open Arn (wrL is64)
set_option linter.unusedVariables false
set_option maxRecDepth 100000
section
variable {E:List Nat} {B:Nat→Bk} {K K':Nat→Nat} {A C:List Rb} {a k:Nat} {b c:Rb}
theorem getR (A:List Rb) {k:Nat} (hk:k<A.length):A.getD k Rb.zero=A[k]:=by simp[List.getD,hk]
theorem memR {A:List Rb} {k:Nat} (hk:k<A.length):A.getD k Rb.zero∈A:=by rw[getR A hk];exact List.getElem_mem hk
theorem bs_inj {s t:ByteArray} (h:bs s=bs t):s=t:=by rw[←strOfNums_bs s,h,strOfNums_bs]
end
section
variable {n:Nat} {W W':World} {u u' v v':Value} {A A' C C':List Rb} {h:Hm}
theorem valsR_one (L:List Rb):∀ x∈valsA encR L,x.oneCell'=true:=by
  intro x hx
  unfold valsA at hx
  obtain⟨c,hc,hx⟩:=List.mem_flatMap.1 hx
  simp[encR] at hx
  rcases hx with rfl | rfl | rfl | rfl | rfl | rfl<;>rfl
theorem grown_two {r:Option Nat} {W1 W2:World} (h1:W.grownBy W1 r) (h2:W1.grownBy W2 r):W.grownBy W2 r :=
  ⟨h2.os.trans h1.os,h2.tape.trans h1.tape,h2.output.trans h1.output,Nat.le_trans h1.size h2.size,fun i hi hr=>(h2.block i (Nat.lt_of_lt_of_le hi h1.size) hr).trans (h1.block i hi hr)⟩
theorem grown_al {r:Option Nat} {o:Obj} (hg:(W.alloc o).grownBy W' r):W.grownBy W' r:=grown_two ⟨(below_made W o).os,(below_made W o).tape,(below_made W o).output,(below_made W o).size,fun k hk _=>(below_made W o).block k hk⟩ hg
theorem push_run (c:Rb) (d:OwnR n W u A) (hn:n≤W.heap.size) (hA:A.length≤1000) :
    ∃ u' W',(Builtin.append_ #[73,73] 73 #[u,.slice (some ⟨W.heap.size,0,none⟩) 1 1]).run Tryz.prog (W.alloc (.cells #[.int .i64 c.pos,.bool c.node,.int .u32 (c.name:Int),.int .u16 (c.typ:Int),.string c.lab,.int .u32 (c.hash:Int)] 62)) = .ok u' W' ∧
      OwnR n W' u' (A ++ [c])∧W.grownBy W' u.ownBlock∧(u'.ownBlock=u.ownBlock∨∃ b,u'.ownBlock=some b∧W.heap.size≤b):=by
  obtain⟨i0,hi,hz0,hz1,hz2⟩:=info_parts infoR
  have hb:=below_made W (.cells #[.int .i64 c.pos,.bool c.node,.int .u32 (c.name:Int),.int .u16 (c.typ:Int),.string c.lab,.int .u32 (c.hash:Int)] 62)
  have hnew:∀ j x,(valsA encR [c])[j]? = some x→(W.alloc (.cells #[.int .i64 c.pos,.bool c.node,.int .u32 (c.name:Int),.int .u16 (c.typ:Int),.string c.lab,.int .u32 (c.hash:Int)] 62)).cell? ((⟨W.heap.size,0,none⟩:Addr).add j)=some x:=fun j x hx=>by
    rw[Addr_add,Nat.zero_add,cell_block (heap_alloc_new W _) j,←hx]
    simp[valsA,encR]
  obtain⟨u',W',h1,h2,h3,-,h5⟩:=run_append_own_at (P:=Tryz.prog) (w:=W.alloc (.cells #[.int .i64 c.pos,.bool c.node,.int .u32 (c.name:Int),.int .u16 (c.typ:Int),.string c.lab,.int .u32 (c.hash:Int)] 62)) n 73 73 62 i0 _ 6 48 Tryz.underlying73 hi hz0 hz1 hz2 rfl (by decide) u A.length (valsA encR A) (d.below hb) ⟨W.heap.size,0,none⟩ 1 1 (valsA encR [c]) rfl hnew (valsR_one _) (by unfold maxLen;omega) (by omega) (by rw[size_al];omega)
  refine⟨u',W',h1,?_,grown_al h3,?_⟩
  · unfold OwnR
    rw[List.length_append,show valsA encR (A ++ [c])=valsA encR A++valsA encR [c] by simp[valsA]]
    exact h2
  · rcases h5 with q | q
    · exact .inl q
    · exact .inr ⟨_,q,by rw[size_al];omega⟩
end
end Go.Proofs.YtmgeiaglandedaaGreatDoor.Ind

namespace Go.Proofs.YtmgeiaglandedaaGreatDoor.Ind
open Go.RowKit Num
open Pro
open Mem (Mm MemC MRet Hm rd blkM)
open Sla (Sl St Lv pl aT pV Lo tkF Ts X0)
open Arn (wrL is64)
set_option linter.unusedVariables false
set_option maxRecDepth 100000
section
variable {h:Hm} {l lb lb':List Int} {T T':List Sl} {w0 w w' W W':World} {n a x y k k':Nat} {E:List Nat} {B:Nat→Bk} {K K':Nat→Nat} {e:Ending} {u v u' v':Value} {A A' C C':List Rb} {b c:Rb}
end
end Go.Proofs.YtmgeiaglandedaaGreatDoor.Ind
