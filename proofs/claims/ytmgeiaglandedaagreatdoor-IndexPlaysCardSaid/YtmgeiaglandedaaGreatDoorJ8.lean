/- Plain mathematics of where the parts of an arena lie. Contracts of the document's functions on the layout. Contracts of the document's functions on the layout: places. What is asked of layout's functions; lies; the walks of the statements. -/
import Derived.Test.YtmgeiaglandedaaGreatDoorJ0
import Derived.Test.YtmgeiaglandedaaGreatDoorRows
import Derived.Deep.RegionHeld3
namespace Go.Proofs.YtmgeiaglandedaaGreatDoor.Lay
open Go.RowKit
def rightC (s n:Int):Bool:=decide (7≤s∧s≤64∧n % 2=0∧32*s≤n∧n≤8192)
def slT (s:Nat):Nat:=128+16*s
def endT (s n:Nat):Nat:=128+16*s+4*n
def padT (s n:Nat):Nat:=if endT s n % 16=0 then 0 else 8
def baseT (s n:Nat):Nat:=endT s n+padT s n
def sizeT (s n:Nat):Nat:=baseT s n+1024*s
theorem right_out {s n:Int} (h:rightC s n=true):7≤s∧s≤64∧n % 2=0∧32*s≤n∧n≤8192:=by simpa[rightC] using h
theorem right_nat {s n:Int} (h:rightC s n=true):∃ S N:Nat,s=S∧n=N∧7≤S∧S≤64∧N % 2=0∧32*S≤N∧N≤8192:=by
  have:=right_out h
  exact⟨s.toNat,n.toNat,by omega,by omega,by omega,by omega,by omega,by omega,by omega⟩
theorem pad_two {s n:Nat} (h:n % 2=0):(endT s n % 16=0∧padT s n=0)∨(endT s n % 16=8∧padT s n=8):=by
  unfold padT endT
  by_cases e:(128+16*s+4*n) % 16=0
  · exact .inl ⟨e,by rw[if_pos e]⟩
  · exact .inr ⟨by omega,by rw[if_neg e]⟩
theorem base_sixteen {s n:Nat} (h:n % 2=0):baseT s n % 16=0∧endT s n≤baseT s n∧baseT s n≤endT s n+8:=by
  unfold baseT
  rcases pad_two (s:=s) h with⟨h1,h2⟩ | ⟨h1,h2⟩<;>omega
def baseC (s n:Int):Nat:=if rightC s n then baseT s.toNat n.toNat else 0
def sizeC (s n:Int):Nat:=if rightC s n then sizeT s.toNat n.toNat else 0
def headC (s n i:Int):Nat:=if rightC s n=true∧0≤i∧i<s then 128+16*i.toNat else 0
def slotC (s n i:Int):Nat:=if rightC s n=true∧0≤i∧i<n then slT s.toNat+4*i.toNat else 0
def slabC (s n i:Int):Nat:=if rightC s n=true∧0≤i∧i<s then baseT s.toNat n.toNat+1024*i.toNat else 0
def inC (s n a:Int):Nat×Bool:=if rightC s n=true∧(baseT s.toNat n.toNat:Int)≤a∧a<(sizeT s.toNat n.toNat:Int) then (((a-baseT s.toNat n.toNat) / 1024).toNat,true) else (0,false)
def runsT (s n:Nat):List (Nat×Nat×Nat) := [(0,8,1),(8,120,2),(128,16*s,3),(slT s,4*n,4)]++(if padT s n=0 then [] else [(endT s n,8,8)]) ++ [(baseT s n,1024*s,7)]
def runsC (s n:Int):List (Nat×Nat×Nat):=if rightC s n then runsT s.toNat n.toNat else []
def encR (r:Nat×Nat×Nat):List Value := [.int .i64 (r.1:Int),.int .i64 (r.2.1:Int),.int .i64 (r.2.2:Int)]
theorem encR_length (r:Nat×Nat×Nat):(encR r).length=3:=rfl
end Go.Proofs.YtmgeiaglandedaaGreatDoor.Lay

namespace Go.Proofs.YtmgeiaglandedaaGreatDoor.Lay
open Go.RowKit
set_option linter.unusedVariables false
theorem below_made (w:World) (o:Obj):Below w.heap.size w (w.alloc o):=(Below.refl _ _).alloc (Nat.le_refl _) _
theorem size_alloc (w:World) (o:Obj):(w.alloc o).heap.size=w.heap.size+1:=Array.size_push _
theorem wrap_id {n:Int} (h1 : -9223372036854775808≤n) (h2:n≤9223372036854775807):IntKind.i64.wrap n=n:=by simp[IntKind.wrap,IntKind.bits,IntKind.signed];omega
theorem infoRun:(Tryz.prog.info? 195).map (fun i=>(i.zero,i.size,i.bytes))=some (some (.agg #[.int .i64 0,.int .i64 0,.int .i64 0]),3,24):=by kernel_rfl
def W1 (w:World) (s n:Int):World:=w.alloc (.cells #[.int .i64 s,.int .i64 n] 81)
theorem one_box {w w1:World} {s n:Int} (h:Below (W1 w s n).heap.size (W1 w s n) w1):w1.cell? ⟨w.heap.size,0,none⟩=some (.int .i64 s)∧w1.cell? ⟨w.heap.size,1,none⟩=some (.int .i64 n)∧w.heap.size<w1.heap.size∧Below w.heap.size w w1:=by
  have s1:=size_alloc w (.cells #[.int .i64 s,.int .i64 n] 81)
  have e0:w1.heap[w.heap.size]? = some (.cells #[.int .i64 s,.int .i64 n] 81 (0,0)):=by
    rw[h.block _ (by unfold W1;omega)]
    exact heap_alloc_new _ _
  refine⟨by rw[cell_block e0];rfl,by rw[cell_block e0];rfl,by have:=h.size;unfold W1 at this;omega,?_⟩
  exact(below_made w _).trans (h.mono (by unfold W1;omega))
theorem news_three (w:World) (x y z:Int) (e:TypeId):∀ j u,[Value.int .i64 x,.int .i64 y,.int .i64 z][j]? = some u→(w.alloc (.cells #[.int .i64 x,.int .i64 y,.int .i64 z] e)).cell? ((⟨w.heap.size,0,none⟩:Addr).add j)=some u:=by
  intro j u hj
  rw[Addr_add,Nat.zero_add,cell_block (heap_alloc_new w _)]
  simpa using hj
theorem news_three_at (w:World) (g:Nat) (hg:g=w.heap.size) (x y z:Int) (e:TypeId):∀ j u,[Value.int .i64 x,.int .i64 y,.int .i64 z][j]? = some u→(w.alloc (.cells #[.int .i64 x,.int .i64 y,.int .i64 z] e)).cell? ((⟨g,0,none⟩:Addr).add j)=some u:=by
  subst hg
  exact news_three w x y z e
theorem oneCell_three (x y z:Int):∀ u ∈ [Value.int .i64 x,.int .i64 y,.int .i64 z],u.oneCell'=true:=by
  intro u hu
  simp at hu
  rcases hu with rfl | rfl | rfl<;>rfl
end Go.Proofs.YtmgeiaglandedaaGreatDoor.Lay

namespace Go.Proofs.YtmgeiaglandedaaGreatDoor.Lay
open Go.RowKit
set_option linter.unusedVariables false
end Go.Proofs.YtmgeiaglandedaaGreatDoor.Lay

namespace Go.Proofs.YtmgeiaglandedaaGreatDoor.Lay
open Go.RowKit
set_option linter.unusedVariables false
end Go.Proofs.YtmgeiaglandedaaGreatDoor.Lay
