/- Small laws that the walks of this seat use: slices that are read, copies into a row that the call itself made. What the shells of the laws hand over: a slice of integers that came in reads as a list. Strings as lists of integers; []byte(s); rows that a call owns. Slices of structs: each of k cells, as enc says. Slices of texts that are read; rows just made. Slices of slices of texts. Slices of things that are read, whatever they are; slices of rows of bytes. append of a row of bytes, whatever it is, onto a row that the call owns. Appending a row of ints onto one that a call owns. Appending a row of ints onto one that a call owns, outside a region that draws; a struct of two cells that is written. Slices of bools, read as lists. Rows that a call writes cell by cell; lists of naturals as rows. A region that draws its order, whose operations only read what was there when it began, and whose calls may make memory, and hand back what doesn't hang on the world: one walk, in the order of the text. What a call leaves alone: all blocks below N but those of S. Slices of structs of k cells, each read by R. Package variables that a row lists: an array of integers, whatever its place on the list; kept along Below. Arrays compared, element by element. Package variables that a row lists: arrays of arrays of arrays of integers. What a loop over a function keeps of rows and blocks. A range over a function whose iterator writes cells of its own between two rounds: the steps that it may take are named by the relation St. A region that draws its order, whose calls may write what the walk's own class of worlds lets them: one walk, in the order of the text. The wrap of a row that lists variables, the world's shape kept too. -/
import Derived.WalkKit
import Derived.ProofKit
import Derived.Below
import Derived.Lib.Hide
import Derived.Deep.QuietTactic
import Derived.BigQuiet
import Derived.Outline
import Derived.RegionTactic
import Derived.Deep.RegionLaw
import Derived.Laws.CopyOwn
import Derived.OpenShut
import Derived.Laws.BytesArg
import Derived.Lib.ConvBytes
import Derived.WalkSmall
import Derived.SliceStrings
import Derived.Lib.SlBytesConst
import Derived.Laws.AppendOwnNone
import Derived.Maps.AppendAt
import Derived.ArgAppend
import Derived.Deep.Upon
import Derived.Deep.Quiet
import Derived.Deep.Slices
import Derived.Lib.LaidTab
import Derived.MakeChecks
import Derived.Laws.StructEq
import Derived.RangeFuncNested
import Derived.RangeFuncBound
import Derived.Shelf.Abstract
import Derived.RangeFuncCalls
import Derived.OrdersIn
import Derived.Deep.RegionHeld3
import Derived.HandedShaped
namespace Go.Proofs.YtmgeiaglandedaaGreatDoor
open Go.RowKit
theorem ret_bool {a b:Bool} (h:a=b):Ending.returned (.bool a) = .returned (.bool b):=by rw[h]
theorem ret_int {k:IntKind} {a b:Int} (h:a=b):Ending.returned (.int k a) = .returned (.int k b):=by rw[h]
def Row (k:IntKind) (w:World) (v:Value) (l:List Int):Prop :=
  ∃ a cap,v = .slice a l.length cap∧l.length≤cap∧cap≤9223372036854775807∧(∀ i,i<l.length→(Lit.int k (l.getD i 0)).wf=true) ∧
    (l ≠ []→∃ b off,a=some ⟨b,off,none⟩∧b<w.heap.size∧∀ i,i<l.length→w.cell? ⟨b,off+i,none⟩=some (.int k (l.getD i 0)))
theorem Row.mono {k:IntKind} {w w':World} {v:Value} {l:List Int} {B:Nat} (h:Row k w v l) (hb:Below B w w') (hB:w.heap.size≤B):Row k w' v l:=by
  obtain⟨a,cap,h1,h2,h3,h4,h5⟩:=h
  refine⟨a,cap,h1,h2,h3,h4,fun hne=>?_⟩
  obtain⟨b,off,e,hlt,hc⟩:=h5 hne
  exact⟨b,off,e,Nat.lt_of_lt_of_le hlt hb.size,fun i hi=>(hb.cell (p:=⟨b,off+i,none⟩) (show b<B by omega)).trans (hc i hi)⟩
theorem Row.nil (k:IntKind) (w:World):Row k w (.slice none 0 0) []:=⟨none,0,rfl,by simp,by omega,fun i hi=>by simp at hi,fun h=>absurd rfl h⟩
theorem Row.bytes {w:World} {v:Value} {l:List Int} (h:Row .u8 w v l) (i:Nat):0≤l.getD i 0∧l.getD i 0<256:=by
  obtain⟨a,cap,h1,h2,h3,h4,h5⟩:=h
  by_cases hi:i<l.length
  · have:=bounds_u8 (h4 i hi);omega
  · simp[List.getD,List.getElem?_eq_none (show l.length≤i by omega)]
theorem oneCell_int (k:IntKind) (n:Int):(Value.int k n).oneCell'=true:=rfl
theorem step_copy_row {P:Program} {ops:Array Oper} {o:Oper} {a:Act} {w:World} {K:Act→World→Prop} {Q:Exit→Act→World→Prop} {E:Prop} (hgd:o.guard=none) (d s:Operand) (dT sT:TypeId)
    (ho:o.op = .call { callee:=.builtin .copy,args := #[d,s],argTypes := #[dT,sT] }) (elem:TypeId) (hu:P.underlying dT=some (.slice elem)) (hsz:(P.info? elem).map (·.size)=some 1)
    (g off dLen dCap:Nat) (ad:Addr) (sLen sCap:Nat) (hd:a.eval d = .slice (some ⟨g,off,none⟩) dLen dCap) (hs:a.eval s = .slice (some ad) sLen sCap)
    (cur:Array Value) (t:TypeId) (hg:w.heap[g]? = some (.cells cur t (0,0))) (cs:List Value) (hn:cs.length=Nat.min sLen dLen)
    (hsrc:∀ j v,cs[j]? = some v→w.cell? (ad.add j)=some v) (hfit:off+cs.length≤cur.size) (h1:∀ v∈cs,v.oneCell'=true)
    (row:Array Value) (hrow:(cur.toList.take off++(cs++cur.toList.drop (off+cs.length))).toArray=row) (w':World) (hw':w.setRow g row=w')
    (h:K (a.put o.dst (goInt cs.length)) w') :
    if Region.wanted o (yielded ops a.tmps)=true then Oper.wp P o a w K Q else E:=by
  have hw:Region.wanted o (yielded ops a.tmps)=true:=by simp[Region.wanted,hgd]
  rw[if_pos hw]
  subst hrow hw'
  have hrun:=run_copy_row (P:=P) w dT sT o.type elem g off dLen dCap ad sLen sCap cur t cs hu hsz hg hn hsrc hfit h1
  unfold Oper.wp
  simp[execOp,ho,resolve,invoke,builtin,hd,hs,hrun,Result.andThen]
  exact h
theorem setRow_alloc_drew (w:World) (c d:Array Value) (e:TypeId):((w.alloc (.cells c e)).drew).setRow w.heap.size d=(w.alloc (.cells d e)).drew:=by
  have h:(w.heap.push (.cells c e)).modify w.heap.size (fun | .cells _ elem frozen=>.cells d elem frozen | o=>o)=w.heap.push (.cells d e):=by
    apply Array.ext_getElem?
    intro i
    rw[Array.getElem?_modify,Array.getElem?_push,Array.getElem?_push]
    by_cases hi:i=w.heap.size
    · subst hi;simp
    · rw[if_neg hi,if_neg (by omega),if_neg hi]
  exact congrArg (fun(hp:Array Obj)=>({ heap:=hp,tape:=w.tape,drawn:=w.drawn+1,os:=w.os,output:=w.output } : World)) h
theorem setRow_alloc (w:World) (c d:Array Value) (e:TypeId):(w.alloc (.cells c e)).setRow w.heap.size d=w.alloc (.cells d e):=by
  have h:(w.heap.push (.cells c e)).modify w.heap.size (fun | .cells _ elem frozen=>.cells d elem frozen | o=>o)=w.heap.push (.cells d e):=by
    apply Array.ext_getElem?
    intro i
    rw[Array.getElem?_modify,Array.getElem?_push,Array.getElem?_push]
    by_cases hi:i=w.heap.size
    · subst hi;simp
    · rw[if_neg hi,if_neg (by omega),if_neg hi]
  exact congrArg (fun(hp:Array Obj)=>({ heap:=hp,tape:=w.tape,drawn:=w.drawn,os:=w.os,output:=w.output } : World)) h
theorem wpList_copy_row {P:Program} {w:World} {ops:Array Oper} {rest:List Oper} {o:Oper} {a:Act} {Q:Exit→Act→World→Prop} (hgd:o.guard=none) (d s:Operand) (dT sT:TypeId)
    (ho:o.op = .call { callee:=.builtin .copy,args := #[d,s],argTypes := #[dT,sT] }) (elem:TypeId) (hu:P.underlying dT=some (.slice elem)) (hsz:(P.info? elem).map (·.size)=some 1)
    (g off dLen dCap:Nat) (ad:Addr) (sLen sCap:Nat) (hd:a.eval d = .slice (some ⟨g,off,none⟩) dLen dCap) (hs:a.eval s = .slice (some ad) sLen sCap)
    (cur:Array Value) (t:TypeId) (hg:w.heap[g]? = some (.cells cur t (0,0))) (cs:List Value) (hn:cs.length=Nat.min sLen dLen)
    (hsrc:∀ j v,cs[j]? = some v→w.cell? (ad.add j)=some v) (hfit:off+cs.length≤cur.size) (h1:∀ v∈cs,v.oneCell'=true)
    (row:Array Value) (hrow:(cur.toList.take off++(cs++cur.toList.drop (off+cs.length))).toArray=row) (w':World) (hw':w.setRow g row=w')
    (h:wpList P ops Q rest (a.put o.dst (goInt cs.length)) w'):wpList P ops Q (o::rest) a w:=by
  subst hrow hw'
  exact wpList_copy_own hgd d s dT sT ho elem hu hsz g off dLen dCap ad sLen sCap hd hs cur t hg cs hn hsrc hfit h1 h
theorem cell_block {w:World} {g:Nat} {c:Array Value} {e:TypeId} {f:Nat×Nat} (h:w.heap[g]? = some (.cells c e f)) (i:Nat):w.cell? ⟨g,i,none⟩=c[i]?:=by
  simp[World.cell?,h]
theorem size_madeCells1 (z:Value) (n:Nat):(madeCells #[z] n).size=n:=by simp[madeCells]
theorem Addr_add (b off j:Nat):(⟨b,off,none⟩:Addr).add j=⟨b,off+j,none⟩:=by
  unfold Addr.add
  split
  · simp_all
  · rfl
theorem wpList_make_row {P:Program} {w:World} {ops:Array Oper} {rest:List Oper} {o:Oper} {a:Act} {Q:Exit→Act→World→Prop}
    (hg:o.guard=none) (l c:Operand) (t:TypeId) (hop:o.op=Op.makeSlice t l c)
    (e:TypeId) (i:TypeInfo) (z:Value) (bytes:Nat) (h1:P.underlying t=some (.slice e)) (h2:P.info? e=some i) (h3:i.zero=some z) (h4:i.size=1) (h5:i.bytes=bytes)
    (kl kc:IntKind) (n:Nat) (hl:a.eval l = .int kl (n:Int)) (hc:a.eval c = .int kc (n:Int)) (b2:bytes*n≤281474976710656) (b3:n≤9223372036854775807)
    (hK:wpList P ops Q rest (a.put o.dst (.slice (some ⟨w.heap.size,0,none⟩) n n)) (w.alloc (.cells (madeCells z.cells n) e))) :
    wpList P ops Q (o::rest) a w:=by
  refine wpList_plain hg fun K hK'=>?_
  have hb:(i.bytes:Int)*(n:Int)≤281474976710656:=by rw[h5,←Int.natCast_mul];omega
  have hrun:=run_make (P:=P) w t e i z h1 h2 h3 kl kc (n:Int) (n:Int) (by omega) (by omega) hb (by omega)
  rw[h4,Nat.mul_one,Int.toNat_natCast] at hrun
  unfold Oper.wp
  simp[execOp,hop,hl,hc,hrun,Result.andThen]
  exact hK' _ _ hK
theorem Row.string {P:Program} {w:World} {v:Value} {l:List Int} (h:Row .u8 w v l) (src dst e:TypeId) (hs:P.underlying src=some (.slice e)) (he:P.underlying e=some (.int .u8)) (hd:P.underlying dst=some .string) :
    (convert src dst v).run P w = .ok (.string (strOfNums l)) w:=by
  obtain⟨a,cap,rfl,h2,h3,h4,h5⟩:=h
  by_cases hn:l = []
  · subst hn
    cases a with
    | none=>exact run_convert_bytes_nil w src e hs he _ _ dst hd
    | some a =>
      rw[run_convert_bytes_string w src dst e _ _ cap hs he hd,run_bytesToString w _ _ cap [] (by simp[loadCells];rfl)]
      rfl
  · obtain⟨b,off,rfl,hlt,hc⟩:=h5 hn
    exact run_convert_bytes_arg w src e hs he b off l.length cap l rfl hc dst hd
end Go.Proofs.YtmgeiaglandedaaGreatDoor

namespace Go.Proofs.YtmgeiaglandedaaGreatDoor
open Go.RowKit
theorem news_one (w:World) (k:IntKind) (x:Int) (e:TypeId):∀ j u,[Value.int k x][j]? = some u→(w.alloc (.cells #[.int k x] e)).cell? ((⟨w.heap.size,0,none⟩:Addr).add j)=some u:=by
  intro j u hj
  match j,hj with
  | 0,hj =>
    rw[Addr_add,Nat.zero_add,cell_block (heap_alloc_new w _)]
    simpa using hj
  | j+1,hj=>simp at hj
theorem oneCell_one (k:IntKind) (x:Int):∀ u ∈ [Value.int k x],u.oneCell'=true:=by
  intro u hu
  simp at hu
  subst hu
  rfl
theorem le_alloc {b:Nat} {w:World} (o:Obj) (h:b≤w.heap.size):b≤(w.alloc o).heap.size:=by
  have:(w.alloc o).heap.size=w.heap.size+1:=Array.size_push _
  omega
theorem maxLen_of {n:Nat} (h:n≤9223372036854775807):n≤maxLen:=by unfold maxLen;omega
end Go.Proofs.YtmgeiaglandedaaGreatDoor

namespace Go.Proofs.YtmgeiaglandedaaGreatDoor
open Go.RowKit
def vals (l:List Int):List Value:=l.map (.int .u8)
theorem vals_length (l:List Int):(vals l).length=l.length:=by simp[vals]
theorem vals_get (l:List Int) (j:Nat) (h:j<l.length):(vals l)[j]? = some (.int .u8 (l.getD j 0)):=by simp[vals,h,List.getD]
def bs (s:ByteArray):List Int:=s.data.toList.map fun c=>(c.toNat:Int)
theorem bs_length (s:ByteArray):(bs s).length=s.size:=by simp[bs]
theorem data_get (s:ByteArray) (k:Nat) (h:k<s.size):s.data.toList[k]? = some (s[k]'h):=by
  have h':k<s.data.toList.length:=by simpa using h
  rw[List.getElem?_eq_getElem h']
  rfl
theorem bs_getD (s:ByteArray) (k:Nat) (h:k<s.size):(bs s).getD k 0=((s[k]'h).toNat:Int):=by
  unfold bs
  rw[List.getD,List.getElem?_map,data_get s k h]
  rfl
theorem bs_bd (s:ByteArray) (i:Nat):0≤(bs s).getD i 0∧(bs s).getD i 0<256:=by
  by_cases h:i<s.size
  · rw[bs_getD s i h]
    have:=(s[i]'h).toNat_lt
    omega
  · simp[List.getD,List.getElem?_eq_none (show (bs s).length≤i by rw[bs_length];omega)]
theorem strOfNums_bs (s:ByteArray):strOfNums (bs s)=s:=by
  unfold bs strOfNums
  rw[List.map_map]
  have e:((fun n:Int=>UInt8.ofNat n.toNat)∘fun c:UInt8=>(c.toNat:Int))=id:=by
    funext c
    simp
  rw[e,List.map_id]
theorem bs_strOfNums (l:List Int) (h:∀ i,0≤l.getD i 0∧l.getD i 0<256):bs (strOfNums l)=l:=by
  apply List.ext_getElem
  · rw[bs_length,strOfNums_size]
  · intro i h1 h2
    have:=h i
    simp[List.getD,h2] at this
    simp[bs,strOfNums_data]
    omega
end Go.Proofs.YtmgeiaglandedaaGreatDoor

namespace Go.Proofs.YtmgeiaglandedaaGreatDoor
open Go.RowKit
def ARow {α : Type} (k:Nat) (enc : α → List Value) (d : α) (w:World) (v:Value) (P:List α):Prop :=
  ∃ a cap,v = .slice a P.length cap∧P.length≤cap∧cap≤9223372036854775807 ∧
    (P ≠ []→∃ b off,a=some ⟨b,off,none⟩∧b<w.heap.size∧∀ i,i<P.length→∀ j x,(enc (P.getD i d))[j]? = some x→w.cell? ⟨b,off+i*k+j,none⟩=some x)
theorem ARow.mono {α : Type} {k:Nat} {enc : α → List Value} {d : α} {w w':World} {v:Value} {P:List α} {B:Nat} (h:ARow k enc d w v P) (hb:Below B w w') (hB:w.heap.size≤B):ARow k enc d w' v P:=by
  obtain⟨a,cap,h1,h2,h3,h5⟩:=h
  refine⟨a,cap,h1,h2,h3,fun hne=>?_⟩
  obtain⟨b,off,e,hlt,hc⟩:=h5 hne
  exact⟨b,off,e,Nat.lt_of_lt_of_le hlt hb.size,fun i hi j x hx=>(hb.cell (p:=⟨b,off+i*k+j,none⟩) (show b<B by omega)).trans (hc i hi j x hx)⟩
theorem ARow.nil {α : Type} (k:Nat) (enc : α → List Value) (d : α) (w:World):ARow k enc d w (.slice none 0 0) []:=⟨none,0,rfl,by simp,by omega,fun h=>absurd rfl h⟩
def valsA {α : Type} (enc : α → List Value) (P:List α):List Value:=P.flatMap enc
theorem valsA_snoc {α : Type} (enc : α → List Value) (P:List α) (x : α):valsA enc (P ++ [x])=valsA enc P++enc x:=by simp[valsA]
theorem valsA_get {α : Type} {k:Nat} {enc : α → List Value} (hk:∀ x,(enc x).length=k) (d : α) (P:List α) (i:Nat) (h:i<P.length) (j:Nat) (hj:j<k):(valsA enc P)[i*k+j]? = (enc (P.getD i d))[j]?:=by
  induction P generalizing i with
  | nil=>simp at h
  | cons p P ih =>
    have e:valsA enc (p::P)=enc p++valsA enc P:=by simp[valsA]
    rw[e]
    cases i with
    | zero=>rw[List.getElem?_append_left (by rw[hk];omega)];simp
    | succ i =>
      have:=ih i (by simpa using h)
      rw[List.getElem?_append_right (by rw[hk,Nat.add_mul];omega),hk,show (i+1)*k+j-k=i*k+j by rw[Nat.add_mul];omega,this]
      simp
theorem valsA_length {α : Type} {k:Nat} {enc : α → List Value} (hk:∀ x,(enc x).length=k) (P:List α):(valsA enc P).length=P.length*k:=by
  induction P with
  | nil=>simp[valsA]
  | cons p P ih =>
    have e:valsA enc (p::P)=enc p++valsA enc P:=by simp[valsA]
    rw[e,List.length_append,ih,hk,List.length_cons,Nat.add_mul]
    omega
theorem arow_of_owns {α : Type} {k:Nat} {enc : α → List Value} (hk:∀ x,(enc x).length=k) (d : α) {w:World} {base:Nat} {t:TypeId} {v:Value} {n:Nat} {P:List α} (h:w.ownsRow base t k v n (valsA enc P)) (hn:P.length=n):ARow k enc d w v P:=by
  obtain⟨h1,h2⟩:=h
  subst hn
  rcases h2 with⟨rfl,h0⟩ | ⟨g,cap,cur,rfl,hg,hh,hle,hm,hsz,htk⟩
  · obtain rfl:P = []:=List.eq_nil_of_length_eq_zero h0
    exact ARow.nil _ _ _ _
  · refine⟨_,cap,rfl,hle,by unfold maxLen at hm;omega,fun _=>⟨g,0,rfl,(Array.getElem?_eq_some_iff.1 hh).1,fun i hi j x hx=>?_⟩⟩
    obtain⟨hj,-⟩:=List.getElem?_eq_some_iff.1 hx
    rw[hk] at hj
    have e:=valsA_get hk d P i hi j hj
    have hlt:i*k+j<P.length*k:=by
      have:(i+1)*k≤P.length*k:=Nat.mul_le_mul_right _ (by omega)
      rw[Nat.add_mul] at this
      omega
    rw[hx,←htk,List.getElem?_take_of_lt hlt] at e
    rw[Nat.zero_add,cell_block hh]
    simpa using e
end Go.Proofs.YtmgeiaglandedaaGreatDoor

namespace Go.Proofs.YtmgeiaglandedaaGreatDoor
open Go.RowKit
theorem below_made (w:World) (o:Obj):Below w.heap.size w (w.alloc o):=(Below.refl _ _).alloc (Nat.le_refl _) _
theorem ownsRow_stays {B:Nat} {e:TypeId} {k:Nat} {v:Value} {n:Nat} {xs:List Value} {w w':World} (h:w.ownsRow B e k v n xs) (hb:Below w.heap.size w w'):w'.ownsRow B e k v n xs :=
  h.kept (row:=none) ⟨hb.os,hb.tape,hb.output,hb.size,fun j hj _=>hb.block j hj⟩ (by cases hv:v.ownBlock<;>simp)
end Go.Proofs.YtmgeiaglandedaaGreatDoor

namespace Go.Proofs.YtmgeiaglandedaaGreatDoor
open Go.RowKit
end Go.Proofs.YtmgeiaglandedaaGreatDoor

namespace Go.Proofs.YtmgeiaglandedaaGreatDoor
open Go.RowKit
end Go.Proofs.YtmgeiaglandedaaGreatDoor

namespace Go.Proofs.YtmgeiaglandedaaGreatDoor
open Go.RowKit
end Go.Proofs.YtmgeiaglandedaaGreatDoor

namespace Go.Proofs.YtmgeiaglandedaaGreatDoor
open Go.RowKit
set_option linter.unusedVariables false
end Go.Proofs.YtmgeiaglandedaaGreatDoor

namespace Go.Proofs.YtmgeiaglandedaaGreatDoor
open Go.RowKit
set_option linter.unusedVariables false
theorem two_set0 {W:World} {g:Nat} {u x:Value} {T:TypeId} (h:W.heap[g]? = some (.cells #[u,x] T (0,0))) (v:Value):(W.setCell ⟨g,0,none⟩ v).heap[g]? = some (.cells #[v,x] T (0,0)):=by
  obtain⟨hlt,hk⟩:=Array.getElem?_eq_some_iff.1 h
  show (W.heap.modify g _)[g]? = _
  rw[Array.getElem?_eq_getElem (by rw[Array.size_modify];exact hlt),Array.getElem_modify_self,hk]
  rfl
theorem two_set1 {W:World} {g:Nat} {u x:Value} {T:TypeId} (h:W.heap[g]? = some (.cells #[u,x] T (0,0))) (v:Value):(W.setCell ⟨g,1,none⟩ v).heap[g]? = some (.cells #[u,v] T (0,0)):=by
  obtain⟨hlt,hk⟩:=Array.getElem?_eq_some_iff.1 h
  show (W.heap.modify g _)[g]? = _
  rw[Array.getElem?_eq_getElem (by rw[Array.size_modify];exact hlt),Array.getElem_modify_self,hk]
  rfl
end Go.Proofs.YtmgeiaglandedaaGreatDoor

namespace Go.Proofs.YtmgeiaglandedaaGreatDoor
open Go.RowKit
set_option linter.unusedVariables false
theorem step_append_run {P:Program} {ops:Array Oper} {o:Oper} {a:Act} {w:World} {K:Act→World→Prop} {Q:Exit→Act→World→Prop} {E:Prop} (hgd:o.guard=none) (s x:Operand) (t ty:TypeId)
    (ho:o.op = .call { callee:=.builtin .append,args := #[s,x],argTypes := #[t,t] }) (hty:o.type=ty) (vs vx v':Value) (w':World) (hs:a.eval s=vs) (hx:a.eval x=vx)
    (hrun:(Builtin.append_ #[t,t] ty #[vs,vx]).run P w = .ok v' w') (h:K (a.put o.dst v') w') :
    if Region.wanted o (yielded ops a.tmps)=true then Oper.wp P o a w K Q else E:=by
  have hw:Region.wanted o (yielded ops a.tmps)=true:=by simp[Region.wanted,hgd]
  rw[if_pos hw]
  subst hty
  unfold Oper.wp
  simp[execOp,ho,resolve,invoke,builtin,hs,hx,hrun,Result.andThen]
  exact h
theorem wpList_append_run {P:Program} {w:World} {ops:Array Oper} {rest:List Oper} {o:Oper} {a:Act} {Q:Exit→Act→World→Prop} (hgd:o.guard=none) (s x:Operand) (t ty:TypeId)
    (ho:o.op = .call { callee:=.builtin .append,args := #[s,x],argTypes := #[t,t] }) (hty:o.type=ty) (vs vx v':Value) (w':World) (hs:a.eval s=vs) (hx:a.eval x=vx)
    (hrun:(Builtin.append_ #[t,t] ty #[vs,vx]).run P w = .ok v' w') (h:wpList P ops Q rest (a.put o.dst v') w') :
    wpList P ops Q (o::rest) a w:=by
  refine wpList_plain hgd fun K hK=>?_
  subst hty
  unfold Oper.wp
  simp[execOp,ho,resolve,invoke,builtin,hs,hx,hrun,Result.andThen]
  exact hK _ _ h
end Go.Proofs.YtmgeiaglandedaaGreatDoor
namespace Go.Proofs.YtmgeiaglandedaaGreatDoor
open Go.ChangeShapes Go.WideShapes
section
variable {H:Type} {enc:TypeId×Value→H} {P:Program} {w:World} {base:Nat} {spare:Nat→Bool} {held:Bool}
end
end Go.Proofs.YtmgeiaglandedaaGreatDoor

namespace Go.Proofs.YtmgeiaglandedaaGreatDoor
open Go.RowKit
set_option linter.unusedVariables false
theorem frozen_own {w:World} {g:Nat} {c:Array Value} {e:TypeId} (h:w.heap[g]? = some (.cells c e (0,0))) (i:Nat):w.frozen? ⟨g,i,none⟩=false:=by simp[World.frozen?,h]
end Go.Proofs.YtmgeiaglandedaaGreatDoor

namespace Go.Proofs.YtmgeiaglandedaaGreatDoor
open Go.RowKit
def Kept (B:Nat) (w:World):Type := { x:World // Below B w x }
def Kept.w {B:Nat} {w:World} (k:Kept B w):World:=k.1
theorem Kept.below {B:Nat} {w:World} (k:Kept B w):Below B w k.w:=k.2
def Kept.mk' {B:Nat} {w w':World} (h:Below B w w'):Kept B w:=⟨w',h⟩
instance Kept.some (B:Nat) (w:World):Nonempty (Kept B w):=⟨⟨w,Below.refl B w⟩⟩
theorem Kept.cell {B:Nat} {w:World} {b o:Nat} {v:Value} (h:w.cell? ⟨b,o,none⟩=Option.some v) (hb:b<B):∀ k:Kept B w,k.w.cell? ⟨b,o,none⟩=Option.some v :=
  fun k=>(k.below.cell (p:=⟨b,o,none⟩) hb).trans h
theorem wp_region_kept {P:Program} {id:Nat} {Q:Exit→Act→World→Prop} {a:Act} {w:World} {l:List Oper} (hm:P.follows .mixedOrders=true) (hB:Region.lexB .any l.toArray=true)
    (h:wpQuiet P l.toArray (fun w'=>∃ k:Kept w.heap.size w,w'=k.w) (fun a'=>∀ w',(∃ k:Kept w.heap.size w,w'=k.w)→Q .normal a' w') l a):(Code.region id l.toArray true).wp P Q a w :=
  wp_region_quiet (C:=fun w'=>∃ k:Kept w.heap.size w,w'=k.w) hm hB ⟨Kept.mk' (Below.refl _ w).drew,rfl⟩ (by simpa using h)
theorem Calls.kept_of {P:Program} {f:FuncId} {args:Array Value} {w:World} {B:Nat} {k:Kept B w} {v:Value}
    (h:Calls P f args k.w fun e w'=>e = .returned v∧Below k.w.heap.size k.w w') (hB:B≤w.heap.size):Calls P f args k.w fun e w''=>e = .returned v∧∃ k':Kept B w,w''=k'.w :=
  h.mono fun _ _ ⟨he,hm⟩=>⟨he,Kept.mk' (k.below.trans (hm.mono (Nat.le_trans hB k.below.size))),rfl⟩
end Go.Proofs.YtmgeiaglandedaaGreatDoor

namespace Go.Proofs.YtmgeiaglandedaaGreatDoor
open Go.RowKit
structure Fr (N:Nat) (S:Nat→Prop) (a w:World):Prop where
  os:w.os=a.os
  tape:w.tape=a.tape
  output:w.output=a.output
  size:a.heap.size≤w.heap.size
  block:∀ k,k<N→¬ S k→w.heap[k]? = a.heap[k]?
theorem Fr.refl (N:Nat) (S:Nat→Prop) (w:World):Fr N S w w:=⟨rfl,rfl,rfl,Nat.le_refl _,fun _ _ _=>rfl⟩
theorem Fr.trans {N:Nat} {S:Nat→Prop} {a b c:World} (h:Fr N S a b) (k:Fr N S b c):Fr N S a c :=
  ⟨k.os.trans h.os,k.tape.trans h.tape,k.output.trans h.output,Nat.le_trans h.size k.size,fun i hi hs=>(k.block i hi hs).trans (h.block i hi hs)⟩
theorem Fr.mono {N M:Nat} {S T:Nat→Prop} {a b:World} (h:Fr N S a b) (hN:M≤N) (hS:∀ k,k<M→S k→T k):Fr M T a b :=
  ⟨h.os,h.tape,h.output,h.size,fun k hk hs=>h.block k (Nat.lt_of_lt_of_le hk hN) (fun hh=>hs (hS k hk hh))⟩
theorem Fr.alloc {N:Nat} {S:Nat→Prop} {a w:World} (h:Fr N S a w) (hN:N≤w.heap.size) (o:Obj):Fr N S a (w.alloc o) :=
  h.trans (by
    have:=(Below.refl w.heap.size w).alloc (Nat.le_refl _) o
    exact⟨this.os,this.tape,this.output,this.size,fun k hk _=>this.block k (by omega)⟩)
theorem Fr.below {N:Nat} {S:Nat→Prop} {a w w':World} (h:Fr N S a w) (hb:Below w.heap.size w w') (hN:N≤w.heap.size):Fr N S a w' :=
  h.trans ⟨hb.os,hb.tape,hb.output,hb.size,fun k hk _=>hb.block k (by omega)⟩
theorem Fr.of_below {N:Nat} {S:Nat→Prop} {w w':World} (hb:Below N w w'):Fr N S w w':=⟨hb.os,hb.tape,hb.output,hb.size,fun k hk _=>hb.block k hk⟩
theorem Fr.setCell {N:Nat} {S:Nat→Prop} {a w:World} (h:Fr N S a w) {p:Addr} (hp:N≤p.block∨S p.block) (u:Value):Fr N S a (w.setCell p u) :=
  h.trans ⟨rfl,rfl,rfl,by simp,fun k hk hs=>Below.heap_setCell _ _ _ _ (by rintro rfl;rcases hp with h | h;omega;exact hs h)⟩
theorem Fr.toBelow {N B:Nat} {S:Nat→Prop} {a w:World} (h:Fr N S a w) (hB:B≤N) (hS:∀ k,k<B→¬ S k):Below B a w :=
  ⟨h.os,h.tape,h.output,h.size,fun k hk=>h.block k (Nat.lt_of_lt_of_le hk hB) (hS k hk)⟩
theorem Fr.cell {N:Nat} {S:Nat→Prop} {a w:World} (h:Fr N S a w) {b o:Nat} {v:Value} (hc:a.cell? ⟨b,o,none⟩=some v) (hb:b<N) (hs:¬ S b):w.cell? ⟨b,o,none⟩=some v:=by
  have:=h.block b hb hs
  simp only[World.cell?] at hc ⊢
  rw[this]
  exact hc
theorem Row.fr {k:IntKind} {w w':World} {v:Value} {l:List Int} {N:Nat} {T:Nat→Prop} (h:Row k w v l) (hf:Fr N T w w') (hs:l ≠ []→∀ b,v.ownBlock=some b→b<N∧¬ T b):Row k w' v l:=by
  obtain⟨a,cap,rfl,h2,h3,h4,h5⟩:=h
  refine⟨a,cap,rfl,h2,h3,h4,fun hne=>?_⟩
  obtain⟨b,off,rfl,hlt,hc⟩:=h5 hne
  obtain⟨s1,s2⟩:=hs hne b rfl
  exact⟨b,off,rfl,Nat.lt_of_lt_of_le hlt hf.size,fun i hi=>hf.cell (hc i hi) s1 s2⟩
theorem Fr.of_grown {w w':World} {N:Nat} {T:Nat→Prop} {row:Option Nat} (h:w.grownBy w' row) (hN:N≤w.heap.size) (hr:∀ k,row=some k→N≤k∨T k):Fr N T w w' :=
  ⟨h.os,h.tape,h.output,h.size,fun k hk hs=>h.block k (by omega) (by intro e;rcases hr k e.symm with h | h;omega;exact hs h)⟩
end Go.Proofs.YtmgeiaglandedaaGreatDoor

namespace Go.Proofs.YtmgeiaglandedaaGreatDoor
open Go.RowKit
def GRow {α : Type} (k:Nat) (R:World→List Value → α → Prop) (d : α) (w:World) (v:Value) (L:List α):Prop :=
  ∃ a cap,∃ U:Nat→List Value,v = .slice a L.length cap∧L.length≤cap∧cap≤9223372036854775807∧(∀ i,i<L.length→(U i).length=k∧R w (U i) (L.getD i d)) ∧
    (L ≠ []→∃ b off,a=some ⟨b,off,none⟩∧b<w.heap.size∧∀ i,i<L.length→∀ j u,(U i)[j]? = some u→w.cell? ⟨b,off+i*k+j,none⟩=some u)
theorem GRow.nil {α : Type} (k:Nat) (R:World→List Value → α → Prop) (d : α) (w:World):GRow k R d w (.slice none 0 0) []:=⟨none,0,fun _ => [],rfl,by simp,by omega,fun i hi=>by simp at hi,fun h=>absurd rfl h⟩
theorem add_add (a:Addr) (m n:Nat):(a.add m).add n=a.add (m+n):=by
  unfold Addr.add
  by_cases hm:m=0
  · subst hm;simp
  · by_cases hn:n=0
    · subst hn;simp
    · simp[hm,hn,Nat.add_assoc]
theorem open_grow {H:Type} {enc:TypeId×Value→H} {P:Program} {w:World} {base:Nat} {spare:Nat→Bool} {held:Bool} {α : Type} {k:Nat} {R:World→List Value → α → Prop} (d : α) {t e:TypeId} {fuel:Nat} {a:Option Addr} {len cap:Nat} {x:DataW H×List MemPlace}
    (ht:P.underlying t=some (.slice e)) (hk:P.cellsOf e=k) (hk0:0<k) (hR:∀ n cs y,DataW.trod enc P w base spare held n e cs=some y→∃ x : α,R w cs x)
    (h:DataW.trod enc P w base spare held fuel t [.slice a len cap]=some x):∃ L:List α,L.length=len∧GRow k R d w (.slice a len cap) L:=by
  rcases Deep.open_slice ht h with⟨h0,_⟩ | ⟨ad,len',cap',m,n,D,Pl,h1,hb,hl,hm,hmm,_,hel⟩
  · simp at h0
    obtain⟨rfl,rfl,rfl⟩:=h0
    exact⟨[],rfl,GRow.nil _ _ _ _⟩
  · simp at h1
    obtain⟨rfl,rfl,rfl⟩:=h1
    have hlm:len≤m:=by rw[hmm];split<;>omega
    have each:∀ i,i<len→∃ (us:List Value) (y : α),us.length=k∧R w us y∧∀ j u,us[j]? = some u→w.cell? (ad.add (i*k+j))=some u:=by
      intro i hi
      obtain⟨cs,hcs,hy⟩:=hel i (by omega)
      obtain⟨y,hy⟩:=hR _ _ _ hy
      rw[hk] at hcs
      obtain⟨c1,c2,c3⟩:=World.cells?_some hcs
      refine⟨cs,y,c2,hy,fun j u hu=>?_⟩
      obtain⟨hj,-⟩:=List.getElem?_eq_some_iff.1 hu
      have:=c3 j (by omega)
      rw[hu] at this
      rw[←this,add_add]
    have hex:∃ (U:Nat→List Value) (l:Nat → α),∀ i,i<len→(U i).length=k∧R w (U i) (l i)∧∀ j u,(U i)[j]? = some u→w.cell? (ad.add (i*k+j))=some u:=by
      refine⟨fun i=>if h:i<len then (each i h).choose else [],fun i=>if h:i<len then (each i h).choose_spec.choose else d,fun i hi=>?_⟩
      simp only[hi,dif_pos]
      exact(each i hi).choose_spec.choose_spec
    obtain⟨U,l,hU⟩:=hex
    refine⟨(List.range len).map l,by simp,some ad,cap,U,by simp,by simp;exact hl,by unfold maxLen at hm;omega,fun i hi=>?_,fun hne=>?_⟩
    · simp at hi
      refine⟨(hU i hi).1,?_⟩
      simpa[List.getD,hi] using (hU i hi).2.1
    · have hpos:0<len:=by
        have:=List.length_pos_iff.2 hne
        simpa using this
      have h0:=(hU 0 hpos).1
      have hc:=(hU 0 hpos).2.2 0 ((U 0).getD 0 (.slice none 0 0)) (by simp[List.getD,show 0<(U 0).length by omega])
      obtain⟨b,off,spot⟩:=ad
      have hspot:spot=none:=by simpa[Addr.add] using World.cell?_spot hc
      subst hspot
      refine⟨b,off,rfl,by have:=World.block_lt_of_cell? w _ hc;simpa[Addr.add] using this,fun i hi j u hu=>?_⟩
      simp at hi
      rw[←(hU i hi).2.2 j u hu,Addr_add,Nat.add_assoc]
end Go.Proofs.YtmgeiaglandedaaGreatDoor

namespace Go.Proofs.YtmgeiaglandedaaGreatDoor
open Go.RowKit
theorem laidVars_one {P:Program} {w:World} : ∀ {l:List (String×DataW Unit)} {ps:List MemPlace},DataW.LaidVars P w l ps→∀ n d,(n,d)∈l →
    ∃ g t cs fuel p,P.globalNamed n=some g∧(P.globals[g]?).map (·.type)=some t∧w.var? P n=some cs∧DataW.trod (fun _=>()) P w 0 (fun _=>true) false fuel t cs.toList=some (d,p)
  | [],_,_,_,_,hm=>by cases hm
  | (n',d')::r,ps,h,n,d,hm=>by
    obtain⟨g,t,cs,fuel,p,q,h1,h2,h3,h4,h5,_⟩:=h
    rcases List.mem_cons.1 hm with e | e
    · cases e
      exact⟨g,t,cs,fuel,p,h1,h2,h3,h4⟩
    · exact laidVars_one h5 n d e
theorem tab_of_laid {P:Program} {W:World} {l:List (String×DataW Unit)} {name:String} {k:IntKind} {zs:List Int} {g:Nat} {t e:TypeId} {n:Nat}
    (hp:(l.all fun x=>x.2.handleName?.isNone)=true) (hm:(name,Lib.tabData k zs)∈l)
    (hg:P.globalNamed name=some g) (hty:(P.globals[g]?).map (·.type)=some t) (ht:P.underlying t=some (.array n e)) (he:P.underlying e=some (.int k)) (hce:P.cellsOf e=1) (hct:P.cellsOf t=n)
    (h:laidMetH P l W):Lib.TabIs P W name k zs:=by
  rw[MakeChecks.laidMetH_plain _ _ _ hp] at h
  obtain⟨_,hv,_⟩:=h
  obtain⟨g',t',cs,fuel,p,hg',ht',hvar,hd⟩:=laidVars_one hv _ _ hm
  obtain rfl:=Option.some.inj (hg.symm.trans hg')
  obtain rfl:=Option.some.inj (hty.symm.trans ht')
  unfold Lib.TabIs
  rw[hvar,←Lib.cells_of_tab ht he hce hct hd]
theorem tab_keep {P:Program} {name:String} {k:IntKind} {zs:List Int} {w w':World} (hb:Below w.heap.size w w') (h:Lib.TabIs P w name k zs):Lib.TabIs P w' name k zs:=by
  unfold Lib.TabIs World.var? at h ⊢
  obtain⟨g,hg,hc⟩:=Option.bind_eq_some_iff.1 h
  rw[hg,Option.bind_some]
  have hlt:g<w.heap.size:=by
    rcases Nat.lt_or_ge g w.heap.size with h1 | h1
    · exact h1
    · rw[Array.getElem?_eq_none h1] at hc
      simp at hc
  rw[hb.block g hlt]
  exact hc
end Go.Proofs.YtmgeiaglandedaaGreatDoor

namespace Go.Proofs.YtmgeiaglandedaaGreatDoor
open Go.RowKit
def eqElems (d:Nat) (e:TypeId) (n:Nat) (xs ys:Array Value):List Nat→Sem Bool
  | []=>pure true
  | i::is=>do
    let a ←part e xs (i*n)
    let b ←part e ys (i*n)
    let r ←Op.equalIn d e a b
    if (!r)=true then pure false else eqElems d e n xs ys is
theorem run_equalIn_array {P:Program} (d:Nat) (t e:TypeId) (n len:Nat) (xs ys:Array Value) (ht:P.underlying t=some (.array len e)) (hs:∀ w,(sizeOf e).run P w = .ok n w) (w:World) :
    (Op.equalIn (d+1) t (.agg xs) (.agg ys)).run P w=(eqElems d e n xs ys (List.range' 0 len)).run P w:=by
  simp only[Op.equalIn,Sem.run_bind,run_underlying ht,Result.andThen_ok,hs]
  rw[Std.Legacy.Range.forIn_eq_forIn_range']
  simp only[Std.Legacy.Range.size,Nat.sub_zero,Nat.add_sub_cancel,Nat.div_one]
  generalize List.range' 0 len=is
  clear ht
  induction is generalizing w with
  | nil=>simp[eqElems]
  | cons i is ih =>
    simp only[List.forIn_cons,eqElems,Sem.run_bind,Sem.run_ite]
    generalize (part e xs (i*n)).run P w=r1
    cases r1 with
    | ok a w1 =>
      simp only[Result.andThen_ok]
      generalize (part e ys (i*n)).run P w1=r2
      cases r2 with
      | ok b w2 =>
        simp only[Result.andThen_ok]
        generalize (Op.equalIn d e a b).run P w2=r3
        cases r3 with
        | ok r w3 =>
          cases r
          · simp only[Result.andThen_ok,Bool.not_false,if_true,Sem.run_pure]
          · simp only[Result.andThen_ok,Bool.not_true,Bool.false_eq_true,if_false,Sem.run_pure]
            exact ih w3
        | halt x w3=>simp[Result.andThen]
      | halt x w2=>simp[Result.andThen]
    | halt x w1=>simp[Result.andThen]
end Go.Proofs.YtmgeiaglandedaaGreatDoor

namespace Go.Proofs.YtmgeiaglandedaaGreatDoor
open Go.RowKit
theorem trod_array {H:Type} {enc:TypeId×Value→H} {P:Program} {w:World} {base:Nat} {sp:Nat→Bool} {held:Bool} {fuel:Nat} {t e:TypeId} {n:Nat} {cs:List Value} {ds:List (DataW H)} {p:List MemPlace}
    (ht:P.underlying t=some (.array n e)) (h:DataW.trod enc P w base sp held fuel t cs=some (.agg ds,p)) :
    cs.length=P.cellsOf t∧∀ i d,ds[i]? = some d→∃ f q,DataW.trod enc P w base sp held f e ((cs.drop (i*P.cellsOf e)).take (P.cellsOf e))=some (d,q):=by
  cases fuel with
  | zero=>simp[DataW.trod] at h
  | succ fuel =>
    simp only[DataW.trod,ht] at h
    split at h
    · rename_i hl
      obtain⟨xs,hm,hx⟩:=Option.map_eq_some_iff.1 h
      have hxs:xs.map (·.1)=ds:=by
        have:=congrArg Prod.fst hx
        simpa using this
      refine⟨hl,fun i d hd=>?_⟩
      subst hxs
      rw[List.getElem?_map,Option.map_eq_some_iff] at hd
      obtain⟨x,hx1,rfl⟩:=hd
      have hxl:xs.length=n:=by simpa using Lib.mapM_length hm
      have hi:i<n:=by
        rcases Nat.lt_or_ge i xs.length with h1 | h1
        · omega
        · rw[List.getElem?_eq_none h1] at hx1
          cases hx1
      obtain⟨b,hb,hf⟩:=Lib.mapM_at hm i i (by simp[hi])
      rw[hb] at hx1
      cases hx1
      exact⟨fuel,_,hf⟩
    · cases h
theorem grid_of_laid {P:Program} {W:World} {l:List (String×DataW Unit)} {name:String} {k:IntKind} {G:Nat→Nat→List Int} {g:Nat} {t t1 t2 e:TypeId} {n m s:Nat}
    (hp:(l.all fun x=>x.2.handleName?.isNone)=true) {D:DataW Unit} (hm:(name,D)∈l) (hD:D = .agg ((List.range n).map fun i=>.agg ((List.range m).map fun j=>Lib.tabData k (G i j))))
    (hg:P.globalNamed name=some g) (hty:(P.globals[g]?).map (·.type)=some t) (ht:P.underlying t=some (.array n t1)) (ht1:P.underlying t1=some (.array m t2)) (ht2:P.underlying t2=some (.array s e)) (he:P.underlying e=some (.int k))
    (hce:P.cellsOf e=1) (hc2:P.cellsOf t2=s) (hc1:P.cellsOf t1=m*s) (h:laidMetH P l W) (i j a:Nat) (hi:i<n) (hj:j<m) (ha:a<s) (hG:(G i j).length=s) :
    W.cell? ⟨g,i*(m*s)+j*s+a,none⟩=some (.int k ((G i j).getD a 0)):=by
  subst hD
  rw[MakeChecks.laidMetH_plain _ _ _ hp] at h
  obtain⟨_,hv,_⟩:=h
  obtain⟨g',t',cs,fuel,p,hg',ht',hvar,hd⟩:=laidVars_one hv _ _ hm
  obtain rfl:=Option.some.inj (hg.symm.trans hg')
  obtain rfl:=Option.some.inj (hty.symm.trans ht')
  obtain⟨-,h1⟩:=trod_array ht hd
  obtain⟨f1,q1,h2⟩:=h1 i (.agg ((List.range m).map fun j=>Lib.tabData k (G i j))) (by simp[List.getElem?_map,List.getElem?_range hi])
  rw[hc1] at h2
  obtain⟨-,h3⟩:=trod_array ht1 h2
  obtain⟨f2,q2,h4⟩:=h3 j (Lib.tabData k (G i j)) (by simp[List.getElem?_map,List.getElem?_range hj])
  rw[hc2] at h4
  have h5:=Lib.cells_of_tab ht2 he hce hc2 h4
  have h6:(((cs.toList.drop (i*(m*s))).take (m*s)).drop (j*s)).take s=(G i j).map fun z=>Value.int k z:=h5
  have hlt:j*s+a<m*s:=by
    have:(j+1)*s≤m*s:=Nat.mul_le_mul_right _ hj
    rw[Nat.add_mul] at this
    omega
  have h7:=congrArg (·[a]?) h6
  simp only[List.getElem?_take,ha,if_true,List.getElem?_drop,hlt,List.getElem?_map] at h7
  have h8:(G i j)[a]? = some ((G i j).getD a 0):=by
    rw[List.getD_eq_getElem?_getD]
    rw[List.getElem?_eq_getElem (by omega)]
    rfl
  rw[h8] at h7
  have h9:cs[i*(m*s)+j*s+a]? = some (Value.int k ((G i j).getD a 0)):=by
    rw[Option.map_some] at h7
    rw[←Array.getElem?_toList,←h7,Nat.add_assoc]
  exact(World.var?_cell hg hvar _).trans h9
end Go.Proofs.YtmgeiaglandedaaGreatDoor

namespace Go.Proofs.YtmgeiaglandedaaGreatDoor
open Go.RowKit Go.Shelf
set_option linter.unusedVariables false
theorem grown_block {X Y:World} {row:Option Nat} {k:Nat} {o:Obj} (h:X.heap[k]? = some o) (ho:o.isCells=true) (hg:X.grownBy Y row) (hrow:∀ r,row=some r→∃ o:Obj,X.heap[r]? = some o∧o.isCells=false):Y.heap[k]? = some o :=
  (hg.block k (Array.getElem?_eq_some_iff.1 h).1 (fun e=>by obtain⟨o',ho',hc⟩:=hrow k e.symm;rw[h] at ho';cases ho';rw[ho] at hc;cases hc)).trans h
theorem own_ex {α β : Type} {I : α → β → World→Prop} (h:∀ x,Own (I x)):Own (fun s W=>∃ x,I x s W):=fun s X Y row hs hg hrow=>by
  obtain⟨x,hx⟩:=hs
  exact⟨x,h x s X Y row hx hg hrow⟩
theorem rowsIn_round {P:Program} {n l:Nat} {row:String} {args:Array Value} {w:World} {R:Value→World→Prop} (h:Rows P row args w R):RowsIn (Fence.wide.inRound l) n P row args w R:=fun c cs _=>by
  obtain⟨v,w',r,s⟩:=h c cs
  exact⟨v,w',r,stepsIn_wide.2 s⟩
theorem uponIn_round {P:Program} {n l:Nat} {o:Oper} {a:Act} {K:Act→World→Prop} {Q:Exit→Act→World→Prop} : ∀ {r:Result Next},o.upon P a K Q r→o.uponIn (Fence.wide.inRound l) n P a K Q r
  | .ok (.value v) w,h=>h
  | .ok .skip w,h=>h
  | .ok (.defer d) w,h=>h
  | .ok (.enter f args) w,h=>⟨fun e=>(by cases e),CallsIn.inRound l (callsIn_wide.2 h)⟩
  | .ok (.row row args) w,h=>⟨fun e=>(by cases e),rowsIn_round h⟩
  | .ok (.round _ _ _ _ _) w,h=>h.elim
  | .halt (.panic v) w,h=>h
  | .halt (.fatal _) w,h=>h.elim
theorem wpOpIn_round {P:Program} {n l:Nat} {ops:Array Oper} {Q:Exit→Act→World→Prop} {i:Nat} {K K':Act→World→Prop} {a:Act} {w:World} (hd:∀ (i:Nat) (o:Oper),ops[i]? = some o→∀ c,o.op≠Op.defer c) (hQ:¬ LetsOut Q) (hK:∀ a w,K a w→K' a w)
    (h:wpOp P ops Q i K a w):wpOpIn (Fence.wide.inRound l) n P ops Q i K' a w:=by
  refine wpOpIn_mono hK ?_
  unfold wpOp at h
  unfold wpOpIn
  cases ho:ops[i]? with
  | none=>simpa[ho] using h
  | some o =>
    simp only[ho] at h ⊢
    by_cases hw:Region.wanted o (yielded ops a.tmps)=true
    · rw[if_pos hw] at h ⊢
      rcases h with h | ⟨-,h⟩
      · refine⟨fun _ _=>trivial,?_⟩
        rw[Fence.inRound_round,Oper.semAt_some l _ _ (hd i o ho)]
        exact uponIn_round h
      · exact absurd h hQ
    · rw[if_neg hw] at h ⊢
      exact⟨fun _ _=>trivial,h⟩
theorem wpAnyIn_round {P:Program} {n l:Nat} {md:Region.Mode} {ops:Array Oper} {Q:Exit→Act→World→Prop} (hd:∀ (i:Nat) (o:Oper),ops[i]? = some o→∀ c,o.op≠Op.defer c) (hQ:¬ LetsOut Q):∀ (fuel:Nat) (listed:Array Bool) (a:Act) (w:World),
    wpAny P md ops Q fuel listed a w→wpAnyIn (Fence.wide.inRound l) n P md ops Q fuel listed a w
  | 0,_,_,_,h=>h
  | fuel+1,listed,a,w,h=>⟨h.1,fun i hi=>wpOpIn_round hd hQ (fun a w=>wpAnyIn_round hd hQ fuel _ a w) (h.2 i hi)⟩
theorem wpIn_round_held {P:Program} {n l id:Nat} {ops:Array Oper} {Q:Exit→Act→World→Prop} {S:World→Prop} {a:Act} {w:World} (hm:P.follows .mixedOrders=true) (hd:∀ (i:Nat) (o:Oper),ops[i]? = some o→∀ c,o.op≠Op.defer c) (hQ:¬ LetsOut Q) (hS:S w.drew)
    (h:S w.drew→wpAnyH P .any ops Q S ops.size (Array.replicate ops.size false) a w.drew):(Code.region id ops true).wpIn (Fence.wide.inRound l) n P Q a w :=
  wpIn_region_any hm (wpAnyIn_round hd hQ _ _ _ _ (wpAny_of_held _ _ _ _ (h hS)))
def noDefer (ops:Array Oper):Bool:=ops.all fun o=>match o.op with | .defer _=>false | _=>true
theorem noDefer_ok {ops:Array Oper} (h:noDefer ops=true):∀ (i:Nat) (o:Oper),ops[i]? = some o→∀ c,o.op≠Op.defer c:=by
  intro i o ho c e
  unfold noDefer at h
  rw[Array.all_eq_true'] at h
  have h1:=h o (Array.mem_of_getElem? ho)
  rw[e] at h1
  cases h1
end Go.Proofs.YtmgeiaglandedaaGreatDoor

namespace Go.Proofs.YtmgeiaglandedaaGreatDoor
open Go.RowKit Go.Shelf
set_option linter.unusedVariables false
def SeqM {α : Type} (F:Fence) (n:Nat) (P:Program) (g:Nat) (lb:Array Value) (encs : α → Array Value) (Kp St:World→World→Prop) (S Sp:List α → Prop) (N:Nat) (w:World):Prop :=
  ∀ (l:Nat) (J Jx:List α → World→Prop) (W:World),Below w.heap.size w W→(∀ s A B,J s A→St A B→J s B)→(∀ s A B,Jx s A→St A B→Jx s B) →
    (∀ pre x W1,J pre W1→pre.length<N→YieldAt F (n-1) P l (encs x) W1 fun e W' =>
      (e = .returned (.bool true)∧J (pre ++ [x]) W'∧Kp W1 W')∨(e = .returned (.bool false)∧Jx (pre ++ [x]) W')) →
    J [] W →
    CallsIn F n P g (#[.func (.yield l) #[] #[]]++lb) W fun e W'=>(∃ v,e = .returned v)∧((∃ xs,S xs∧J xs W')∨(∃ pre,Sp pre∧Jx pre W'))
structure Bk (w:World) (r:Loop) (W:World):Prop where
  l:W.heap[w.heap.size+1]? = some (.loop r)
  d:W.heap[w.heap.size]? = some (.deferred (some []))
theorem Bk.lt {w W:World} {r:Loop} (h:Bk w r W):w.heap.size+1<W.heap.size:=(Array.getElem?_eq_some_iff.1 h.l).1
theorem Bk.st {w W W':World} {r:Loop} {St:World→World→Prop} (hSt:∀ A B k o,St A B→w.heap.size≤k→A.heap[k]? = some o→B.heap[k]? = some o) (h:Bk w r W) (hs:St W W'):Bk w r W' :=
  ⟨hSt _ _ _ _ hs (by omega) h.l,hSt _ _ _ _ hs (Nat.le_refl _) h.d⟩
theorem Bk.from {w W W':World} {r:Loop} (h:Bk w r W) (hk:KeepsFrom w.heap.size W W'):Bk w r W':=⟨hk.same _ _ (by omega) h.l rfl,hk.same _ _ (Nat.le_refl _) h.d rfl⟩
theorem Bk.put {w W:World} {r:Loop} (h:Bk w r W) (r':Loop):Bk w r' (W.putObj (w.heap.size+1) (.loop r')) :=
  ⟨World.putObj_heap_same h.lt,(World.putObj_heap_other (by omega)).trans h.d⟩
def postM {α : Type} (B:Nat) (Kp:World→World→Prop) (I:List α → World→Prop) (Ix:Code→List α → World→Prop) (xs:List α) (W:World):Exit→Act→World→Prop
  | .normal,_,W'=>KeepsFrom B W W'∧Kp W W'∧I xs W'
  | .ret,_,W'=>KeepsFrom B W W'∧Ix .ret xs W'
  | .exit id,_,W'=>KeepsFrom B W W'∧Ix (.exit id) xs W'
  | .goto _,_,_=>False
  | .panic _,_,_=>False
  | .outgrown,_,_=>False
theorem wpIn_range_mem {α : Type} {F:Fence} {n:Nat} {P:Program} {g:Operand} {ps:Array Tmp} {assign body:Code} {Q:Exit→Act→World→Prop} {a:Act} {w:World}
    (hro:F.round=none) (h1:1≤n) {gf:Nat} {lb:Array Value} (hg:a.eval g = .func (.func gf) #[] lb) (hFg:F.fn gf) (eg:∀ args w,(callFunc gf args).run P w = .ok (.enter gf args) w)
    {encs : α → Array Value} {Kp St:World→World→Prop} {S Sp:List α → Prop} {N:Nat} {w0:World} (hseq:SeqM F (n-1) P gf lb encs Kp St S Sp N w0)
    (hSt:∀ A B k o,St A B→w.heap.size≤k→A.heap[k]? = some o→B.heap[k]? = some o)
    (hKt:∀ {A B C:World},Kp A B→Kp B C→Kp A C) (hKb:∀ (W:World) (l:Nat) (o o':Obj),w.heap.size≤l→W.heap[l]? = some o→o.isCells=false→o.isWalk=false→Kp W (W.putObj l o'))
    (hb0:Below w0.heap.size w0 w) (hps:∀ x,(encs x).size=ps.size)
    (I:List α → World→Prop) (Ix:Code→List α → World→Prop) (hI:OwnFrom w.heap.size I) (hIx:∀ c,OwnFrom w.heap.size (Ix c)) (hIS:∀ s A B,I s A→St A B→I s B) (hIxS:∀ c s A B,Ix c s A→St A B→Ix c s B) (h0:I [] w) (a₁ : α → Act)
    (hassign:∀ (l:Nat) (x : α) (W:World) (K:Act→World→Prop),K (a₁ x) W →
      assign.wpIn (F.inRound l) (n-1-1) P (Exit.then K (fun _ _ _=>False)) { tmps:=(ps.zip (encs x)).foldl (fun t (p,v)=>t.setIfInBounds p v) a.tmps,defers := [] } W)
    (hbody:∀ (l:Nat) (pre:List α) (x : α) (W:World),I pre W→pre.length<N→body.wpIn (F.inRound l) (n-1-1) P (postM w.heap.size Kp I Ix (pre ++ [x]) W) (a₁ x) W)
    (hdone:∀ (D:Nat) (xs:List α) (W:World),w.heap.size≤D→S xs→I xs W→W.heap[D]? = some (.deferred (some []))→Q .normal { a with defers := { target:=.collected D,args := #[] } :: a.defers } W)
    (hstop:∀ (D:Nat) (c:Code) (pre:List α) (W:World),w.heap.size≤D→Sp pre→Ix c pre W→W.heap[D]? = some (.deferred (some []))→c.wpIn F n P Q { a with defers := { target:=.collected D,args := #[] } :: a.defers } W) :
    (Code.rangeFunc g ps assign body).wpIn F n P Q a w:=by
  refine wpIn_rangeFunc fun fn hfn=>?_
  rw[hro]
  let R:LoopState→Option Code→Loop:=fun st pe => { state:=st,pending:=pe,fn,tmps:=a.tmps,params:=ps,assign,body,defers:=w.heap.size }
  have e1:(w.alloc (.deferred (some []))).heap.size=w.heap.size+1:=World.size_alloc _ _
  have B1:Bk w (R .ready none) ((w.alloc (.deferred (some []))).alloc (.loop (R .ready none))):=by
    refine⟨?_,(Below.heap_alloc _ _ _ (by omega)).trans (World.alloc_heap_new w _)⟩
    have:=World.alloc_heap_new (w.alloc (.deferred (some []))) (.loop (R .ready none))
    rwa [e1] at this
  have I1:I [] ((w.alloc (.deferred (some []))).alloc (.loop (R .ready none))):=hI.alloc _ (hI.alloc _ h0)
  have b1:Below w0.heap.size w0 ((w.alloc (.deferred (some []))).alloc (.loop (R .ready none))) :=
    hb0.trans ((((Below.refl _ w).alloc (Nat.le_refl _) _).alloc (by omega) _).mono hb0.size)
  refine⟨w.heap.size+1,[{ target:=.collected w.heap.size,args := #[] }],(w.alloc (.deferred (some []))).alloc (.loop (R .ready none)),{ target:=.fn (.func gf) lb,args := #[.func (.yield (w.heap.size+1)) #[] #[]] },(w.alloc (.deferred (some []))).alloc (.loop (R .ready none)),gf,
    #[.func (.yield (w.heap.size+1)) #[] #[]]++lb,(w.alloc (.deferred (some []))).alloc (.loop (R .ready none)),run_enterLoop_outer _ _ _ _ _,?_,?_,?_,fun _=>h1,?_⟩
  · simp only[resolve,hg]
    simp[go_sem]
  · intro f' hf'
    simp[Target.leads] at hf'
    subst hf'
    exact hFg
  · simp[invoke,go_sem,eg]
  have key:∀ {s:List α} {W:World} {r r':Loop} {X:List α → World→Prop},OwnFrom w.heap.size X→X s W→Bk w r W→X s (W.putObj (w.heap.size+1) (.loop r')):=fun hX hs hB=>hX.putObj _ hs (by omega) hB.l rfl
  refine(hseq (w.heap.size+1) (fun pre W=>I pre W∧Bk w (R .ready none) W) (fun pre W=>∃ c,Ix c pre W∧Bk w (R .done (some c)) W) _ b1
    (fun s A B hs st=>⟨hIS s A B hs.1 st,hs.2.st hSt st⟩) (fun s A B hs st=>by obtain⟨c,q1,q2⟩:=hs;exact⟨c,hIxS c s A B q1 st,q2.st hSt st⟩) ?_ ⟨I1,B1⟩).mono ?_
  · rintro pre x W ⟨hi,hB⟩ hlen
    have hy:=run_yield (P:=P) (args:=encs x) hB.l (hps x)
    refine⟨fn,_,assign,body,hy,roundIn_of_wpIn hfn (hassign _ x W _ ⟨_,run_beginRound hB.l rfl,?_⟩)⟩
    have B2:=hB.put { R .ready none with state:=.busy }
    have k2:Kp W (W.putObj (w.heap.size+1) (.loop { R .ready none with state:=.busy })):=hKb _ _ _ _ (by omega) hB.l rfl rfl
    refine wpIn_mono (hbody _ pre x _ (key hI hi hB) hlen) ?_
    rintro e a3 W3 hp
    cases e with
    | normal =>
      obtain⟨q1,q2,q3⟩:=hp
      have B3:=B2.from q1
      exact⟨_,_,run_endRound none B3.l,.inl ⟨rfl,⟨key hI q3 B3,B3.put _⟩,hKt (hKt k2 q2) (hKb _ _ _ _ (by omega) B3.l rfl rfl)⟩⟩
    | ret =>
      obtain⟨q1,q3⟩:=hp
      have B3:=B2.from q1
      exact⟨_,_,run_endRound (some .ret) B3.l,.inr ⟨rfl,.ret,key (hIx _) q3 B3,B3.put _⟩⟩
    | exit id =>
      obtain⟨q1,q3⟩:=hp
      have B3:=B2.from q1
      exact⟨_,_,run_endRound (some (.exit id)) B3.l,.inr ⟨rfl,.exit id,key (hIx _) q3 B3,B3.put _⟩⟩
    | goto t=>exact hp.elim
    | panic ch=>exact hp.elim
    | outgrown=>exact hp.elim
  · rintro e W2 ⟨⟨v,rfl⟩,(⟨xs,hS,hi,hB⟩ | ⟨pre,hSp,c,hi,hB⟩)⟩
    · exact⟨none,_,run_endLoop (P:=P) hB.l (by simp[R]),hdone _ xs _ (Nat.le_refl _) hS (key hI hi hB) (hB.put _).d⟩
    · exact⟨some c,_,run_endLoop (P:=P) hB.l (by simp[R]),hstop _ c pre _ (Nat.le_refl _) hSp (key (hIx c) hi hB) (hB.put _).d⟩
end Go.Proofs.YtmgeiaglandedaaGreatDoor

namespace Go.Proofs.YtmgeiaglandedaaGreatDoor
open Go.RowKit
def KM (Φ : World→Prop):Type := { x:World // Φ x }
def KM.w {Φ : World→Prop} (k:KM Φ):World:=k.1
theorem KM.ok {Φ : World→Prop} (k:KM Φ) : Φ k.w:=k.2
def KM.mk' {Φ : World→Prop} {w:World} (h : Φ w):KM Φ := ⟨w,h⟩
theorem wp_region_km {Φ : World→Prop} {P:Program} {id:Nat} {Q:Exit→Act→World→Prop} {a:Act} {w:World} {l:List Oper} (hm:P.follows .mixedOrders=true) (hB:Region.lexB .any l.toArray=true) (h0 : Φ w.drew)
    (h:Nonempty (KM Φ)→wpQuiet P l.toArray (fun w'=>∃ k:KM Φ,w'=k.w) (fun a'=>∀ w',(∃ k:KM Φ,w'=k.w)→Q .normal a' w') l a):(Code.region id l.toArray true).wp P Q a w :=
  wp_region_quiet (C:=fun w'=>∃ k:KM Φ,w'=k.w) hm hB ⟨KM.mk' h0,rfl⟩ (by simpa using h ⟨KM.mk' h0⟩)
theorem Calls.km_of {Φ : World→Prop} {P:Program} {f:FuncId} {args:Array Value} {k:KM Φ} {v:Value}
    (h:Calls P f args k.w fun e w'=>e = .returned v ∧ Φ w'):Calls P f args k.w fun e w''=>e = .returned v∧∃ k':KM Φ,w''=k'.w :=
  h.mono fun _ _ ⟨he,hm⟩=>⟨he,KM.mk' hm,rfl⟩
end Go.Proofs.YtmgeiaglandedaaGreatDoor

namespace Go.Proofs.YtmgeiaglandedaaGreatDoor
variable {H:Type} {enc:TypeId×Value→H}
theorem wrap_listed_shaped {a:Assume} {C:Checked} {os:Os} {f:FuncId} {fn:Func} {s:ChangeSpec} {conds:List PathCond} {apart fresh handsOn again:Bool} {X:World→Array Value→Prop}
    (hX:∀ (w w':World) (args:Array Value),w.heap=w'.heap→X w args→X w' args)
    (own:ownKnob C.prog.godebug=none) (started:os.Started) (noInit:C.prog.inits.idxOf? f=none) (hfn:C.prog.funcs[f]? = some fn)
    (witness:∃ (w:World) (tape:Tape) (i:Input),w.os=os∧(w.forCall tape i).Shaped C.prog∧i.vars = []∧Input.okWide C.prog (w.forCall tape i) .any w.heap.size f i ∧
      ((s.pre enc C.prog fn conds apart (w.forCall tape i).memory i.args∧X (w.forCall tape i).memory i.args)∧sizedMet enc C.prog fn (OpenSpec.ofChange s) apart (w.forCall tape i).memory i.args)∧a.holds C.prog (lone (Frame.enter C.prog f i.args .normal) [] (w.forCall tape i)))
    (contract:∀ (W:World) (base:Nat) (args:Array Value) (ds gs:List (DataW H)) (before:List MemPlace),
      (∀ (j:Nat) t v,fn.params[j]? = some t→args[j]? = some v→Value.okWide C.prog W .any base t v) →
      DataW.Whole enc C.prog fn.params.toList s.vars apart W args.toList ds gs before →
      conds.all (PathCond.test C.prog ⟨fn.params.toList,ds,s.plain.varTypes C.prog,gs⟩)=true →
      (DataW.weightsEach C.prog (fn.params.toList++s.plain.varTypes C.prog) (ds++gs)).all (·≤reachBytes)=true →
      W.ShapedOpen C.prog→X W args →
      a.holds C.prog (lone (Frame.enter C.prog f args .normal) [] W) →
      Calls C.prog f args W fun e W'=>∃ v,e = .returned v∧s.post enc C.prog fn apart fresh handsOn again W args v W') :
    ReturnsInHanded a C os f .any (fun w args=>(s.pre enc C.prog fn conds apart w args∧X w args)∧sizedMet enc C.prog fn (OpenSpec.ofChange s) apart w args) (s.post enc C.prog fn apart fresh handsOn again):=by
  refine returnsInHanded_of_calls own started noInit witness ?_
  intro w tape i _ hsh _ hok hpre hholds
  obtain⟨_,_,_,fn',hfn',_,_,_,_,hval⟩:=hok
  have e:fn'=fn:=Option.some.inj (hfn'.symm.trans hfn)
  subst e
  obtain⟨⟨⟨ds,gs,before,hw,hc⟩,hx⟩,hz⟩:=hpre
  have hw':=DataW.Whole.of_heap (w':=w.forCall tape i) (by rfl) hw
  refine(contract (w.forCall tape i) w.heap.size i.args ds gs before hval hw' hc (hz.weights hw) hsh (hX _ _ _ (by rfl) hx) hholds).mono fun e W' ⟨v,he,hp⟩=>?_
  subst he
  exact ChangeSpec.post_blind hp
end Go.Proofs.YtmgeiaglandedaaGreatDoor
