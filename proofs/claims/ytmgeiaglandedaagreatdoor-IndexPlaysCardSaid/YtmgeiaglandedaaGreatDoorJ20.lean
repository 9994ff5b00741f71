/- Plain mathematics of rings: links that go round through a list of entries; what becomes of them. Plain mathematics of entries in a ring: their heads' bytes, the root's words, what a store does to them. Entries in a memory of slabs: what is loaded and stored, the words of the root. -/
import Derived.Test.YtmgeiaglandedaaGreatDoorJ0
import Derived.Test.YtmgeiaglandedaaGreatDoorJ19
import Derived.Test.YtmgeiaglandedaaGreatDoorJ16
namespace Go.Proofs.YtmgeiaglandedaaGreatDoor.Rin
set_option linter.unusedVariables false
end Go.Proofs.YtmgeiaglandedaaGreatDoor.Rin

namespace Go.Proofs.YtmgeiaglandedaaGreatDoor.Rin
open Go.RowKit Num
open Mem (Mm MemC MRet Hm rd blkM)
open Sla (Sl St Lv pl aT pV)
open Cls (szC blC pdC)
open Arn (wrL)
set_option linter.unusedVariables false
section
end
end Go.Proofs.YtmgeiaglandedaaGreatDoor.Rin

namespace Go.Proofs.YtmgeiaglandedaaGreatDoor.Rin
open Go.RowKit Num
open Mem (Mm MemC MRet Hm rd blkM)
open Lis (Cf LM LR Tb at_ Nx Pv Rep Hx valsN)
open Sla (Sl St Sx SM SR SlabOk Out Lv pl aT pV ok_base bl_in bl_apart mem_lt Tk)
open Cls (szC blC pdC)
open Arn (wrL is64)
set_option linter.unusedVariables false
section
variable {h:Hm} {S N:Nat} {l0 l l':List Int} {T T':List Sl} {w w' W W':World}
theorem st_self (d:St h S N l0 l T W):St h S N l l T W:=by
  obtain⟨H,L,⟨C,h1,h2,h3,h4,h5⟩,d2⟩:=d
  exact⟨H,L,⟨C,h1,h2,h3,h4,⟨h5.ok,h5.rep,h5.xl,h5.ll,h5.tl,fun _ _ _=>rfl,h5.xlow,h5.sl⟩⟩,d2⟩
theorem st_len (d:St h S N l0 l T W):l.length=Lay.sizeT S N∧l.length≤100000∧240≤l.length:=by
  obtain⟨H,L,⟨C,rfl,rfl,h3,h4,h5⟩,d2⟩:=d
  have hb:=ok_base h5.ok
  have:=h5.ok.lo
  have:=h5.ll
  omega
theorem st_bytes (d:St h S N l0 l T W):Arn.IsBytes l:=by
  obtain⟨H,L,⟨C,rfl,rfl,h3,h4,h5⟩,d2⟩:=d
  exact h4.m.bytes
theorem lv_at (d:St h S N l0 l T W) {x:Nat} (hx:Lv S N T x):128≤x∧x % 16=0∧x+32≤Lay.sizeT S N∧Lay.sizeT S N≤100000:=by
  obtain⟨H,L,⟨C,rfl,rfl,h3,h4,h5⟩,d2⟩:=d
  obtain⟨j,k,hj,hk,rfl⟩:=hx
  have hb:=ok_base h5.ok
  have hin:=bl_in (mem_lt hk).1
  have hm:=Sla.mul_mod ((T.getD j Sl.zero).c:Int) k
  unfold pl aT
  omega
theorem SlabOk.inside {x:List Int} {A:Nat} {s:Sl} (d:SlabOk l x A s) {k:Nat} (hk:k∈s.v) (hs:∀ t,¬ (pl A s.c k≤t∧t<pl A s.c k+szC s.c)→l'.getD t 0=l.getD t 0):SlabOk l' x A s:=by
  obtain⟨h1,h2⟩:=mem_lt hk
  have hin:=bl_in h1
  refine⟨d.ok,d.k,d.f.same (fun j hj i hi=>hs _ ?_),fun t q1 q2=>?_⟩
  · have e:j≠k:=by rintro rfl;exact h2 hj
    rcases Nat.lt_or_gt_of_ne e with q | q
    · have:=bl_apart s.c q
      unfold pl;omega
    · have:=bl_apart s.c q
      unfold pl;omega
  · have hn:¬ (pl A s.c k≤t∧t<pl A s.c k+szC s.c):=by unfold pl;omega
    rw[hs t hn]
    exact d.p t q1 q2
theorem Sx.inside {C:Cf} {H:List Hx} {L:List Int} (h5:Sx l0 C l H L T) {j k:Nat} (hj:j<C.s) (hk:k∈(T.getD j Sl.zero).v) (hl:l'.length=l.length)
    (hs:∀ t,¬ (pl (aT C.s C.n j) (T.getD j Sl.zero).c k≤t∧t<pl (aT C.s C.n j) (T.getD j Sl.zero).c k+szC (T.getD j Sl.zero).c)→l'.getD t 0=l.getD t 0):Sx l0 C l' H L T:=by
  have hin:=bl_in (mem_lt hk).1
  have ho:Out (aT C.s C.n j) 1024 l l' C.x C.x:=⟨hl,rfl,fun t ht=>hs t (by unfold pl;omega),fun _ _=>rfl⟩
  have hx:=h5.slab hj ho (SlabOk.inside (h5.sl j hj) hk hs)
  rw[Sla.set_self T j (by rw[h5.tl];exact hj)] at hx
  exact hx
theorem room_live {C:Cf} {H:List Hx} {L:List Int} (h5:Sx l0 C l H L T) {j k:Nat} (hj:j<C.s) (hk:k∈(T.getD j Sl.zero).v) (l':List Int) (lk:Int):Hea.Room (C.mm l' lk) (pl (aT C.s C.n j) (T.getD j Sl.zero).c k) 1:=by
  have hb:=ok_base h5.ok
  obtain⟨h1,h2⟩:=mem_lt hk
  have hin:=bl_in h1
  have hm:=Sla.mul_mod ((T.getD j Sl.zero).c:Int) k
  refine⟨by omega,by unfold pl aT;omega,?_,fun i hi=>?_⟩
  · show _+32≤C.x.length
    rw[h5.xl]
    unfold pl aT
    omega
  · have hi32:i<32:=hi
    have:=(h5.sl j hj).k k h1 i (by omega)
    rw[if_neg h2] at this
    exact this
theorem st_config (d:St h S N l0 l T W):Calls Tryz.prog 147 #[pV h] W fun e W'=>e = .returned (.agg #[.int .i64 (S:Int),.int .i64 (N:Int)])∧Below W.heap.size W W':=by
  obtain⟨H,L,d1,d2⟩:=d
  exact d1.config
def kA (S N:Nat) (T:List Sl) (t:Nat):Int :=
  if t<Lay.baseT S N then Mem.kindT S N t else
    let s:=T.getD ((t-Lay.baseT S N) / 1024) Sl.zero
    let o:=(t-Lay.baseT S N) % 1024
    if o<blC s.c*szC s.c then (if o / szC s.c∈s.f then 6 else 5) else if s.c=0 then 7 else 8
def kX (S N:Nat) (T:List Sl):List Int:=(List.range (Lay.sizeT S N)).map (kA S N T)
theorem sx_x {C:Cf} {H:List Hx} {L:List Int} (h5:Sx l0 C l H L T):C.x=kX C.s C.n T:=by
  have hb:=ok_base h5.ok
  refine Mem.list_of_getD (by rw[h5.xl];simp[kX]) (fun t ht=>?_)
  rw[h5.xl] at ht
  have e:(kX C.s C.n T).getD t 0=kA C.s C.n T t:=by simp[kX,List.getD,ht]
  rw[e]
  unfold kA
  by_cases h1:t<Lay.baseT C.s C.n
  · rw[if_pos h1]
    exact h5.xlow t h1
  · rw [if_neg h1]
    obtain⟨j,hj⟩:∃ j,(t-Lay.baseT C.s C.n) / 1024=j:=⟨_,rfl⟩
    obtain⟨o,ho⟩:∃ o,(t-Lay.baseT C.s C.n) % 1024=o:=⟨_,rfl⟩
    have hjs:j<C.s:=by omega
    have hto:t=aT C.s C.n j+o:=by unfold aT;omega
    have ho2:o<1024:=by omega
    simp only
    rw[hj,ho]
    have hs:=h5.sl j hjs
    by_cases h2:o<blC (T.getD j Sl.zero).c*szC (T.getD j Sl.zero).c
    · rw[if_pos h2]
      have hz:0<szC ((T.getD j Sl.zero).c:Int):=by
        rcases Nat.eq_zero_or_pos (szC ((T.getD j Sl.zero).c:Int)) with q | q
        · rw[q] at h2;omega
        · exact q
      have hk:o / szC ((T.getD j Sl.zero).c:Int)<blC (T.getD j Sl.zero).c:=(Nat.div_lt_iff_lt_mul hz).2 h2
      have:=hs.k _ hk (o % szC ((T.getD j Sl.zero).c:Int)) (Nat.mod_lt _ hz)
      have e2:pl (aT C.s C.n j) (T.getD j Sl.zero).c (o / szC ((T.getD j Sl.zero).c:Int))+o % szC ((T.getD j Sl.zero).c:Int)=t:=by
        have:=Nat.div_add_mod o (szC ((T.getD j Sl.zero).c:Int))
        rw[Nat.mul_comm] at this
        unfold pl
        omega
      rw[e2] at this
      exact this
    · rw[if_neg h2]
      have:=(hs.p t (by omega) (by omega)).1
      exact this
theorem st_kind (d:St h S N l0 l T W) (a n:Int) (ha:is64 a) :
    Calls Tryz.prog 35 #[pV h,.int .i64 a,.int .i64 n] W fun e W'=>e = .returned (.int .i64 (Wat.kndA (kX S N T) a n))∧Below W.heap.size W W':=by
  obtain⟨H,L,⟨C,rfl,rfl,h3,h4,h5⟩,d2⟩:=d
  obtain⟨ht,lk,hm⟩:=id h4.m
  have:=Mem.kind_any h _ (C.mm l lk) a n W hm ha
  rw[show (C.mm l lk).x=C.x from rfl,sx_x h5] at this
  exact this
end
end Go.Proofs.YtmgeiaglandedaaGreatDoor.Rin
