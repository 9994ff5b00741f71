/- Contracts of layout's landed functions: most, nearest, Right, and the closure that places the parts. The closure that places the parts of an arena, and place. The contract of the landed parts. Contracts of layout's landed functions: what they read of the parts. The contract of the landed Runs; all of layout. -/
import Derived.Test.YtmgeiaglandedaaGreatDoorJ8
import Derived.Test.YtmgeiaglandedaaGreatDoorJ12
import Derived.Test.YtmgeiaglandedaaGreatDoorJ0
import Derived.Deep.MidRow
import Derived.Lib.QuoteBits
namespace Go.Proofs.YtmgeiaglandedaaGreatDoor.Lay
open Go.RowKit
set_option linter.unusedVariables false
theorem cmost_any (k:Int) (w:World) (ht:Cls.Tab w) (h1 : -1000000≤k) (h2:k≤1000000):Calls Tryz.prog 229 #[.int .i64 k] w fun e w'=>e = .returned (.int .i64 (k*32))∧w=w':=by
  have HB:=Lib.hid ((show Cls.blC 1=32 by decide) ▸ Cls.blocks_any 1 w ht)
  clear ht
  have hw:IntKind.i64.wrap (k*32)=k*32:=wrap_id (by omega) (by omega)
  go_enter Tryz.func229,Tryz.ntmps229
  go_wp2_with (go_at_call 111;refine HB.out.mono ?_;rintro e w1 ⟨rfl,rfl⟩)
  go_ret
  exact⟨rfl,rfl⟩
def nearS (s:Int):Int:=if s<7 then 7 else if 64<s then 64 else s
def nearM (s n:Int):Int:=if n<nearS s*32 then nearS s*32 else if 8192<n then 8192 else n
def nearN (s n:Int):Int:=((nearM s n).toNat / 2*2:Nat)
theorem nearS_bd (s:Int):7≤nearS s∧nearS s≤64:=by
  unfold nearS
  repeat' split
  all_goals omega
theorem nearM_bd (s n:Int):224≤nearM s n∧nearM s n≤8192:=by
  have:=nearS_bd s
  unfold nearM
  repeat' split
  all_goals omega
theorem near_right (s n:Int):(decide (s=nearS s) && decide (n=nearN s n))=rightC s n:=by
  have h1:=nearS_bd s
  have h2:=nearM_bd s n
  rw[Bool.eq_iff_iff]
  unfold rightC
  simp only[Bool.and_eq_true,decide_eq_true_eq]
  have hN:nearN s n=nearM s n / 2*2:=by unfold nearN;omega
  constructor
  · rintro ⟨e1,e2⟩
    rw[←e1] at h1
    rw[hN] at e2
    have e3:n<nearS s*32∨8192<n∨(nearM s n=n∧nearS s*32≤n):=by
      unfold nearM
      repeat' split
      all_goals omega
    have e4:n<nearS s*32→nearM s n=nearS s*32:=fun h=>by rw[nearM,if_pos h]
    refine⟨h1.1,h1.2,?_⟩
    omega
  · rintro ⟨a1,a2,a3,a4,a5⟩
    have e1:nearS s=s:=by rw[nearS,if_neg (by omega),if_neg (by omega)]
    have e2:nearM s n=n:=by rw[nearM,e1,if_neg (by omega),if_neg (by omega)]
    rw[hN,e1,e2]
    omega
theorem near_bits (n K:Int) (h1:224≤K) (h2:K≤8192):bits .andNot .i64 (if 8192<if n<K then K else n then 8192 else if n<K then K else n) 1=(((if n<K then K else if 8192<n then 8192 else n).toNat / 2*2:Nat):Int):=by
  have e:(if 8192<if n<K then K else n then 8192 else if n<K then K else n)=(((if n<K then K else if 8192<n then 8192 else n).toNat:Nat):Int):=by
    repeat' split
    all_goals omega
  rw[e]
  exact Lib.andNot_one _ (by repeat' split
                             all_goals omega)
set_option maxRecDepth 100000 in
set_option maxHeartbeats 2000000 in
theorem near_one (s n S:Int) (w:World) (ht:Cls.Tab w) (hS1:7≤S) (hS2:S≤64)
    (hs:(s<7∧S=7)∨(¬ s<7∧64<s∧S=64)∨(¬ s<7∧¬ 64<s∧s=S)) :
    Calls Tryz.prog 174 #[.agg #[.int .i64 s,.int .i64 n]] w fun e w'=>e = .returned (.agg #[.int .i64 S,.int .i64 (((if n<S*32 then S*32 else if 8192<n then 8192 else n).toNat / 2*2:Nat):Int)])∧Below w.heap.size w w':=by
  have hm2:=fun u (hu:Cls.Tab u)=>cmost_any S u hu (by omega) (by omega)
  obtain⟨K,hK⟩:∃ K,K=S*32:=⟨_,rfl⟩
  rw[←hK] at hm2 ⊢
  have HM:=Lib.hid hm2
  have HX:=Lib.hid (near_bits n K (by omega) (by omega))
  obtain⟨q,hq⟩:∃ q,q=(if n<K then K else if 8192<n then 8192 else n).toNat / 2*2:=⟨_,rfl⟩
  rw[←hq] at HX ⊢
  have hsz:=size_alloc w (.cells #[.int .i64 s,.int .i64 n] 81)
  have hb0:Below w.heap.size w ((w.alloc (.cells #[.int .i64 s,.int .i64 n] 81)).alloc (.cells #[.int .i64 0,.int .i64 0] 81)):=((Below.refl _ w).alloc (Nat.le_refl _) _).alloc (by omega) _
  have ht1:Hid (Cls.Tab ((w.alloc (.cells #[.int .i64 s,.int .i64 n] 81)).alloc (.cells #[.int .i64 0,.int .i64 0] 81))):=tab_keep hb0 ht
  have ht2:Hid (Cls.Tab ((w.alloc (.cells #[.int .i64 s,.int .i64 n] 81)).alloc (.cells #[.int .i64 0,.int .i64 0] 81)).drew):=tab_keep hb0.drew ht
  have e1:(((w.alloc (.cells #[.int .i64 s,.int .i64 n] 81)).alloc (.cells #[.int .i64 S,.int .i64 (q:Int)] 81)).drew).heap[w.heap.size+1]? = some (.cells #[.int .i64 S,.int .i64 (q:Int)] 81 (0,0)):=by
    have:=heap_alloc_new (w.alloc (.cells #[.int .i64 s,.int .i64 n] 81)) (.cells #[.int .i64 S,.int .i64 (q:Int)] 81)
    rw[hsz] at this
    exact this
  have hb1:Hid (Below w.heap.size w (((w.alloc (.cells #[.int .i64 s,.int .i64 n] 81)).alloc (.cells #[.int .i64 S,.int .i64 (q:Int)] 81)).drew)):=(((Below.refl _ w).alloc (Nat.le_refl _) _).alloc (by omega) _).drew
  have d0:=Lib.hid ((cell_block e1 0).trans (show _=some (Value.int .i64 S) from rfl))
  have d1:=Lib.hid ((cell_block e1 1).trans (show _=some (Value.int .i64 (q:Int)) from rfl))
  have c2:((w.alloc (.cells #[.int .i64 s,.int .i64 n] 81)).alloc (.cells #[.int .i64 0,.int .i64 0] 81)).cell? ⟨w.heap.size,1,none⟩=some (.int .i64 n) :=
    (cell_block ((Below.heap_alloc _ _ _ (by omega)).trans (heap_alloc_new _ _)) 1).trans rfl
  clear hm2 hK hq e1 hb0 ht hS1 hS2
  rcases hs with⟨h1,rfl⟩ | ⟨h1,h2,rfl⟩ | ⟨h1,h2,rfl⟩
  all_goals
    go_enter Tryz.func174,Tryz.ntmps174
    go_wp2_with fail
    go_region_held3 (fun w'=>w'.cell? ⟨w.heap.size,1,none⟩=some (.int .i64 n)) (first | exact c2 | go_keep) ((go_at_call 229;refine(HM.out _ (by first | exact ht1.out | exact ht2.out)).mono ?_;rintro e w1 ⟨rfl,rfl⟩))
    have hX:=HX.out
    try rw[hX]
    generalize ((w.alloc (.cells #[.int .i64 s,.int .i64 n] 81)).alloc (.cells #[_,.int .i64 (q:Int)] 81)).drew=W at hb1 d0 d1 ⊢
    have q0:=d0.out
    have q1:=d1.out
    clear hX HX ht1 ht2
    go_wp2
    all_goals refine bodyPost_ret (v:=.agg #[_,.int .i64 (q:Int)]) (by simp[results,Tryz.results174,go_sem,q0,q1]) rfl ⟨rfl,hb1.out⟩
theorem near_any (s n:Int) (w:World) (ht:Cls.Tab w):Calls Tryz.prog 174 #[.agg #[.int .i64 s,.int .i64 n]] w fun e w'=>e = .returned (.agg #[.int .i64 (nearS s),.int .i64 (nearN s n)])∧Below w.heap.size w w':=by
  have hb:=nearS_bd s
  refine(near_one s n (nearS s) w ht hb.1 hb.2 ?_)
  unfold nearS
  by_cases h1:s<7
  · exact .inl ⟨h1,by rw[if_pos h1]⟩
  · by_cases h2:64<s
    · exact .inr (.inl ⟨h1,h2,by rw[if_neg h1,if_pos h2]⟩)
    · exact .inr (.inr ⟨h1,h2,by rw[if_neg h1,if_neg h2]⟩)
set_option maxRecDepth 100000 in
theorem right_any (s n:Int) (w:World) (ht:Cls.Tab w):Calls Tryz.prog 90 #[.agg #[.int .i64 s,.int .i64 n]] w fun e w'=>e = .returned (.bool (rightC s n))∧Below w.heap.size w w':=by
  have HT:=Lib.hid (fun u (hu:Below w.heap.size w u)=>near_any s n u (tab_keep hu ht))
  have HR:=Lib.hid (near_right s n)
  generalize nearS s=S at HT HR
  generalize nearN s n=N at HT HR
  obtain⟨c1,c2,hlt1,hb⟩:=one_box (Below.refl (W1 w s n).heap.size (W1 w s n))
  unfold W1 at c1 c2 hlt1 hb
  clear ht
  by_cases e1:s=S
  · subst e1
    by_cases e2:n=N
    · subst e2
      rw[←HR.out]
      clear HR
      go_enter Tryz.func90,Tryz.ntmps90
      go_wp2_with fail
      go_region_held3 (fun w'=>w'.cell? ⟨w.heap.size,0,none⟩=some (.int .i64 s)∧w'.cell? ⟨w.heap.size,1,none⟩=some (.int .i64 n)) (first | exact⟨c1,c2⟩ | go_keep) ((go_at_call 174;refine(HT.out _ (by first | exact hb | exact hb.drew)).mono ?_;rintro e w1 ⟨rfl,hw1⟩;replace c1:=(hw1.cell (p:=⟨w.heap.size,0,none⟩) hlt1).trans c1;replace c2:=(hw1.cell (p:=⟨w.heap.size,1,none⟩) hlt1).trans c2;(first | replace hb:=hb.trans (hw1.mono hb.size) | replace hb:=hb.drew.trans (hw1.mono hb.size));clear hw1))
      go_wp2
      go_ret
      exact⟨rfl,hb⟩
    · have f1:(n == N)=false:=by simp[e2]
      have f2:decide (n=N)=false:=by simp[e2]
      rw[←HR.out,f2]
      clear HR
      go_enter Tryz.func90,Tryz.ntmps90
      go_wp2_with fail
      go_region_held3 (fun w'=>w'.cell? ⟨w.heap.size,0,none⟩=some (.int .i64 s)∧w'.cell? ⟨w.heap.size,1,none⟩=some (.int .i64 n)) (first | exact⟨c1,c2⟩ | go_keep) ((go_at_call 174;refine(HT.out _ (by first | exact hb | exact hb.drew)).mono ?_;rintro e w1 ⟨rfl,hw1⟩;replace c1:=(hw1.cell (p:=⟨w.heap.size,0,none⟩) hlt1).trans c1;replace c2:=(hw1.cell (p:=⟨w.heap.size,1,none⟩) hlt1).trans c2;(first | replace hb:=hb.trans (hw1.mono hb.size) | replace hb:=hb.drew.trans (hw1.mono hb.size));clear hw1))
      go_wp2
      go_ret
      exact⟨rfl,hb⟩
  · have f1:(s == S)=false:=by simp[e1]
    have f2:decide (s=S)=false:=by simp[e1]
    rw[←HR.out,f2]
    clear HR
    go_enter Tryz.func90,Tryz.ntmps90
    go_wp2_with fail
    go_region_held3 (fun w'=>w'.cell? ⟨w.heap.size,0,none⟩=some (.int .i64 s)∧w'.cell? ⟨w.heap.size,1,none⟩=some (.int .i64 n)) (first | exact⟨c1,c2⟩ | go_keep) ((go_at_call 174;refine(HT.out _ (by first | exact hb | exact hb.drew)).mono ?_;rintro e w1 ⟨rfl,hw1⟩;replace c1:=(hw1.cell (p:=⟨w.heap.size,0,none⟩) hlt1).trans c1;replace c2:=(hw1.cell (p:=⟨w.heap.size,1,none⟩) hlt1).trans c2;(first | replace hb:=hb.trans (hw1.mono hb.size) | replace hb:=hb.drew.trans (hw1.mono hb.size));clear hw1))
    go_wp2
    go_ret
    exact⟨rfl,hb⟩
end Go.Proofs.YtmgeiaglandedaaGreatDoor.Lay

namespace Go.Proofs.YtmgeiaglandedaaGreatDoor.Lay
open Go.RowKit
set_option linter.unusedVariables false
theorem frozen_block {w:World} {g:Nat} {c:Array Value} {e:TypeId} (h:w.heap[g]? = some (.cells c e (0,0))) (i:Nat):w.frozen? ⟨g,i,none⟩=false:=by simp[World.frozen?,h]
theorem block_setCell {w:World} {b i:Nat} {l:List Value} {t:TypeId} {f:Nat×Nat} (h:w.heap[b]? = some (.cells l.toArray t f)) (v:Value) :
    (w.setCell ⟨b,i,none⟩ v).heap[b]? = some (.cells (l.set i v).toArray t f):=by
  simp[World.setCell,Array.getElem?_modify,h]
set_option maxRecDepth 100000 in
set_option maxHeartbeats 2000000 in
theorem lay_any (k K n a Ba Bl:Nat) (l:List Value) (w:World) (hk:k<6) (ha:a≤1000000) (hn:n≤1000000) (hl:l.length=18)
    (hBa:w.heap[Ba]? = some (.cells #[.int .i64 (a:Int)] 3 (0,0))) (hBl:w.heap[Bl]? = some (.cells l.toArray 209 (0,0))) (hne:Ba≠Bl) :
    Calls Tryz.prog 231 #[.int .i64 (k:Int),.int .i64 (K:Int),.int .i64 (n:Int),.pointer (some ⟨Ba,0,none⟩),.pointer (some ⟨Bl,0,none⟩)] w fun e w' =>
      e = .returned (.tuple #[])∧Fr w.heap.size (fun b=>b=Ba∨b=Bl) w w'∧w'.heap[Ba]? = some (.cells #[.int .i64 ((a+n:Nat):Int)] 3 (0,0)) ∧
        w'.heap[Bl]? = some (.cells (((l.set (k*3) (.int .i64 (a:Int))).set (k*3+1) (.int .i64 (n:Int))).set (k*3+2) (.int .i64 (K:Int))).toArray 209 (0,0)):=by
  have hk0:(0:Int)≤(k:Int):=by omega
  have hk1:(k:Int)<6:=by omega
  have hw:IntKind.i64.wrap ((a:Int)+(n:Int))=((a+n:Nat):Int):=(wrap_id (by omega) (by omega)).trans (by omega)
  have c1:w.cell? ⟨Ba,0,none⟩=some (.int .i64 (a:Int)):=(cell_block hBa 0).trans rfl
  have f1:=frozen_block hBa 0
  have cc:∀ j,j<18→∃ u,w.cell? ⟨Bl,j,none⟩=some u:=fun j hj=>⟨_,(cell_block hBl j).trans (by rw[List.getElem?_toArray];exact List.getElem?_eq_getElem (by omega))⟩
  obtain⟨u0,d0⟩:=cc (k*3) (by omega)
  obtain⟨u1,d1⟩:=cc (k*3+1) (by omega)
  obtain⟨u2,d2⟩:=cc (k*3+2) (by omega)
  have g0:=frozen_block hBl (k*3)
  have g1:=frozen_block hBl (k*3+1)
  have g2:=frozen_block hBl (k*3+2)
  clear cc
  go_enter Tryz.func231,Tryz.ntmps231
  go_wp2
  refine bodyPost_end (results_none rfl _ _ _) rfl ⟨rfl,?_,?_,?_⟩
  · exact((((Fr.refl _ _ w).setCell (.inr (.inr rfl)) _).setCell (.inr (.inr rfl)) _).setCell (.inr (.inr rfl)) _).setCell (.inr (.inl rfl)) _
  · rw[Int.natCast_add]
    have e:((((w.setCell ⟨Bl,k*3,none⟩ (.int .i64 (a:Int))).setCell ⟨Bl,k*3+1,none⟩ (.int .i64 (n:Int))).setCell ⟨Bl,k*3+2,none⟩ (.int .i64 (K:Int)))).heap[Ba]? = some (.cells [Value.int .i64 (a:Int)].toArray 3 (0,0)):=by
      rw[Below.heap_setCell _ _ _ _ (by exact hne),Below.heap_setCell _ _ _ _ (by exact hne),Below.heap_setCell _ _ _ _ (by exact hne)]
      exact hBa
    exact(block_setCell e _).trans rfl
  · rw[Below.heap_setCell _ _ _ _ (by exact fun h=>hne h.symm)]
    exact block_setCell (block_setCell (block_setCell hBl _) _) _
set_option maxRecDepth 100000 in
theorem place_any (a n K z i:Int) (r:Nat) (w:World) (i1 : -9223372036854775808≤i) (i2:i≤9223372036854775807) (hz:0<z) (hz2:z≤1024) (hn:0≤n) (hn2:n≤1000000) (ha:0≤a) (ha2:a≤1000000)
    (hr:(r:Int)=if 0≤i∧i<n / z then a+i*z else 0) :
    Calls Tryz.prog 223 #[.agg #[.int .i64 a,.int .i64 n,.int .i64 K],.int .i64 i,.int .i64 z] w fun e w'=>e = .returned (.int .i64 (r:Int))∧Below w.heap.size w w':=by
  have hq:Int.tdiv n z=n / z:=Int.tdiv_eq_ediv_of_nonneg hn
  have hq2:n / z≤n:=Int.ediv_le_self _ hn
  have hq3:0≤n / z:=Int.ediv_nonneg hn (by omega)
  have hzz:(z == 0)=false:=by rw[beq_eq_false_iff_ne];omega
  have hzn:¬ z=0:=by omega
  have hmul:i<n / z→i*z≤n:=fun h=>by
    have h1:i*z≤(n / z)*z:=Int.mul_le_mul_of_nonneg_right (by omega) (by omega)
    have h2:(n / z)*z≤n:=Int.ediv_mul_le _ (by omega)
    omega
  have hmul0:0≤i→0≤i*z:=fun h=>Int.mul_nonneg h (by omega)
  generalize n / z=q at hq hq2 hq3 hr hmul
  have hw:IntKind.i64.wrap (Int.tdiv n z)=q:=by rw[hq];exact wrap_id (by omega) (by omega)
  have hb:=below_made w (.cells #[.int .i64 a,.int .i64 n,.int .i64 K] 195)
  by_cases h1:i<0
  · rw[if_neg (by omega)] at hr
    obtain rfl:r=0:=by omega
    clear hr hmul hmul0
    go_enter Tryz.func223,Tryz.ntmps223
    go_wp2
    go_ret
    exact⟨rfl,hb⟩
  · by_cases h2 : q ≤ i
    · rw[if_neg (by omega)] at hr
      obtain rfl:r=0:=by omega
      clear hr hmul hmul0
      go_enter Tryz.func223,Tryz.ntmps223
      go_wp2
      go_ret
      exact⟨rfl,hb⟩
    · rw[if_pos (by omega)] at hr
      have hm1:=hmul (by omega)
      have hm2:=hmul0 (by omega)
      obtain⟨p,hp⟩:∃ p,p=i*z:=⟨_,rfl⟩
      rw[←hp] at hr hm1 hm2
      have hw1:IntKind.i64.wrap (i*z)=p:=by rw[←hp];exact wrap_id (by omega) (by omega)
      have hw2:IntKind.i64.wrap (a+p)=a+p:=wrap_id (by omega) (by omega)
      have HR:=Lib.hid hr
      clear hr hmul hmul0 hp
      go_enter Tryz.func223,Tryz.ntmps223
      go_wp2
      go_ret
      exact⟨ret_int HR.out.symm,hb⟩
end Go.Proofs.YtmgeiaglandedaaGreatDoor.Lay

namespace Go.Proofs.YtmgeiaglandedaaGreatDoor.Lay
open Go.RowKit
set_option linter.unusedVariables false
def partT (S N:Nat):List (Nat×Nat×Nat) := [(0,8,1),(8,120,2),(128,16*S,3),(slT S,4*N,4),(endT S N,padT S N,8),(baseT S N,1024*S,7)]
def partC (s n:Int):List (Nat×Nat×Nat):=if rightC s n then partT s.toNat n.toNat else [(0,0,0),(0,0,0),(0,0,0),(0,0,0),(0,0,0),(0,0,0)]
def z18:List Value := [.int .i64 0,.int .i64 0,.int .i64 0,.int .i64 0,.int .i64 0,.int .i64 0,.int .i64 0,.int .i64 0,.int .i64 0,.int .i64 0,.int .i64 0,.int .i64 0,.int .i64 0,.int .i64 0,.int .i64 0,.int .i64 0,.int .i64 0,.int .i64 0]
def set3 (l:List Value) (k a m K:Nat):List Value:=((l.set (k*3) (.int .i64 (a:Int))).set (k*3+1) (.int .i64 (m:Int))).set (k*3+2) (.int .i64 (K:Int))
def PS (w x:World) (s n:Int) (a:Nat) (l:List Value) (Ba:Nat):Prop :=
  x.heap[w.heap.size]? = some (.cells #[.int .i64 s,.int .i64 n] 81 (0,0))∧x.heap[w.heap.size+1]? = some (.cells z18.toArray 209 (0,0))∧x.heap[w.heap.size+1+1]? = some (.cells l.toArray 209 (0,0)) ∧
    x.heap[Ba]? = some (.cells #[.int .i64 (a:Int)] 3 (0,0))∧w.heap.size+1+1<Ba∧Below w.heap.size w x∧l.length=18
theorem PS.cells {w x:World} {s n:Int} {a:Nat} {l:List Value} {Ba:Nat} (h:PS w x s n a l Ba):x.cell? ⟨w.heap.size,0,none⟩=some (.int .i64 s)∧x.cell? ⟨w.heap.size,1,none⟩=some (.int .i64 n)∧x.cell? ⟨Ba,0,none⟩=some (.int .i64 (a:Int)) :=
  ⟨(cell_block h.1 0).trans rfl,(cell_block h.1 1).trans rfl,(cell_block h.2.2.2.1 0).trans rfl⟩
theorem lay_step {w x:World} {s n:Int} {a:Nat} {l:List Value} {Ba:Nat} (h:Hid (PS w x s n a l Ba)) (k K m b:Nat) (k' K' m':Int) (e1:k'=k) (e2:K'=K) (e3:m'=m) (e4:b=a+m) (hk:k<6) (ha:a≤1000000) (hm:m≤1000000) :
    Calls Tryz.prog 231 #[.int .i64 k',.int .i64 K',.int .i64 m',.pointer (some ⟨Ba,0,none⟩),.pointer (some ⟨w.heap.size+1+1,0,none⟩)] x fun e x'=>e = .returned (.tuple #[])∧Hid (PS w x' s n b (set3 l k a m K) Ba):=by
  subst e1 e2 e3 e4
  obtain⟨h1,h2,h3,h4,h5,h6,h7⟩:=h.out
  have l1:=(Array.getElem?_eq_some_iff.1 h1).1
  have l2:=(Array.getElem?_eq_some_iff.1 h2).1
  have l3:=(Array.getElem?_eq_some_iff.1 h3).1
  refine(lay_any k K m a Ba (w.heap.size+1+1) l x hk ha hm h7 h4 h3 (by omega)).mono ?_
  rintro e x' ⟨rfl,hf,q1,q2⟩
  refine⟨rfl,(hf.block _ l1 (by omega)).trans h1,(hf.block _ l2 (by omega)).trans h2,q2,q1,h5,?_,by simp[set3,h7]⟩
  exact h6.trans (hf.toBelow h6.size (fun k hk=>by omega))
def PB (w x:World) (s n:Int) (l:List Value):Prop :=
  x.heap[w.heap.size]? = some (.cells #[.int .i64 s,.int .i64 n] 81 (0,0))∧x.heap[w.heap.size+1]? = some (.cells z18.toArray 209 (0,0))∧x.heap[w.heap.size+1+1]? = some (.cells l.toArray 209 (0,0)) ∧
    Below w.heap.size w x∧l.length=18
def PW (w:World) (s n:Int):World:=((w.alloc (.cells #[.int .i64 s,.int .i64 n] 81)).alloc (.cells z18.toArray 209)).alloc (.cells z18.toArray 209)
theorem PB.start (w x:World) (s n:Int) (hb:Below (PW w s n).heap.size (PW w s n) x):PB w x s n z18:=by
  have z1:=size_alloc w (.cells #[.int .i64 s,.int .i64 n] 81)
  have z2:=size_alloc (w.alloc (.cells #[.int .i64 s,.int .i64 n] 81)) (.cells z18.toArray 209)
  have z3:(PW w s n).heap.size=_:=size_alloc ((w.alloc (.cells #[.int .i64 s,.int .i64 n] 81)).alloc (.cells z18.toArray 209)) (.cells z18.toArray 209)
  refine⟨?_,?_,?_,?_,rfl⟩
  · rw[hb.block _ (by omega)]
    exact(Below.heap_alloc _ _ _ (by omega)).trans ((Below.heap_alloc _ _ _ (by omega)).trans (heap_alloc_new _ _))
  · rw[hb.block _ (by omega)]
    have:=heap_alloc_new (w.alloc (.cells #[.int .i64 s,.int .i64 n] 81)) (.cells z18.toArray 209)
    rw[z1] at this
    exact(Below.heap_alloc _ _ _ (by omega)).trans this
  · rw[hb.block _ (by omega)]
    have:=heap_alloc_new ((w.alloc (.cells #[.int .i64 s,.int .i64 n] 81)).alloc (.cells z18.toArray 209)) (.cells z18.toArray 209)
    rw[z2,z1] at this
    exact this
  · exact((((Below.refl _ w).alloc (Nat.le_refl _) _).alloc (by omega) _).alloc (by omega) _).trans (hb.mono (by omega))
theorem PB.place {w x:World} {s n:Int} {l:List Value} (h:PB w x s n l):PS w (x.alloc (.cells #[.int .i64 0] 3)) s n 0 l x.heap.size:=by
  obtain⟨h1,h2,h3,h4,h5⟩:=h
  have l1:=(Array.getElem?_eq_some_iff.1 h1).1
  have l2:=(Array.getElem?_eq_some_iff.1 h2).1
  have l3:=(Array.getElem?_eq_some_iff.1 h3).1
  exact⟨(Below.heap_alloc _ _ _ l1).trans h1,(Below.heap_alloc _ _ _ l2).trans h2,(Below.heap_alloc _ _ _ l3).trans h3,heap_alloc_new _ _,l3,h4.alloc h4.size _,h5⟩
theorem PS.toPB {w x:World} {s n:Int} {a:Nat} {l:List Value} {Ba:Nat} (h:PS w x s n a l Ba):PB w x s n l:=⟨h.1,h.2.1,h.2.2.1,h.2.2.2.2.2.1,h.2.2.2.2.2.2⟩
theorem PB.range {w x:World} {s n:Int} {l:List Value} (h:PB w x s n l):x.rangeAt (w.heap.size+1+1) 0 l:=by
  intro j v hv
  rw[Nat.zero_add,cell_block h.2.2.1,List.getElem?_toArray,hv]
theorem PB.there {w x:World} {s n:Int} {l:List Value} (h:PB w x s n l):x.there (w.heap.size+1) 0 18:=by
  intro j hj
  rw[Nat.zero_add]
  refine⟨?_,frozen_block h.2.1 j⟩
  rw[cell_block h.2.1,List.getElem?_toArray,List.getElem?_eq_getElem (show j<z18.length from hj)]
  rfl
theorem Below.setCells {B:Nat} {w:World} {b:Nat} (hB:B≤b):∀ (l:List Value) (x:World) (o:Nat),Below B w x→Below B w (x.setCells b o l)
  | [],_,_,h=>h
  | v::r,x,o,h=>Below.setCells hB r _ (o+1) (h.setCell hB v)
theorem infoParts:(Tryz.prog.info? 209).map (·.size)=some 18:=by kernel_rfl
theorem PB.done {w x:World} {s n:Int} {l:List Value} (h:PB w x s n l):(loadVar 209 ⟨w.heap.size+1,0,none⟩).run Tryz.prog (x.setCells (w.heap.size+1) 0 l) = .ok (.agg l.toArray) (x.setCells (w.heap.size+1) 0 l)∧Below w.heap.size w (x.setCells (w.heap.size+1) 0 l):=by
  have hl:=h.2.2.2.2
  have hth:=h.there
  rw[←hl] at hth
  refine⟨run_loadVar_mid _ _ _ _ _ (.array 6 195) (World.rangeAt_setCells_same x _ _ _ hth) (by kernel_rfl) rfl (by rw[hl];exact infoParts),?_⟩
  exact Below.setCells (by omega) _ _ _ h.2.2.2.1
theorem PB.store {w x:World} {s n:Int} {l:List Value} (h:PB w x s n l) (h1:∀ v∈l,v.oneCell'=true):(storeCells ⟨w.heap.size+1,0,none⟩ l 0).run Tryz.prog x = .ok () (x.setCells (w.heap.size+1) 0 l):=by
  have hl:=h.2.2.2.2
  have hth:=h.there
  rw[←hl] at hth
  exact run_storeCells_cells _ _ _ _ _ (fun j hj=>by simpa using (hth j hj).1) (fun j hj=>by simpa using (hth j hj).2) h1
theorem results_cell_var {P:Program} {fn:Func} {p:Tmp} {ty:TypeId} (h:fn.results = #[.cell p ty]) (tmps:Array Value) (w:World) (b:Nat) (v:Value) (hp:tmps.getD p undef = .pointer (some ⟨b,0,none⟩))
    (hl:(loadVar ty ⟨b,0,none⟩).run P w = .ok v w):(results fn tmps).run P w = .ok v w:=by
  have hp':tmps[p]?.getD undef = .pointer (some ⟨b,0,none⟩):=by simpa using hp
  simp[results,h,hp',asAddr,hl]
set_option maxRecDepth 100000 in
set_option maxHeartbeats 2000000 in
theorem parts_any (s n:Int) (w:World) (ht:Cls.Tab w) (s1 : -9223372036854775808≤s) (s2:s≤9223372036854775807) (n1 : -9223372036854775808≤n) (n2:n≤9223372036854775807) :
    Calls Tryz.prog 180 #[.agg #[.int .i64 s,.int .i64 n]] w fun e w'=>e = .returned (.agg (valsA encR (partC s n)).toArray)∧Below w.heap.size w w':=by
  have hR:=fun u (hu:Below w.heap.size w u)=>right_any s n u (tab_keep hu ht)
  obtain⟨L,hL⟩:∃ L,L=valsA encR (partC s n):=⟨_,rfl⟩
  rw[←hL]
  have hL1:∀ v∈L,v.oneCell'=true:=by
    rw[hL]
    intro v hv
    obtain⟨x,_,hx⟩:=List.mem_flatMap.1 hv
    simp[encR] at hx
    rcases hx with rfl | rfl | rfl<;>rfl
  have HL1:=Lib.hid hL1
  clear hL1
  cases hr:rightC s n with
  | false =>
    rw[hr] at hR
    have HR:=Lib.hid hR
    have hv:Hid (z18=L):=by unfold Hid;rw[hL,partC,hr];rfl
    clear ht hR hr hL
    go_enter Tryz.func180,Tryz.ntmps180
    go_wp2_with fail
    refine(HR.out _ (PB.start w _ s n (Below.refl _ _)).2.2.2.1).mono ?_
    rintro e w1 ⟨rfl,hb1⟩
    have HB:=Lib.hid (PB.start w w1 s n hb1)
    rw[hv.out] at HB
    have hst:=HB.out.store HL1.out
    have hlen:=HB.out.2.2.2.2
    clear hb1
    go_wp2_with (refine wpList_load_mid rfl 209 (.tmp 3) rfl (w.heap.size+1+1) 0 rfl L (.array 6 195) HB.out.range (by kernel_rfl) rfl (by rw[HB.out.2.2.2.2];exact infoParts) ?_)
    obtain⟨q1,q2⟩:=HB.out.done
    exact bodyPost_ret (results_cell_var rfl _ _ _ _ rfl q1) rfl ⟨rfl,q2⟩
  | true =>
    rw[hr] at hR
    have HR:=Lib.hid hR
    have hc:partC s n=partT s.toNat n.toNat:=by rw[partC,hr];rfl
    obtain⟨S,N,rfl,rfl,b1,b2,b3,b4,b5⟩:=right_nat hr
    rw[hc,Int.toNat_natCast,Int.toNat_natCast] at hL
    have hp:=pad_two (s:=S) b3
    obtain⟨x1,h1⟩:∃ x1,x1=16*S:=⟨_,rfl⟩
    obtain⟨y2,h2⟩:∃ y2,y2=128+x1:=⟨_,rfl⟩
    obtain⟨x3,h3⟩:∃ x3,x3=4*N:=⟨_,rfl⟩
    obtain⟨y4,h4⟩:∃ y4,y4=y2+x3:=⟨_,rfl⟩
    obtain⟨x5,h5⟩:∃ x5,x5=1024*S:=⟨_,rfl⟩
    obtain⟨pd,h6⟩:∃ pd,pd=padT S N:=⟨_,rfl⟩
    obtain⟨y5,h7⟩:∃ y5,y5=y4+pd:=⟨_,rfl⟩
    have q1:endT S N=y4:=by unfold endT;omega
    have q2:slT S=y2:=by unfold slT;omega
    have q3:baseT S N=y5:=by unfold baseT;omega
    rw[q1,←h6] at hp
    have hv:Hid (set3 (set3 (set3 (set3 (set3 (set3 z18 0 0 8 1) 1 8 120 2) 2 128 x1 3) 3 y2 x3 4) 4 y4 pd 8) 5 y5 x5 7=L):=by
      unfold Hid
      rw[hL]
      unfold partT
      rw[q1,q2,q3,←h1,←h3,←h5,←h6]
      rfl
    have e1:(S:Int)*16=x1:=by omega
    have e3:(N:Int)*4=x3:=by omega
    have e5:(S:Int)*1024=x5:=by omega
    have f1:x1≤1100:=by omega
    have f3:x3≤33000:=by omega
    have f4:y4≤34300:=by omega
    have f5:x5≤66000:=by omega
    have f7:(S:Int)≤64:=by omega
    have f8:(N:Int)≤8192:=by omega
    have f9:y2≤2000:=by omega
    have fp:pd≤8:=by omega
    have H2:=Lib.hid h2
    have H4:=Lib.hid h4
    have H7:=Lib.hid h7
    obtain⟨r,hm0⟩:∃ r,r=(y4:Int) % 16:=⟨_,rfl⟩
    obtain⟨d,hd00⟩:∃ d,d=16-r:=⟨_,rfl⟩
    have hdd:d % 16=(pd:Int):=by omega
    have hr0:0≤r:=by omega
    have hr1:r≤15:=by omega
    have hd0:0≤d:=by omega
    have hd1:d≤16:=by omega
    have hm:=hm0.symm
    have hd:=hd00.symm
    clear hm0 hd00
    clear ht hR hc h1 h2 h3 h4 h5 h6 h7 q1 q2 q3 hp b1 b2 b3 b4 b5 hr hL
    go_enter Tryz.func180,Tryz.ntmps180
    go_wp2_with fail
    refine(HR.out _ (PB.start w _ _ _ (Below.refl _ _)).2.2.2.1).mono ?_
    rintro e w1 ⟨rfl,hb1⟩
    have HB:=Lib.hid (PB.start w w1 _ _ hb1).place
    clear hb1
    go_wp2_with fail
    refine(lay_step HB 0 1 8 8 _ _ _ rfl rfl rfl rfl (by omega) (by omega) (by omega)).mono ?_
    rintro e w2 ⟨rfl,HB2⟩
    clear HB
    go_wp2_with fail
    refine(lay_step HB2 1 2 120 128 _ _ _ rfl rfl rfl rfl (by omega) (by omega) (by omega)).mono ?_
    rintro e w3 ⟨rfl,HB3⟩
    clear HB2
    obtain⟨c0,c1,c2⟩:=HB3.out.cells
    go_wp2_with fail
    refine(lay_step HB3 2 3 x1 y2 _ _ _ rfl rfl rfl H2.out (by omega) (by omega) (by omega)).mono ?_
    rintro e w4 ⟨rfl,HB4⟩
    clear HB3 c0 c1 c2
    obtain⟨c0,c1,c2⟩:=HB4.out.cells
    go_wp2_with fail
    refine(lay_step HB4 3 4 x3 y4 _ _ _ rfl rfl rfl H4.out (by omega) (by omega) (by omega)).mono ?_
    rintro e w5 ⟨rfl,HB5⟩
    clear HB4 c0 c1 c2
    obtain⟨c0,c1,c2⟩:=HB5.out.cells
    go_wp2_with fail
    refine(lay_step HB5 4 8 pd y5 _ _ _ rfl rfl rfl H7.out (by omega) (by omega) (by omega)).mono ?_
    rintro e w6 ⟨rfl,HB6⟩
    clear HB5 c0 c1 c2
    obtain⟨c0,c1,c2⟩:=HB6.out.cells
    go_wp2_with fail
    have hy5:y5≤1000000:=by have:=H7.out;omega
    refine(lay_step HB6 5 7 x5 (y5+x5) _ _ _ rfl rfl rfl rfl (by omega) hy5 (by omega)).mono ?_
    rintro e w7 ⟨rfl,HB7⟩
    clear HB6 c0 c1 c2
    rw[hv.out] at HB7
    have HB:=Lib.hid HB7.out.toPB
    have hst:=HB.out.store HL1.out
    have hlen:=HB.out.2.2.2.2
    clear HB7
    go_wp2_with (refine wpList_load_mid rfl 209 (.tmp 3) rfl (w.heap.size+1+1) 0 rfl L (.array 6 195) HB.out.range (by kernel_rfl) rfl (by rw[HB.out.2.2.2.2];exact infoParts) ?_)
    obtain⟨q1,q2⟩:=HB.out.done
    exact bodyPost_ret (results_cell_var rfl _ _ _ _ rfl q1) rfl ⟨rfl,q2⟩
end Go.Proofs.YtmgeiaglandedaaGreatDoor.Lay

namespace Go.Proofs.YtmgeiaglandedaaGreatDoor.Lay
open Go.RowKit
set_option linter.unusedVariables false
theorem extract_three (R:List (Nat×Nat×Nat)) (k:Nat) (hR:k<R.length) :
    (valsA encR R).toArray.extract (k*3) (k*3+3) = #[Value.int .i64 ((R.getD k (0,0,0)).1:Int),.int .i64 ((R.getD k (0,0,0)).2.1:Int),.int .i64 ((R.getD k (0,0,0)).2.2:Int)]:=by
  have hl:=valsA_length encR_length R
  have hg:=fun j hj=>valsA_get encR_length (0,0,0) R k hR j hj
  have h0:=hg 0 (by omega)
  have h1:=hg 1 (by omega)
  have h2:=hg 2 (by omega)
  rw[Nat.add_zero] at h0
  apply Array.ext_getElem?
  intro i
  rw[Array.getElem?_extract]
  rcases i with _ | _ | _ | i
  · rw[if_pos (by simp;omega)]
    simpa[encR] using h0
  · rw[if_pos (by simp;omega)]
    simpa[encR] using h1
  · rw[if_pos (by simp;omega)]
    simpa[encR] using h2
  · rw[if_neg (by simp;omega)]
    simp
theorem run_index_three {P:Program} {xt et:TypeId} {len:Nat} {d:TypeDesc} (h1:P.underlying xt=some (.array len et)) (h2:P.underlying et=some d) (hd:d.isRow=true) (h3:(P.info? et).map (·.size)=some 3)
    (R:List (Nat×Nat×Nat)) (i:Int) (k:Nat) (hi:i=k) (hk:k<len) (hR:k<R.length) (x1 x2 x3:Nat) (he:R.getD k (0,0,0)=(x1,x2,x3)) (w:World) :
    (Instr.index xt (.agg (valsA encR R).toArray) (.int .i64 i)).run P w = .ok (.agg #[.int .i64 (x1:Int),.int .i64 (x2:Int),.int .i64 (x3:Int)]) w:=by
  subst hi
  have hagg:(isAgg et).run P w = .ok true w:=by
    unfold isAgg
    rw[Sem.run_bind,run_underlying h2 w]
    cases d<;>simp_all
  have hsz:(sizeOf et).run P w = .ok 3 w:=by
    cases hq:P.info? et with
    | none=>simp[hq] at h3
    | some i =>
      have hs:i.size=3:=by simpa[hq] using h3
      simp[sizeOf,typeInfo,hq,hs]
  have hex:=extract_three R k hR
  rw[he] at hex
  have hki:(0:Int)≤(k:Int)∧(k:Int)<(len:Int):=by omega
  unfold Instr.index
  simp[asIntOf,run_underlying h1 w,Sem.run_bind,hki,hk,hsz,part,hagg,Result.andThen,←hex]
theorem under_run:(Tryz.prog.underlying 195).map (·.isRow)=some true:=by kernel_rfl
theorem index_part (P:List (Nat×Nat×Nat)) (hl:P.length=6) (i:Int) (k:Nat) (hi:i=k) (hk:k<6) (x1 x2 x3:Nat) (he:P.getD k (0,0,0)=(x1,x2,x3)) (w:World) :
    (Instr.index 209 (.agg (valsA encR P).toArray) (.int .i64 i)).run Tryz.prog w = .ok (.agg #[.int .i64 (x1:Int),.int .i64 (x2:Int),.int .i64 (x3:Int)]) w:=by
  obtain⟨d,h2,hd⟩:=Option.map_eq_some_iff.1 under_run
  exact run_index_three (et:=195) (len:=6) (by kernel_rfl) h2 hd (by kernel_rfl) P i k hi hk (by omega) x1 x2 x3 he w
theorem partC_len (s n:Int):(partC s n).length=6:=by unfold partC;split<;>rfl
theorem part_two (s n:Int):(partC s n).getD 2 (0,0,0)=if rightC s n=true then (128,16*s.toNat,3) else (0,0,0):=by unfold partC;split<;>rfl
theorem part_three (s n:Int):(partC s n).getD 3 (0,0,0)=if rightC s n=true then (slT s.toNat,4*n.toNat,4) else (0,0,0):=by unfold partC;split<;>rfl
theorem part_five (s n:Int):(partC s n).getD 5 (0,0,0)=if rightC s n=true then (baseT s.toNat n.toNat,1024*s.toNat,7) else (0,0,0):=by unfold partC;split<;>rfl
theorem parts_on (s n:Int) (w:World) (ht:Cls.Tab w) (s1 : -9223372036854775808≤s) (s2:s≤9223372036854775807) (n1 : -9223372036854775808≤n) (n2:n≤9223372036854775807) :
    ∃ P,P=partC s n∧P.length=6∧Hid (∀ u,Below w.heap.size w u→Calls Tryz.prog 180 #[.agg #[.int .i64 s,.int .i64 n]] u fun e w'=>e = .returned (.agg (valsA encR P).toArray)∧Below w.heap.size w w') :=
  ⟨_,rfl,partC_len s n,fun u hu=>(parts_any s n u (tab_keep hu ht) s1 s2 n1 n2).mono fun e w' ⟨h1,h2⟩=>⟨h1,hu.trans (h2.mono hu.size)⟩⟩
theorem five_bd (s n:Int):∃ a m K:Nat,(partC s n).getD 5 (0,0,0)=(a,m,K)∧a=baseC s n∧a+m=sizeC s n∧a≤100000∧m≤100000:=by
  by_cases h:rightC s n=true
  · refine⟨_,_,_,(part_five s n).trans (if_pos h),by rw[baseC,if_pos h],by rw[sizeC,if_pos h];rfl,?_⟩
    obtain⟨S,N,rfl,rfl,b1,b2,b3,b4,b5⟩:=right_nat h
    have:=base_sixteen (s:=S) b3
    have he:endT S N=128+16*S+4*N:=rfl
    rw[Int.toNat_natCast,Int.toNat_natCast]
    omega
  · exact⟨_,_,_,(part_five s n).trans (if_neg h),by rw[baseC,if_neg h],by rw[sizeC,if_neg h],by omega,by omega⟩
set_option maxRecDepth 100000 in
theorem size_any (s n:Int) (w:World) (ht:Cls.Tab w) (s1 : -9223372036854775808≤s) (s2:s≤9223372036854775807) (n1 : -9223372036854775808≤n) (n2:n≤9223372036854775807) :
    Calls Tryz.prog 93 #[.agg #[.int .i64 s,.int .i64 n]] w fun e w'=>e = .returned (.int .i64 (sizeC s n))∧Below w.heap.size w w':=by
  obtain⟨P,hP,hl,HP⟩:=parts_on s n w ht s1 s2 n1 n2
  obtain⟨a,m,K,h5,-,hs,ha2,hm2⟩:=five_bd s n
  rw[←hP] at h5
  rw[←hs]
  obtain⟨c1,c2,hlt1,hb⟩:=one_box (Below.refl (W1 w s n).heap.size (W1 w s n))
  unfold W1 at c1 c2 hlt1 hb
  have hix:=fun u=>index_part P hl 5 5 rfl (by decide) a m K h5 u
  have ha3:(a:Int)≤100000:=by omega
  have hm3:(m:Int)≤100000:=by omega
  clear ht s1 s2 n1 n2 hP hs h5 hl ha2 hm2
  go_enter Tryz.func93,Tryz.ntmps93
  go_wp2_with (go_at_call 180;refine(HP.out _ hb).mono ?_;rintro e w1 ⟨rfl,hw1⟩)
  go_ret
  exact⟨ret_int (by omega),hw1.alloc hw1.size _⟩
theorem headAt_bd (s n i:Int):∃ a m K:Nat,(partC s n).getD 2 (0,0,0)=(a,m,K)∧a≤100000∧m≤100000∧((headC s n i:Nat):Int)=if 0≤i∧i<(m:Int) / 16 then (a:Int)+i*16 else 0:=by
  by_cases h:rightC s n=true
  · refine⟨_,_,_,(part_two s n).trans (if_pos h),?_⟩
    obtain⟨S,N,rfl,rfl,b1,b2,b3,b4,b5⟩:=right_nat h
    have hb:=base_sixteen (s:=S) b3
    have he:endT S N=128+16*S+4*N:=rfl
    have hs:slT S=128+16*S:=rfl
    unfold headC
    simp only[Int.toNat_natCast]
    refine⟨by omega,by omega,?_⟩
    split
    · rename_i hc
      rw[if_pos (by omega)]
      omega
    · rename_i hc
      rw[if_neg (fun hh=>hc ⟨h,hh.1,by omega⟩)]
      rfl
  · refine⟨_,_,_,(part_two s n).trans (if_neg h),by omega,by omega,?_⟩
    rw[headC,if_neg (fun hh=>h hh.1),if_neg (by omega)]
    rfl
set_option maxRecDepth 100000 in
theorem headAt_any (s n i:Int) (w:World) (ht:Cls.Tab w) (s1 : -9223372036854775808≤s) (s2:s≤9223372036854775807) (n1 : -9223372036854775808≤n) (n2:n≤9223372036854775807) (i1 : -9223372036854775808≤i) (i2:i≤9223372036854775807) :
    Calls Tryz.prog 236 #[.agg #[.int .i64 s,.int .i64 n],.int .i64 i] w fun e w'=>e = .returned (.int .i64 (headC s n i))∧Below w.heap.size w w':=by
  obtain⟨P,hP,hl,HP⟩:=parts_on s n w ht s1 s2 n1 n2
  obtain⟨a,m,K,h5,ha2,hm2,hr⟩:=headAt_bd s n i
  rw[←hP] at h5
  obtain⟨c1,c2,hlt1,hb⟩:=one_box (Below.refl (W1 w s n).heap.size (W1 w s n))
  unfold W1 at c1 c2 hlt1 hb
  have hix:=fun u=>index_part P hl 2 2 rfl (by decide) a m K h5 u
  have HL:=Lib.hid (fun u=>place_any (a:Int) (m:Int) (K:Int) 16 i (headC s n i) u i1 i2 (by decide) (by decide) (by omega) (by omega) (by omega) (by omega) hr)
  generalize headC s n i=r at HL ⊢
  clear ht s1 s2 n1 n2 hP hr h5 hl ha2 hm2
  go_enter Tryz.func236,Tryz.ntmps236
  go_wp2_with (first | (go_at_call 180;refine(HP.out _ hb).mono ?_;rintro e w1 ⟨rfl,hw1⟩) | (go_at_call 223;refine(HL.out _).mono ?_;rintro e w2 ⟨rfl,hw2⟩))
  go_ret
  exact⟨rfl,hw1.trans (hw2.mono hw1.size)⟩
theorem slotAt_bd (s n i:Int):∃ a m K:Nat,(partC s n).getD 3 (0,0,0)=(a,m,K)∧a≤100000∧m≤100000∧((slotC s n i:Nat):Int)=if 0≤i∧i<(m:Int) / 4 then (a:Int)+i*4 else 0:=by
  by_cases h:rightC s n=true
  · refine⟨_,_,_,(part_three s n).trans (if_pos h),?_⟩
    obtain⟨S,N,rfl,rfl,b1,b2,b3,b4,b5⟩:=right_nat h
    have hb:=base_sixteen (s:=S) b3
    have he:endT S N=128+16*S+4*N:=rfl
    have hs:slT S=128+16*S:=rfl
    unfold slotC
    simp only[Int.toNat_natCast]
    refine⟨by omega,by omega,?_⟩
    split
    · rename_i hc
      rw[if_pos (by omega)]
      omega
    · rename_i hc
      rw[if_neg (fun hh=>hc ⟨h,hh.1,by omega⟩)]
      rfl
  · refine⟨_,_,_,(part_three s n).trans (if_neg h),by omega,by omega,?_⟩
    rw[slotC,if_neg (fun hh=>h hh.1),if_neg (by omega)]
    rfl
set_option maxRecDepth 100000 in
theorem slotAt_any (s n i:Int) (w:World) (ht:Cls.Tab w) (s1 : -9223372036854775808≤s) (s2:s≤9223372036854775807) (n1 : -9223372036854775808≤n) (n2:n≤9223372036854775807) (i1 : -9223372036854775808≤i) (i2:i≤9223372036854775807) :
    Calls Tryz.prog 148 #[.agg #[.int .i64 s,.int .i64 n],.int .i64 i] w fun e w'=>e = .returned (.int .i64 (slotC s n i))∧Below w.heap.size w w':=by
  obtain⟨P,hP,hl,HP⟩:=parts_on s n w ht s1 s2 n1 n2
  obtain⟨a,m,K,h5,ha2,hm2,hr⟩:=slotAt_bd s n i
  rw[←hP] at h5
  obtain⟨c1,c2,hlt1,hb⟩:=one_box (Below.refl (W1 w s n).heap.size (W1 w s n))
  unfold W1 at c1 c2 hlt1 hb
  have hix:=fun u=>index_part P hl 3 3 rfl (by decide) a m K h5 u
  have HL:=Lib.hid (fun u=>place_any (a:Int) (m:Int) (K:Int) 4 i (slotC s n i) u i1 i2 (by decide) (by decide) (by omega) (by omega) (by omega) (by omega) hr)
  generalize slotC s n i=r at HL ⊢
  clear ht s1 s2 n1 n2 hP hr h5 hl ha2 hm2
  go_enter Tryz.func148,Tryz.ntmps148
  go_wp2_with (first | (go_at_call 180;refine(HP.out _ hb).mono ?_;rintro e w1 ⟨rfl,hw1⟩) | (go_at_call 223;refine(HL.out _).mono ?_;rintro e w2 ⟨rfl,hw2⟩))
  go_ret
  exact⟨rfl,hw1.trans (hw2.mono hw1.size)⟩
theorem slabAt_bd (s n i:Int):∃ a m K:Nat,(partC s n).getD 5 (0,0,0)=(a,m,K)∧a≤100000∧m≤100000∧((slabC s n i:Nat):Int)=if 0≤i∧i<(m:Int) / 1024 then (a:Int)+i*1024 else 0:=by
  by_cases h:rightC s n=true
  · refine⟨_,_,_,(part_five s n).trans (if_pos h),?_⟩
    obtain⟨S,N,rfl,rfl,b1,b2,b3,b4,b5⟩:=right_nat h
    have hb:=base_sixteen (s:=S) b3
    have he:endT S N=128+16*S+4*N:=rfl
    have hs:slT S=128+16*S:=rfl
    unfold slabC
    simp only[Int.toNat_natCast]
    refine⟨by omega,by omega,?_⟩
    split
    · rename_i hc
      rw[if_pos (by omega)]
      omega
    · rename_i hc
      rw[if_neg (fun hh=>hc ⟨h,hh.1,by omega⟩)]
      rfl
  · refine⟨_,_,_,(part_five s n).trans (if_neg h),by omega,by omega,?_⟩
    rw[slabC,if_neg (fun hh=>h hh.1),if_neg (by omega)]
    rfl
set_option maxRecDepth 100000 in
theorem slabAt_any (s n i:Int) (w:World) (ht:Cls.Tab w) (s1 : -9223372036854775808≤s) (s2:s≤9223372036854775807) (n1 : -9223372036854775808≤n) (n2:n≤9223372036854775807) (i1 : -9223372036854775808≤i) (i2:i≤9223372036854775807) :
    Calls Tryz.prog 242 #[.agg #[.int .i64 s,.int .i64 n],.int .i64 i] w fun e w'=>e = .returned (.int .i64 (slabC s n i))∧Below w.heap.size w w':=by
  obtain⟨P,hP,hl,HP⟩:=parts_on s n w ht s1 s2 n1 n2
  obtain⟨a,m,K,h5,ha2,hm2,hr⟩:=slabAt_bd s n i
  rw[←hP] at h5
  obtain⟨c1,c2,hlt1,hb⟩:=one_box (Below.refl (W1 w s n).heap.size (W1 w s n))
  unfold W1 at c1 c2 hlt1 hb
  have hix:=fun u=>index_part P hl 5 5 rfl (by decide) a m K h5 u
  have HL:=Lib.hid (fun u=>place_any (a:Int) (m:Int) (K:Int) 1024 i (slabC s n i) u i1 i2 (by decide) (by decide) (by omega) (by omega) (by omega) (by omega) hr)
  generalize slabC s n i=r at HL ⊢
  clear ht s1 s2 n1 n2 hP hr h5 hl ha2 hm2
  go_enter Tryz.func242,Tryz.ntmps242
  go_wp2_with (first | (go_at_call 180;refine(HP.out _ hb).mono ?_;rintro e w1 ⟨rfl,hw1⟩) | (go_at_call 223;refine(HL.out _).mono ?_;rintro e w2 ⟨rfl,hw2⟩))
  go_ret
  exact⟨rfl,hw1.trans (hw2.mono hw1.size)⟩
theorem slab_bd (s n i:Int):∃ a m K:Nat,(partC s n).getD 5 (0,0,0)=(a,m,K)∧a≤100000∧m≤100000∧inC s n i=if (a:Int)≤i∧i<(a:Int)+(m:Int) then (((i-a) / 1024).toNat,true) else (0,false):=by
  by_cases h:rightC s n=true
  · refine⟨_,_,_,(part_five s n).trans (if_pos h),?_⟩
    obtain⟨S,N,rfl,rfl,b1,b2,b3,b4,b5⟩:=right_nat h
    have hb:=base_sixteen (s:=S) b3
    have he:endT S N=128+16*S+4*N:=rfl
    have hs:sizeT S N=baseT S N+1024*S:=rfl
    unfold inC
    simp only[Int.toNat_natCast]
    refine⟨by omega,by omega,?_⟩
    split
    · rename_i hc
      rw[if_pos (by omega)]
    · rename_i hc
      rw[if_neg (fun hh=>hc ⟨h,by omega,by omega⟩)]
  · refine⟨_,_,_,(part_five s n).trans (if_neg h),by omega,by omega,?_⟩
    rw[inC,if_neg (fun hh=>h hh.1),if_neg (by omega)]
set_option maxRecDepth 100000 in
theorem slab_any (s n i:Int) (w:World) (ht:Cls.Tab w) (s1 : -9223372036854775808≤s) (s2:s≤9223372036854775807) (n1 : -9223372036854775808≤n) (n2:n≤9223372036854775807) (i1 : -9223372036854775808≤i) (i2:i≤9223372036854775807) :
    Calls Tryz.prog 245 #[.agg #[.int .i64 s,.int .i64 n],.int .i64 i] w fun e w'=>e = .returned (.tuple #[.int .i64 (inC s n i).1,.bool (inC s n i).2])∧Below w.heap.size w w':=by
  obtain⟨P,hP,hl,HP⟩:=parts_on s n w ht s1 s2 n1 n2
  obtain⟨a,m,K,h5,ha2,hm2,hr⟩:=slab_bd s n i
  rw[←hP] at h5
  obtain⟨c1,c2,hlt1,hb⟩:=one_box (Below.refl (W1 w s n).heap.size (W1 w s n))
  unfold W1 at c1 c2 hlt1 hb
  have hix:=fun u=>index_part P hl 5 5 rfl (by decide) a m K h5 u
  have ha3:(a:Int)≤100000:=by omega
  have hm3:(m:Int)≤100000:=by omega
  by_cases h1:i<(a:Int)
  · rw[hr,if_neg (by omega)]
    clear ht s1 s2 n1 n2 hP hr h5 hl ha2 hm2
    go_enter Tryz.func245,Tryz.ntmps245
    go_wp2_with (go_at_call 180;refine(HP.out _ hb).mono ?_;rintro e w1 ⟨rfl,hw1⟩)
    go_ret2
    exact⟨rfl,hw1.alloc hw1.size _⟩
  · by_cases h2 : (a : Int) + (m : Int) ≤ i
    · rw[hr,if_neg (by omega)]
      clear ht s1 s2 n1 n2 hP hr h5 hl ha2 hm2
      go_enter Tryz.func245,Tryz.ntmps245
      go_wp2_with (go_at_call 180;refine(HP.out _ hb).mono ?_;rintro e w1 ⟨rfl,hw1⟩)
      go_ret2
      exact⟨rfl,hw1.alloc hw1.size _⟩
    · rw[hr,if_pos (by omega)]
      obtain⟨q,hq⟩:∃ q:Nat,(q:Int)=i-a:=⟨(i-a).toNat,by omega⟩
      rw[←hq]
      have hq1:=hq.symm
      have hqw:IntKind.i64.wrap (i-(a:Int))=(q:Int):=(wrap_id (by omega) (by omega)).trans hq1
      have hq2:(q:Int)≤100000:=by omega
      obtain⟨d,hd⟩:∃ d:Nat,(d:Int)=(q:Int) / 1024:=⟨((q:Int) / 1024).toNat,by omega⟩
      rw[←hd,Int.toNat_natCast]
      have hd1:=hd.symm
      have hd2:(d:Int)≤100000:=by omega
      clear ht s1 s2 n1 n2 hP hr h5 hl ha2 hm2 hq hd
      go_enter Tryz.func245,Tryz.ntmps245
      go_wp2_with (go_at_call 180;refine(HP.out _ hb).mono ?_;rintro e w1 ⟨rfl,hw1⟩)
      go_ret2
      exact⟨rfl,hw1.alloc hw1.size _⟩
end Go.Proofs.YtmgeiaglandedaaGreatDoor.Lay

namespace Go.Proofs.YtmgeiaglandedaaGreatDoor.Lay
open Go.RowKit
set_option linter.unusedVariables false
def keepT (P:List (Nat×Nat×Nat)) (k:Nat):List (Nat×Nat×Nat):=(P.take k).filter fun r=>decide (0<r.2.1)
theorem keepT_zero (P:List (Nat×Nat×Nat)):keepT P 0 = []:=by simp[keepT]
theorem keepT_succ (P:List (Nat×Nat×Nat)) (k:Nat) (h:k<P.length):keepT P (k+1)=if 0<(P.getD k (0,0,0)).2.1 then keepT P k ++ [P.getD k (0,0,0)] else keepT P k:=by
  have e:P.getD k (0,0,0)=P[k]:=by simp[List.getD,h]
  unfold keepT
  rw[e,List.take_succ_eq_append_getElem h,List.filter_append]
  split<;>simp_all
theorem keepT_length (P:List (Nat×Nat×Nat)) (k:Nat):(keepT P k).length≤k:=by
  have h1:=List.length_filter_le (fun r:Nat×Nat×Nat=>decide (0<r.2.1)) (P.take k)
  have h2:=List.length_take_le k P
  unfold keepT
  omega
theorem keepT_all (s n:Int):keepT (partC s n) 6=runsC s n:=by
  have hl:=partC_len s n
  unfold keepT
  rw[List.take_of_length_le (by omega)]
  by_cases h:rightC s n=true
  · rw[partC,if_pos h,runsC,if_pos h]
    obtain⟨S,N,rfl,rfl,b1,b2,b3,b4,b5⟩:=right_nat h
    rw[Int.toNat_natCast,Int.toNat_natCast]
    have hp:=pad_two (s:=S) b3
    have g1:0<S:=by omega
    have g2:0<N:=by omega
    have g3:S≠0:=by omega
    have g4:N≠0:=by omega
    rcases hp with⟨h1,h2⟩ | ⟨h1,h2⟩
    · simp[partT,runsT,h2,List.filter,g1,g2]
    · simp[partT,runsT,h2,List.filter,g1,g2]
  · rw[partC,if_neg h,runsC,if_neg h]
    rfl
def ROwn (w:World) (P:List (Nat×Nat×Nat)) (e:Ending) (w':World):Prop:=∃ u,e = .returned u∧Below w.heap.size w w'∧ARow 3 encR (0,0,0) w' u P∧∀ b o m c,u = .slice (some ⟨b,o,none⟩) m c→w.heap.size≤b
set_option maxRecDepth 100000 in
set_option maxHeartbeats 2000000 in
theorem runs_own (s n:Int) (w:World) (ht:Cls.Tab w) (s1 : -9223372036854775808≤s) (s2:s≤9223372036854775807) (n1 : -9223372036854775808≤n) (n2:n≤9223372036854775807) :
    Calls Tryz.prog 177 #[.agg #[.int .i64 s,.int .i64 n]] w (ROwn w (runsC s n)):=by
  obtain⟨i0,hi,hz0,hz1,hz2⟩:=info_parts infoRun
  obtain⟨P,hP,hl,HP⟩:=parts_on s n w ht s1 s2 n1 n2
  rw[←keepT_all s n,←hP]
  obtain⟨c1,c2,hlt1,hb⟩:=one_box (Below.refl (W1 w s n).heap.size (W1 w s n))
  unfold W1 at c1 c2 hlt1 hb
  have HI:=Lib.hid (fun(k:Nat) (hk:k<6) x1 x2 x3 he u=>index_part P hl (k:Int) k rfl hk x1 x2 x3 he u)
  clear ht s1 s2 n1 n2 hP
  go_enter Tryz.func177,Tryz.ntmps177
  go_wp2_with (go_at_call 180;refine(HP.out _ hb).mono ?_;rintro e w1 ⟨rfl,hw1⟩)
  go_loopw [3,8] (fun v i wr=>∃ (k:Nat) (K:List (Nat×Nat×Nat)),k≤6∧i = .int .i64 k∧Hid (K=keepT P k)∧Hid (wr.ownsRow w.heap.size 195 3 v K.length (valsA encR K))∧Hid (Below w.heap.size w wr)) (fun _ i _=>6-(intOf i).toNat)
  case atStart=>exact⟨0,[],Nat.zero_le _,rfl,(keepT_zero P).symm,⟨rfl,.inl ⟨rfl,rfl⟩⟩,hw1⟩
  case round =>
    obtain⟨k,K,hk,rfl,HK,HO,HB⟩:=hrel
    by_cases hlt:k<6
    · have hlt1:(k:Int)<6:=by omega
      have hsu:=keepT_succ P k (by omega)
      have hkl:=keepT_length P k
      obtain⟨x,hx⟩:∃ x,x=P.getD k (0,0,0):=⟨_,rfl⟩
      rw[←hx,←HK.out] at hsu
      rw[←HK.out] at hkl
      obtain⟨x1,x2,x3⟩:=x
      have hix:=HI.out k hlt x1 x2 x3 hx.symm
      by_cases hp:0<x2
      · have hp1:(0:Int)<(x2:Int):=by omega
        rw[if_pos hp] at hsu
        have HSU:=Lib.hid hsu
        clear hsu hx
        go_wp2_with (at_builtin;refine wpList_append_own _ rfl (.tmp 14) (.tmp 16) 206 rfl w.heap.size 195 i0 (.agg #[.int .i64 0,.int .i64 0,.int .i64 0]) 3 24 Tryz.underlying206 hi hz0 hz1 hz2 rfl (by decide) _ _ _ rfl ((HO.out.alloc _).alloc _) ⟨wr.heap.size+1,0,none⟩ 1 1 [.int .i64 (x1:Int),.int .i64 (x2:Int),.int .i64 (x3:Int)] rfl rfl (news_three_at _ _ (size_alloc _ _).symm _ _ _ _) (oneCell_three _ _ _) (by unfold maxLen;omega) (by omega) (by have:=HB.out.size;simp;omega) ?_)
        intro v3 w3 hown3 hgrow3 _
        have HB3:=Lib.hid (((HB.out.alloc HB.out.size (.cells #[.int .i64 (x1:Int),.int .i64 (x2:Int),.int .i64 (x3:Int)] 195)).alloc (le_alloc _ HB.out.size) (.cells #[.int .i64 (x1:Int),.int .i64 (x2:Int),.int .i64 (x3:Int)] 195)).grown hgrow3 (by have:=HB.out.size;simp;omega) (fun r hr=>(HO.out.lt r hr).1))
        have HO3:Hid (w3.ownsRow w.heap.size 195 3 v3 (K ++ [(x1,x2,x3)]).length (valsA encR (K ++ [(x1,x2,x3)]))):=by
          unfold Hid
          rw[valsA_snoc,List.length_append]
          exact hown3
        have HSU2:=Lib.hid HSU.out.symm
        clear hown3 hgrow3 HSU HO HB
        go_wp2
        go_roundw
        case rel=>exact⟨k+1,K ++ [(x1,x2,x3)],by omega,by go_num,HSU2,HO3,HB3⟩
        case measure=>simp[intOf];omega
      · have hp1:¬ (0:Int)<(x2:Int):=by omega
        rw[if_neg hp] at hsu
        have HSU:=Lib.hid hsu.symm
        have HO1:=Lib.hid (HO.out.alloc (.cells #[.int .i64 (x1:Int),.int .i64 (x2:Int),.int .i64 (x3:Int)] 195))
        have HB1:=Lib.hid (HB.out.alloc HB.out.size (.cells #[.int .i64 (x1:Int),.int .i64 (x2:Int),.int .i64 (x3:Int)] 195))
        clear hsu hx
        go_wp2
        go_roundw
        case rel=>exact⟨k+1,K,by omega,by go_num,HSU,HO1,HB1⟩
        case measure=>simp[intOf];omega
    · obtain rfl:k=6:=by omega
      go_wp2
      go_ret
      have:=HK.out
      subst this
      refine⟨_,rfl,HB.out,arow_of_owns encR_length _ HO.out rfl,?_⟩
      rintro b o m c rfl
      obtain⟨-,h2⟩:=HO.out
      rcases h2 with⟨h3,-⟩ | ⟨g,cap,cur,h3,hg,-⟩
      · cases h3
      · cases h3
        exact hg
end Go.Proofs.YtmgeiaglandedaaGreatDoor.Lay
