/- Contracts of num's small functions: isWidth, divides, placed, Fits, Halves, Round, and the document's. Contracts of num's Fits, split, join, and the document's Fits. Contracts of num's Load and of the document's. Contracts of num's Load, whatever it is given, and of the document's. Contracts of num's Store. Contracts of the document's Same and Store, and of what must come at any rate. Contract of the document's Store. Contract of the document's Store, whatever it is given, and the walk of the statement NumStores. The document's Store once more: what it answers lies in new memory (made out of XNumJ, XNumK). -/
import Derived.Test.YtmgeiaglandedaaGreatDoorRows
import Derived.WalkKit
import Derived.ProofKit
import Derived.Below
import Derived.Lib.Hide
import Derived.Deep.QuietTactic
import Derived.BigQuiet
import Derived.Outline
import Derived.Test.YtmgeiaglandedaaGreatDoorJ0
import Derived.IntWalk
namespace Go.Proofs.YtmgeiaglandedaaGreatDoor.Num
open Go.RowKit
set_option linter.unusedVariables false
def isW (w:Int):Bool:=w == 1 || w == 2 || w == 4 || w == 8
theorem ret_bool {a b:Bool} (h:a=b):Ending.returned (.bool a) = .returned (.bool b):=by rw[h]
theorem ret_int {k:IntKind} {a b:Int} (h:a=b):Ending.returned (.int k a) = .returned (.int k b):=by rw[h]
theorem isWidth_any (x:Int) (w:World) :
    Calls Tryz.prog 232 #[.int .i64 x] w fun e w'=>e = .returned (.bool (isW x))∧w=w':=by
  go_enter Tryz.func232,Tryz.ntmps232
  go_wp2
  all_goals
    go_ret
    exact⟨ret_bool (by simp[isW, *]),rfl⟩
theorem divides_any (d n:Int) (w:World) (h1:1≤d) (h0:0≤n) :
    Calls Tryz.prog 252 #[.int .i64 d,.int .i64 n] w fun e w'=>e = .returned (.bool (n % d == 0))∧w=w':=by
  go_enter Tryz.func252,Tryz.ntmps252
  go_wp2
  go_ret
  exact⟨rfl,rfl⟩
def plc (n at_ width:Int):Int:=if at_<0∨n-width<at_ then 6 else if at_ % width=0 then 0 else 9
theorem placed_any (n a x:Int) (w:World) (h1:1≤x) (h2:x≤8) (h0:0≤n) (hn:n≤9223372036854775807) :
    Calls Tryz.prog 233 #[.int .i64 n,.int .i64 a,.int .i64 x] w fun e w'=>e = .returned (.int .i64 (plc n a x))∧w=w':=by
  by_cases h:a<0
  · go_enter Tryz.func233,Tryz.ntmps233
    go_wp2
    go_ret
    exact⟨ret_int (by simp[plc,h]),rfl⟩
  · by_cases h3 : n - x < a
    · go_enter Tryz.func233,Tryz.ntmps233
      go_wp2
      go_ret
      exact⟨ret_int (by simp[plc,h3]),rfl⟩
    · have ha:0≤a:=by omega
      by_cases h4:a % x=0
      · have h5:(a % x == 0)=true:=by simpa using h4
        go_enter Tryz.func233,Tryz.ntmps233
        go_wp2_with (go_at_call 252;refine(divides_any x a _ h1 ha).mono ?_;rintro e w' ⟨rfl,rfl⟩;rw[h5])
        go_ret
        exact⟨ret_int (by unfold plc;rw[if_neg (by omega),if_pos h4]),rfl⟩
      · have h5:(a % x == 0)=false:=by simpa using h4
        go_enter Tryz.func233,Tryz.ntmps233
        go_wp2_with (go_at_call 252;refine(divides_any x a _ h1 ha).mono ?_;rintro e w' ⟨rfl,rfl⟩;rw[h5])
        go_ret
        exact⟨ret_int (by unfold plc;rw[if_neg (by omega),if_neg h4]),rfl⟩
theorem isW_bd {x:Int} (h:isW x=true):1≤x∧x≤8:=by simp[isW] at h;omega
end Go.Proofs.YtmgeiaglandedaaGreatDoor.Num

namespace Go.Proofs.YtmgeiaglandedaaGreatDoor.Num
open Go.RowKit
set_option linter.unusedVariables false
theorem isW_cases {x:Int} (h:isW x=true):x=1∨x=2∨x=4∨x=8:=by simp[isW] at h;omega
def fits (v x:Int):Bool:=isW x && decide (v<2 ^ (8*x.toNat))
theorem fits_1 (v:Int) (h0:0≤v):(v / 256 == 0)=fits v 1:=by
  rw[Bool.eq_iff_iff];simp[fits,isW];omega
theorem fits_2 (v:Int) (h0:0≤v):(v / 65536 == 0)=fits v 2:=by
  rw[Bool.eq_iff_iff];simp[fits,isW];omega
theorem fits_4 (v:Int) (h0:0≤v):(v / 4294967296 == 0)=fits v 4:=by
  rw[Bool.eq_iff_iff];simp[fits,isW];omega
theorem fits_8 (v:Int) (h0:0≤v):(v / 18446744073709551616 == 0)=fits v 8:=by
  rw[Bool.eq_iff_iff];simp[fits,isW];omega
theorem fits_any (v x:Int) (w:World) (h0:0≤v) (h1:v<18446744073709551616) :
    Calls Tryz.prog 181 #[.int .u64 v,.int .i64 x] w fun e w'=>e = .returned (.bool (fits v x))∧w=w':=by
  by_cases hw:isW x=true
  · rcases isW_cases hw with rfl | rfl | rfl | rfl
    all_goals
      have Hw:=Lib.hid hw
      clear hw
      go_enter Tryz.func181,Tryz.ntmps181
      go_wp2_with (go_at_call 232;refine(isWidth_any _ _).mono ?_;rintro e w' ⟨rfl,rfl⟩;rw[Hw.out])
      go_ret
    · exact⟨ret_bool (fits_1 v h0),rfl⟩
    · exact⟨ret_bool (fits_2 v h0),rfl⟩
    · exact⟨ret_bool (fits_4 v h0),rfl⟩
    · exact⟨ret_bool (fits_8 v h0),rfl⟩
  · have h:isW x=false:=by simpa using hw
    have Hw:=Lib.hid h
    clear hw h
    go_enter Tryz.func181,Tryz.ntmps181
    go_wp2_with (go_at_call 232;refine(isWidth_any _ _).mono ?_;rintro e w' ⟨rfl,rfl⟩;rw[Hw.out])
    go_ret
    exact⟨ret_bool (by rw[fits,Hw.out];rfl),rfl⟩
def le:List Int→Int
  | []=>0
  | b::r=>b+256*le r
theorem or_add (x y:Int) (k:Nat) (p:Int) (hp:p=2 ^ k) (h0:0≤x) (h1:x<p) (h2:0≤y) (h3:y*p+x<18446744073709551616):bits .or .u64 x (y*p)=x+y*p:=by
  obtain⟨a,rfl⟩:=Int.eq_ofNat_of_zero_le h0
  obtain⟨b,rfl⟩:=Int.eq_ofNat_of_zero_le h2
  have e:p=((2 ^ k:Nat):Int):=by rw[hp];norm_cast
  rw[e] at h1 h3 ⊢
  rw[←Int.natCast_mul] at h3 ⊢
  have g:a<2 ^ k:=by exact_mod_cast h1
  rw[u64_or_nat a (b*2 ^ k) (by omega) (by omega)]
  have f:=Nat.two_pow_add_eq_or_of_lt g b
  rw[Nat.or_comm,Nat.mul_comm,←f]
  omega
theorem join_le (b0 b1 b2 b3 b4 b5 b6 b7:Int) (h0:0≤b0∧b0<256) (h1:0≤b1∧b1<256) (h2:0≤b2∧b2<256) (h3:0≤b3∧b3<256)
    (h4:0≤b4∧b4<256) (h5:0≤b5∧b5<256) (h6:0≤b6∧b6<256) (h7:0≤b7∧b7<256) :
    (bits BinOp.or IntKind.u64 (bits BinOp.or IntKind.u64 (bits BinOp.or IntKind.u64 (bits BinOp.or IntKind.u64 (bits BinOp.or IntKind.u64
      (bits BinOp.or IntKind.u64 (bits BinOp.or IntKind.u64 (bits BinOp.or IntKind.u64 0 b0) (b1*256)) (b2*65536)) (b3*16777216)) (b4*4294967296))
        (b5*1099511627776)) (b6*281474976710656)) (b7*72057594037927936))=le [b0,b1,b2,b3,b4,b5,b6,b7]:=by
  have e0:bits BinOp.or IntKind.u64 0 b0=b0:=by
    have:=or_add 0 b0 0 1 (by simp) (by omega) (by omega) (by omega) (by omega)
    simpa using this
  rw[e0,or_add b0 b1 8 256 (by simp) (by omega) (by omega) (by omega) (by omega)]
  rw[or_add _ b2 16 65536 (by simp) (by omega) (by omega) (by omega) (by omega)]
  rw[or_add _ b3 24 16777216 (by simp) (by omega) (by omega) (by omega) (by omega)]
  rw[or_add _ b4 32 4294967296 (by simp) (by omega) (by omega) (by omega) (by omega)]
  rw[or_add _ b5 40 1099511627776 (by simp) (by omega) (by omega) (by omega) (by omega)]
  rw[or_add _ b6 48 281474976710656 (by simp) (by omega) (by omega) (by omega) (by omega)]
  rw[or_add _ b7 56 72057594037927936 (by simp) (by omega) (by omega) (by omega) (by omega)]
  simp only[le]
  omega
theorem join_any (b0 b1 b2 b3 b4 b5 b6 b7:Int) (w:World) (h0:0≤b0∧b0<256) (h1:0≤b1∧b1<256) (h2:0≤b2∧b2<256) (h3:0≤b3∧b3<256)
    (h4:0≤b4∧b4<256) (h5:0≤b5∧b5<256) (h6:0≤b6∧b6<256) (h7:0≤b7∧b7<256) :
    Calls Tryz.prog 234 #[.agg #[.int .u8 b0,.int .u8 b1,.int .u8 b2,.int .u8 b3,.int .u8 b4,.int .u8 b5,.int .u8 b6,.int .u8 b7]] w
      fun e w'=>e = .returned (.int .u64 (le [b0,b1,b2,b3,b4,b5,b6,b7]))∧Below w.heap.size w w':=by
  obtain⟨h0a,h0b⟩:=h0
  obtain⟨h1a,h1b⟩:=h1
  obtain⟨h2a,h2b⟩:=h2
  obtain⟨h3a,h3b⟩:=h3
  obtain⟨h4a,h4b⟩:=h4
  obtain⟨h5a,h5b⟩:=h5
  obtain⟨h6a,h6b⟩:=h6
  obtain⟨h7a,h7b⟩:=h7
  go_enter Tryz.func234,Tryz.ntmps234
  go_wp2
  refine wp_loop_rounds 9 ?_
  iterate 9 (rw[rounds_succ];go_wp2)
  go_ret
  exact⟨ret_int (join_le _ _ _ _ _ _ _ _ ⟨h0a,h0b⟩ ⟨h1a,h1b⟩ ⟨h2a,h2b⟩ ⟨h3a,h3b⟩ ⟨h4a,h4b⟩ ⟨h5a,h5b⟩ ⟨h6a,h6b⟩ ⟨h7a,h7b⟩),(Below.refl _ _).alloc (Nat.le_refl _) _⟩
theorem split_any (v:Int) (w:World) (h0:0≤v) (h1:v<18446744073709551616) :
    Calls Tryz.prog 235 #[.int .u64 v] w
      fun e w'=>e = .returned (.agg #[.int .u8 (v % 256),.int .u8 (v / 256 % 256),.int .u8 (v / 65536 % 256),.int .u8 (v / 16777216 % 256),.int .u8 (v / 4294967296 % 256),.int .u8 (v / 1099511627776 % 256),.int .u8 (v / 281474976710656 % 256),.int .u8 (v / 72057594037927936)])∧Below w.heap.size w w':=by
  go_enter Tryz.func235,Tryz.ntmps235
  go_wp2
  refine wp_loop_rounds 9 ?_
  iterate 9 (rw[rounds_succ];go_wp2)
  exact bodyPost_ret (v:=.agg #[.int .u8 (v % 256),.int .u8 (v / 256 % 256),.int .u8 (v / 65536 % 256),.int .u8 (v / 16777216 % 256),.int .u8 (v / 4294967296 % 256),.int .u8 (v / 1099511627776 % 256),.int .u8 (v / 281474976710656 % 256),.int .u8 (v / 72057594037927936)])
    (by simp[results,Tryz.results235,go_sem]) rfl ⟨rfl,((Below.refl _ _).alloc (Nat.le_refl _) _).alloc (by simp) _⟩
end Go.Proofs.YtmgeiaglandedaaGreatDoor.Num

namespace Go.Proofs.YtmgeiaglandedaaGreatDoor.Num
open Go.RowKit
set_option linter.unusedVariables false
theorem src_cells {w W:World} {b off at_:Nat} {l:List Int} (hcell:∀ i,i<l.length→w.cell? ⟨b,off+i,none⟩=some (.int .u8 (l.getD i 0)))
    (hW:∀ o,W.cell? ⟨b,o,none⟩=w.cell? ⟨b,o,none⟩) (cs:List Value) (hn:at_+cs.length≤l.length) (hcs:∀ j,j<cs.length→cs[j]? = some (.int .u8 (l.getD (at_+j) 0))) :
    ∀ j v,cs[j]? = some v→W.cell? ((⟨b,off+at_,none⟩:Addr).add j)=some v:=by
  intro j v hv
  have hj:j<cs.length:=by
    by_cases h:j<cs.length
    · exact h
    · rw[List.getElem?_eq_none (by omega)] at hv;cases hv
  rw[hcs j hj] at hv
  injection hv with hv
  subst hv
  have e:(⟨b,off+at_,none⟩:Addr).add j=⟨b,off+(at_+j),none⟩:=by unfold Addr.add;split<;>simp_all<;>omega
  rw[e,hW,hcell _ (by omega)]
theorem take_drop_cons (l:List Int) (a n:Nat) (h:a<l.length):(l.drop a).take (n+1)=l.getD a 0::(l.drop (a+1)).take n:=by
  rw[List.drop_eq_getElem_cons h,List.take_succ_cons]
  simp[List.getD,h]
theorem load_ok1 (b off cap:Nat) (l:List Int) (at_:Nat) (w:World) (hl:l.length≤cap) (hc:cap≤9223372036854775807)
    (hcell:∀ i,i<l.length→w.cell? ⟨b,off+i,none⟩=some (.int .u8 (l.getD i 0))) (hbd:∀ i,0≤l.getD i 0∧l.getD i 0<256)
    (hp:plc l.length at_ 1=0) (hat:at_+1≤l.length) (hblk:b<w.heap.size) :
    Calls Tryz.prog 182 #[.slice (some ⟨b,off,none⟩) l.length cap,.int .i64 at_,.int .i64 1] w
      fun e w'=>e = .returned (.tuple #[.int .u64 (le ((l.drop at_).take 1)),.int .i64 0])∧Below w.heap.size w w':=by
  have Hw:=Lib.hid (show isW 1=true by decide)
  have Hp:=Lib.hid hp
  clear hp
  have HC:=Lib.hid hcell
  clear hcell
  have HB:=Lib.hid hbd
  clear hbd
  have e1:¬ cap=at_:=by omega
  have e2:(0:Int)≤(at_:Int)+1:=by omega
  have e3:(at_:Int)+1≤(cap:Int):=by omega
  have e4:((at_:Int)+1).toNat=at_+1:=by omega
  have e5:IntKind.i64.wrap ((at_:Int)+1)=(at_:Int)+1:=IntWalk.i64_in _ (by omega)
  have HS:Hid (∀ j v,([.int .u8 (l.getD at_ 0)]:List Value)[j]? = some v→((w.alloc (.cells #[.int .u8 0,.int .u8 0,.int .u8 0,.int .u8 0,.int .u8 0,.int .u8 0,.int .u8 0,.int .u8 0] 252)).drew).cell? ((⟨b,off+at_,none⟩:Addr).add j)=some v):=by
    refine src_cells HC.out ?_ _ (by simpa using hat) ?_
    · intro o
      exact World.cell?_of_block (by show (w.heap.push _)[b]? = _;rw[Array.getElem?_push,if_neg (by omega)])
    · intro j hj
      match j,hj with
      | 0,_=>rfl
  go_enter Tryz.func182,Tryz.ntmps182
  go_wp2_with (first
    | (go_at_call 232;refine(isWidth_any _ _).mono ?_;rintro e w' ⟨rfl,rfl⟩;rw[Hw.out])
    | (go_at_call 233;refine(placed_any _ _ _ _ (by omega) (by omega) (by omega) (by omega)).mono ?_;rintro e w' ⟨rfl,rfl⟩;rw[Hp.out]))
  go_region_law (refine step_copy_row rfl (.tmp 21) (.tmp 27) 51 51 rfl 5 Tryz.underlying51 (by kernel_rfl) w.heap.size 0 8 8 ⟨b,off+at_,none⟩ 1 (cap-at_) (by simp[Act.eval,Act.put]) (by simp[Act.eval,Act.put]) #[.int .u8 0,.int .u8 0,.int .u8 0,.int .u8 0,.int .u8 0,.int .u8 0,.int .u8 0,.int .u8 0] 252 (heap_alloc_new w _) [.int .u8 (l.getD at_ 0)] (by simp) HS.out (by simp) (by simp[oneCell_int]) #[.int .u8 (l.getD at_ 0),.int .u8 0,.int .u8 0,.int .u8 0,.int .u8 0,.int .u8 0,.int .u8 0,.int .u8 0] (by simp) _ (setRow_alloc_drew _ _ _ _) ?_)
  clear e1 e2 e3 e4 e5
  go_wp2_with (go_at_call 234;refine(join_any (l.getD at_ 0) 0 0 0 0 0 0 0 _ (HB.out _) (by decide) (by decide) (by decide) (by decide) (by decide) (by decide) (by decide)).mono ?_;rintro e w' ⟨rfl,hb⟩)
  go_ret2
  refine⟨?_,?_⟩
  · have e:le ((l.drop at_).take 1)=le [l.getD at_ 0,0,0,0,0,0,0,0]:=by
      rw[take_drop_cons l at_ 0 (by omega),List.take_zero]
      simp only[le]<;>omega
    rw[e]
    rfl
  · exact(((Below.refl _ _).alloc (Nat.le_refl _) _).drew).trans (hb.mono (by simp))
theorem load_ok2 (b off cap:Nat) (l:List Int) (at_:Nat) (w:World) (hl:l.length≤cap) (hc:cap≤9223372036854775807)
    (hcell:∀ i,i<l.length→w.cell? ⟨b,off+i,none⟩=some (.int .u8 (l.getD i 0))) (hbd:∀ i,0≤l.getD i 0∧l.getD i 0<256)
    (hp:plc l.length at_ 2=0) (hat:at_+2≤l.length) (hblk:b<w.heap.size) :
    Calls Tryz.prog 182 #[.slice (some ⟨b,off,none⟩) l.length cap,.int .i64 at_,.int .i64 2] w
      fun e w'=>e = .returned (.tuple #[.int .u64 (le ((l.drop at_).take 2)),.int .i64 0])∧Below w.heap.size w w':=by
  have Hw:=Lib.hid (show isW 2=true by decide)
  have Hp:=Lib.hid hp
  clear hp
  have HC:=Lib.hid hcell
  clear hcell
  have HB:=Lib.hid hbd
  clear hbd
  have e1:¬ cap=at_:=by omega
  have e2:(0:Int)≤(at_:Int)+2:=by omega
  have e3:(at_:Int)+2≤(cap:Int):=by omega
  have e4:((at_:Int)+2).toNat=at_+2:=by omega
  have e5:IntKind.i64.wrap ((at_:Int)+2)=(at_:Int)+2:=IntWalk.i64_in _ (by omega)
  have HS:Hid (∀ j v,([.int .u8 (l.getD at_ 0),.int .u8 (l.getD (at_+1) 0)]:List Value)[j]? = some v→((w.alloc (.cells #[.int .u8 0,.int .u8 0,.int .u8 0,.int .u8 0,.int .u8 0,.int .u8 0,.int .u8 0,.int .u8 0] 252)).drew).cell? ((⟨b,off+at_,none⟩:Addr).add j)=some v):=by
    refine src_cells HC.out ?_ _ (by simpa using hat) ?_
    · intro o
      exact World.cell?_of_block (by show (w.heap.push _)[b]? = _;rw[Array.getElem?_push,if_neg (by omega)])
    · intro j hj
      match j,hj with
      | 0,_=>rfl
      | 1,_=>rfl
  go_enter Tryz.func182,Tryz.ntmps182
  go_wp2_with (first
    | (go_at_call 232;refine(isWidth_any _ _).mono ?_;rintro e w' ⟨rfl,rfl⟩;rw[Hw.out])
    | (go_at_call 233;refine(placed_any _ _ _ _ (by omega) (by omega) (by omega) (by omega)).mono ?_;rintro e w' ⟨rfl,rfl⟩;rw[Hp.out]))
  go_region_law (refine step_copy_row rfl (.tmp 21) (.tmp 27) 51 51 rfl 5 Tryz.underlying51 (by kernel_rfl) w.heap.size 0 8 8 ⟨b,off+at_,none⟩ 2 (cap-at_) (by simp[Act.eval,Act.put]) (by simp[Act.eval,Act.put]) #[.int .u8 0,.int .u8 0,.int .u8 0,.int .u8 0,.int .u8 0,.int .u8 0,.int .u8 0,.int .u8 0] 252 (heap_alloc_new w _) [.int .u8 (l.getD at_ 0),.int .u8 (l.getD (at_+1) 0)] (by simp) HS.out (by simp) (by simp[oneCell_int]) #[.int .u8 (l.getD at_ 0),.int .u8 (l.getD (at_+1) 0),.int .u8 0,.int .u8 0,.int .u8 0,.int .u8 0,.int .u8 0,.int .u8 0] (by simp) _ (setRow_alloc_drew _ _ _ _) ?_)
  clear e1 e2 e3 e4 e5
  go_wp2_with (go_at_call 234;refine(join_any (l.getD at_ 0) (l.getD (at_+1) 0) 0 0 0 0 0 0 _ (HB.out _) (HB.out _) (by decide) (by decide) (by decide) (by decide) (by decide) (by decide)).mono ?_;rintro e w' ⟨rfl,hb⟩)
  go_ret2
  refine⟨?_,?_⟩
  · have e:le ((l.drop at_).take 2)=le [l.getD at_ 0,l.getD (at_+1) 0,0,0,0,0,0,0]:=by
      rw[take_drop_cons l at_ 1 (by omega),take_drop_cons l (at_+1) 0 (by omega),List.take_zero]
      simp only[le]<;>omega
    rw[e]
    rfl
  · exact(((Below.refl _ _).alloc (Nat.le_refl _) _).drew).trans (hb.mono (by simp))
theorem load_ok4 (b off cap:Nat) (l:List Int) (at_:Nat) (w:World) (hl:l.length≤cap) (hc:cap≤9223372036854775807)
    (hcell:∀ i,i<l.length→w.cell? ⟨b,off+i,none⟩=some (.int .u8 (l.getD i 0))) (hbd:∀ i,0≤l.getD i 0∧l.getD i 0<256)
    (hp:plc l.length at_ 4=0) (hat:at_+4≤l.length) (hblk:b<w.heap.size) :
    Calls Tryz.prog 182 #[.slice (some ⟨b,off,none⟩) l.length cap,.int .i64 at_,.int .i64 4] w
      fun e w'=>e = .returned (.tuple #[.int .u64 (le ((l.drop at_).take 4)),.int .i64 0])∧Below w.heap.size w w':=by
  have Hw:=Lib.hid (show isW 4=true by decide)
  have Hp:=Lib.hid hp
  clear hp
  have HC:=Lib.hid hcell
  clear hcell
  have HB:=Lib.hid hbd
  clear hbd
  have e1:¬ cap=at_:=by omega
  have e2:(0:Int)≤(at_:Int)+4:=by omega
  have e3:(at_:Int)+4≤(cap:Int):=by omega
  have e4:((at_:Int)+4).toNat=at_+4:=by omega
  have e5:IntKind.i64.wrap ((at_:Int)+4)=(at_:Int)+4:=IntWalk.i64_in _ (by omega)
  have HS:Hid (∀ j v,([.int .u8 (l.getD at_ 0),.int .u8 (l.getD (at_+1) 0),.int .u8 (l.getD (at_+2) 0),.int .u8 (l.getD (at_+3) 0)]:List Value)[j]? = some v→((w.alloc (.cells #[.int .u8 0,.int .u8 0,.int .u8 0,.int .u8 0,.int .u8 0,.int .u8 0,.int .u8 0,.int .u8 0] 252)).drew).cell? ((⟨b,off+at_,none⟩:Addr).add j)=some v):=by
    refine src_cells HC.out ?_ _ (by simpa using hat) ?_
    · intro o
      exact World.cell?_of_block (by show (w.heap.push _)[b]? = _;rw[Array.getElem?_push,if_neg (by omega)])
    · intro j hj
      match j,hj with
      | 0,_=>rfl
      | 1,_=>rfl
      | 2,_=>rfl
      | 3,_=>rfl
  go_enter Tryz.func182,Tryz.ntmps182
  go_wp2_with (first
    | (go_at_call 232;refine(isWidth_any _ _).mono ?_;rintro e w' ⟨rfl,rfl⟩;rw[Hw.out])
    | (go_at_call 233;refine(placed_any _ _ _ _ (by omega) (by omega) (by omega) (by omega)).mono ?_;rintro e w' ⟨rfl,rfl⟩;rw[Hp.out]))
  go_region_law (refine step_copy_row rfl (.tmp 21) (.tmp 27) 51 51 rfl 5 Tryz.underlying51 (by kernel_rfl) w.heap.size 0 8 8 ⟨b,off+at_,none⟩ 4 (cap-at_) (by simp[Act.eval,Act.put]) (by simp[Act.eval,Act.put]) #[.int .u8 0,.int .u8 0,.int .u8 0,.int .u8 0,.int .u8 0,.int .u8 0,.int .u8 0,.int .u8 0] 252 (heap_alloc_new w _) [.int .u8 (l.getD at_ 0),.int .u8 (l.getD (at_+1) 0),.int .u8 (l.getD (at_+2) 0),.int .u8 (l.getD (at_+3) 0)] (by simp) HS.out (by simp) (by simp[oneCell_int]) #[.int .u8 (l.getD at_ 0),.int .u8 (l.getD (at_+1) 0),.int .u8 (l.getD (at_+2) 0),.int .u8 (l.getD (at_+3) 0),.int .u8 0,.int .u8 0,.int .u8 0,.int .u8 0] (by simp) _ (setRow_alloc_drew _ _ _ _) ?_)
  clear e1 e2 e3 e4 e5
  go_wp2_with (go_at_call 234;refine(join_any (l.getD at_ 0) (l.getD (at_+1) 0) (l.getD (at_+2) 0) (l.getD (at_+3) 0) 0 0 0 0 _ (HB.out _) (HB.out _) (HB.out _) (HB.out _) (by decide) (by decide) (by decide) (by decide)).mono ?_;rintro e w' ⟨rfl,hb⟩)
  go_ret2
  refine⟨?_,?_⟩
  · have e:le ((l.drop at_).take 4)=le [l.getD at_ 0,l.getD (at_+1) 0,l.getD (at_+2) 0,l.getD (at_+3) 0,0,0,0,0]:=by
      rw[take_drop_cons l at_ 3 (by omega),take_drop_cons l (at_+1) 2 (by omega),take_drop_cons l (at_+2) 1 (by omega),take_drop_cons l (at_+3) 0 (by omega),List.take_zero]
      simp only[le]<;>omega
    rw[e]
    rfl
  · exact(((Below.refl _ _).alloc (Nat.le_refl _) _).drew).trans (hb.mono (by simp))
theorem load_ok8 (b off cap:Nat) (l:List Int) (at_:Nat) (w:World) (hl:l.length≤cap) (hc:cap≤9223372036854775807)
    (hcell:∀ i,i<l.length→w.cell? ⟨b,off+i,none⟩=some (.int .u8 (l.getD i 0))) (hbd:∀ i,0≤l.getD i 0∧l.getD i 0<256)
    (hp:plc l.length at_ 8=0) (hat:at_+8≤l.length) (hblk:b<w.heap.size) :
    Calls Tryz.prog 182 #[.slice (some ⟨b,off,none⟩) l.length cap,.int .i64 at_,.int .i64 8] w
      fun e w'=>e = .returned (.tuple #[.int .u64 (le ((l.drop at_).take 8)),.int .i64 0])∧Below w.heap.size w w':=by
  have Hw:=Lib.hid (show isW 8=true by decide)
  have Hp:=Lib.hid hp
  clear hp
  have HC:=Lib.hid hcell
  clear hcell
  have HB:=Lib.hid hbd
  clear hbd
  have e1:¬ cap=at_:=by omega
  have e2:(0:Int)≤(at_:Int)+8:=by omega
  have e3:(at_:Int)+8≤(cap:Int):=by omega
  have e4:((at_:Int)+8).toNat=at_+8:=by omega
  have e5:IntKind.i64.wrap ((at_:Int)+8)=(at_:Int)+8:=IntWalk.i64_in _ (by omega)
  have HS:Hid (∀ j v,([.int .u8 (l.getD at_ 0),.int .u8 (l.getD (at_+1) 0),.int .u8 (l.getD (at_+2) 0),.int .u8 (l.getD (at_+3) 0),.int .u8 (l.getD (at_+4) 0),.int .u8 (l.getD (at_+5) 0),.int .u8 (l.getD (at_+6) 0),.int .u8 (l.getD (at_+7) 0)]:List Value)[j]? = some v→((w.alloc (.cells #[.int .u8 0,.int .u8 0,.int .u8 0,.int .u8 0,.int .u8 0,.int .u8 0,.int .u8 0,.int .u8 0] 252)).drew).cell? ((⟨b,off+at_,none⟩:Addr).add j)=some v):=by
    refine src_cells HC.out ?_ _ (by simpa using hat) ?_
    · intro o
      exact World.cell?_of_block (by show (w.heap.push _)[b]? = _;rw[Array.getElem?_push,if_neg (by omega)])
    · intro j hj
      match j,hj with
      | 0,_=>rfl
      | 1,_=>rfl
      | 2,_=>rfl
      | 3,_=>rfl
      | 4,_=>rfl
      | 5,_=>rfl
      | 6,_=>rfl
      | 7,_=>rfl
  go_enter Tryz.func182,Tryz.ntmps182
  go_wp2_with (first
    | (go_at_call 232;refine(isWidth_any _ _).mono ?_;rintro e w' ⟨rfl,rfl⟩;rw[Hw.out])
    | (go_at_call 233;refine(placed_any _ _ _ _ (by omega) (by omega) (by omega) (by omega)).mono ?_;rintro e w' ⟨rfl,rfl⟩;rw[Hp.out]))
  go_region_law (refine step_copy_row rfl (.tmp 21) (.tmp 27) 51 51 rfl 5 Tryz.underlying51 (by kernel_rfl) w.heap.size 0 8 8 ⟨b,off+at_,none⟩ 8 (cap-at_) (by simp[Act.eval,Act.put]) (by simp[Act.eval,Act.put]) #[.int .u8 0,.int .u8 0,.int .u8 0,.int .u8 0,.int .u8 0,.int .u8 0,.int .u8 0,.int .u8 0] 252 (heap_alloc_new w _) [.int .u8 (l.getD at_ 0),.int .u8 (l.getD (at_+1) 0),.int .u8 (l.getD (at_+2) 0),.int .u8 (l.getD (at_+3) 0),.int .u8 (l.getD (at_+4) 0),.int .u8 (l.getD (at_+5) 0),.int .u8 (l.getD (at_+6) 0),.int .u8 (l.getD (at_+7) 0)] (by simp) HS.out (by simp) (by simp[oneCell_int]) #[.int .u8 (l.getD at_ 0),.int .u8 (l.getD (at_+1) 0),.int .u8 (l.getD (at_+2) 0),.int .u8 (l.getD (at_+3) 0),.int .u8 (l.getD (at_+4) 0),.int .u8 (l.getD (at_+5) 0),.int .u8 (l.getD (at_+6) 0),.int .u8 (l.getD (at_+7) 0)] (by simp) _ (setRow_alloc_drew _ _ _ _) ?_)
  clear e1 e2 e3 e4 e5
  go_wp2_with (go_at_call 234;refine(join_any (l.getD at_ 0) (l.getD (at_+1) 0) (l.getD (at_+2) 0) (l.getD (at_+3) 0) (l.getD (at_+4) 0) (l.getD (at_+5) 0) (l.getD (at_+6) 0) (l.getD (at_+7) 0) _ (HB.out _) (HB.out _) (HB.out _) (HB.out _) (HB.out _) (HB.out _) (HB.out _) (HB.out _)).mono ?_;rintro e w' ⟨rfl,hb⟩)
  go_ret2
  refine⟨?_,?_⟩
  · have e:le ((l.drop at_).take 8)=le [l.getD at_ 0,l.getD (at_+1) 0,l.getD (at_+2) 0,l.getD (at_+3) 0,l.getD (at_+4) 0,l.getD (at_+5) 0,l.getD (at_+6) 0,l.getD (at_+7) 0]:=by
      rw[take_drop_cons l at_ 7 (by omega),take_drop_cons l (at_+1) 6 (by omega),take_drop_cons l (at_+2) 5 (by omega),take_drop_cons l (at_+3) 4 (by omega),take_drop_cons l (at_+4) 3 (by omega),take_drop_cons l (at_+5) 2 (by omega),take_drop_cons l (at_+6) 1 (by omega),take_drop_cons l (at_+7) 0 (by omega),List.take_zero]
    rw[e]
    rfl
  · exact(((Below.refl _ _).alloc (Nat.le_refl _) _).drew).trans (hb.mono (by simp))
end Go.Proofs.YtmgeiaglandedaaGreatDoor.Num

namespace Go.Proofs.YtmgeiaglandedaaGreatDoor.Num
open Go.RowKit
set_option linter.unusedVariables false
def ldv (l:List Int) (a x:Int):Int×Int :=
  if isW x then (if plc l.length a x=0 then (le ((l.drop a.toNat).take x.toNat),0) else (0,plc l.length a x)) else (0,2)
theorem plc_ok {n a x:Int} (h:plc n a x=0):0≤a∧a≤n-x∧a % x=0:=by
  unfold plc at h
  split at h
  · omega
  · split at h
    · omega
    · omega
theorem load_any (v:Value) (a x:Int) (l:List Int) (w:World) (hr:Row .u8 w v l) :
    Calls Tryz.prog 182 #[v,.int .i64 a,.int .i64 x] w
      fun e w'=>e = .returned (.tuple #[.int .u64 (ldv l a x).1,.int .i64 (ldv l a x).2])∧Below w.heap.size w w':=by
  have hby:=hr.bytes
  obtain⟨ad,cap,rfl,h2,h3,h4,h5⟩:=hr
  by_cases hw:isW x=true
  · obtain⟨b1,b2⟩:=isW_bd hw
    by_cases hp:plc l.length a x=0
    · obtain⟨p1,p2,p3⟩:=plc_ok hp
      obtain⟨b,off,rfl,hlt,hc⟩:=h5 (by rintro rfl;simp at p2;omega)
      obtain⟨n,rfl⟩:=Int.eq_ofNat_of_zero_le p1
      have e:ldv l n x=(le ((l.drop n).take x.toNat),0):=by simp[ldv,hw,hp]
      rw[e]
      rcases isW_cases hw with rfl | rfl | rfl | rfl
      · exact load_ok1 b off cap l n w h2 h3 hc hby hp (by omega) hlt
      · exact load_ok2 b off cap l n w h2 h3 hc hby hp (by omega) hlt
      · exact load_ok4 b off cap l n w h2 h3 hc hby hp (by omega) hlt
      · exact load_ok8 b off cap l n w h2 h3 hc hby hp (by omega) hlt
    · have e:ldv l a x=(0,plc l.length a x):=by simp[ldv,hw,hp]
      rw[e]
      have Hw:=Lib.hid hw
      clear hw h5 h4 hby e
      obtain⟨p,hpp⟩:∃ p,p=plc l.length a x:=⟨_,rfl⟩
      rw[←hpp] at hp ⊢
      have Hp:=Lib.hid hpp.symm
      have hne:(p == 0)=false:=by simpa using hp
      clear hpp hp
      go_enter Tryz.func182,Tryz.ntmps182
      go_wp2_with (first
        | (go_at_call 232;refine(isWidth_any _ _).mono ?_;rintro e w' ⟨rfl,rfl⟩;rw[Hw.out])
        | (go_at_call 233;refine(placed_any _ _ _ _ (by omega) (by omega) (by omega) (by omega)).mono ?_;rintro e w' ⟨rfl,rfl⟩;rw[Hp.out]))
      go_ret2
      exact⟨rfl,Below.refl _ _⟩
  · have h:isW x=false:=by simpa using hw
    have e:ldv l a x=(0,2):=by simp[ldv,h]
    rw[e]
    have Hw:=Lib.hid h
    clear hw h h5 h4 hby e
    go_enter Tryz.func182,Tryz.ntmps182
    go_wp2_with (first
      | (go_at_call 232;refine(isWidth_any _ _).mono ?_;rintro e w' ⟨rfl,rfl⟩;rw[Hw.out]))
    go_ret2
    exact⟨rfl,Below.refl _ _⟩
theorem le_cons (b:Int) (r:List Int):le (b::r)=b+256*le r:=rfl
theorem le_bd:∀ (l:List Int),(∀ i,0≤l.getD i 0∧l.getD i 0<256)→0≤le l∧le l<256 ^ l.length:=by
  intro l
  induction l with
  | nil=>intro _;simp[le]
  | cons b r ih =>
    intro h
    have h0:=h 0
    have hr:=ih (fun i=>by have:=h (i+1);simpa using this)
    simp only[List.getD_cons_zero] at h0
    rw[le_cons,List.length_cons,Int.pow_succ]
    omega
theorem drop_getD (l:List Int) (n i:Nat):(l.drop n).getD i 0=l.getD (n+i) 0:=by simp[List.getD]
theorem take_getD (l:List Int) (n i:Nat) (h:i<n):(l.take n).getD i 0=l.getD i 0:=by simp[List.getD,h]
end Go.Proofs.YtmgeiaglandedaaGreatDoor.Num

namespace Go.Proofs.YtmgeiaglandedaaGreatDoor.Num
open Go.RowKit
set_option linter.unusedVariables false
def parts (v:Int):List Int := [v % 256,v / 256 % 256,v / 65536 % 256,v / 16777216 % 256,v / 4294967296 % 256,v / 1099511627776 % 256,v / 281474976710656 % 256,v / 72057594037927936]
def stl (l:List Int) (a x:Nat) (v:Int):List Int:=l.take a++((parts v).take x++l.drop (a+x))
def ste (l:List Int) (a x v:Int):Int:=if fits v x then plc l.length a x else 2
theorem parts_length (v:Int):(parts v).length=8:=rfl
theorem parts_bd (v:Int) (h0:0≤v) (h1:v<18446744073709551616):∀ i,0≤(parts v).getD i 0∧(parts v).getD i 0<256:=by
  intro i
  match i with
  | 0=>simp[parts];omega
  | 1=>simp[parts];omega
  | 2=>simp[parts];omega
  | 3=>simp[parts];omega
  | 4=>simp[parts];omega
  | 5=>simp[parts];omega
  | 6=>simp[parts];omega
  | 7=>simp[parts];omega
  | j+8=>simp[parts]
theorem stl_length (l:List Int) (a x:Nat) (v:Int) (h:a+x≤l.length) (hx:x≤8):(stl l a x v).length=l.length:=by
  simp[stl,parts_length];omega
def vals (l:List Int):List Value:=l.map (.int .u8)
theorem vals_length (l:List Int):(vals l).length=l.length:=by simp[vals]
theorem vals_get (l:List Int) (j:Nat) (h:j<l.length):(vals l)[j]? = some (.int .u8 (l.getD j 0)):=by simp[vals,h,List.getD]
theorem vals_oneCell (l:List Int):∀ u∈vals l,u.oneCell'=true:=by
  intro u hu
  obtain⟨x,_,rfl⟩:=List.mem_map.1 hu
  rfl
theorem src_vals {w W:World} {b off at_:Nat} {l:List Int} (hcell:∀ i,i<l.length→w.cell? ⟨b,off+i,none⟩=some (.int .u8 (l.getD i 0)))
    (hW:∀ o,W.cell? ⟨b,o,none⟩=w.cell? ⟨b,o,none⟩) (n:Nat) (hn:at_+n≤l.length) :
    ∀ j v,(vals ((l.drop at_).take n))[j]? = some v→W.cell? ((⟨b,off+at_,none⟩:Addr).add j)=some v:=by
  have hlen:((l.drop at_).take n).length=n:=by simp;omega
  refine src_cells hcell hW _ (by rw[vals_length,hlen];exact hn) ?_
  intro j hj
  rw[vals_length,hlen] at hj
  rw[vals_get _ _ (by omega),take_getD _ _ _ hj,drop_getD]
theorem infoU8:(Tryz.prog.info? 5).map (fun i=>(i.zero,i.size,i.bytes))=some (some (.int .u8 0),1,1):=by kernel_rfl
set_option maxRecDepth 100000 in
theorem store_ok (b off cap:Nat) (l:List Int) (m n:Nat) (v:Int) (w:World) (hl:l.length≤cap) (hc:cap≤9223372036854775807) (hlen:l.length≤281474976710656)
    (hcell:∀ i,i<l.length→w.cell? ⟨b,off+i,none⟩=some (.int .u8 (l.getD i 0))) (hblk:b<w.heap.size)
    (h0:0≤v) (h1:v<18446744073709551616) (hf:fits v n=true) (hx1:1≤n) (hx2:n≤8) (hp:plc l.length m n=0) (hat:m+n≤l.length) :
    Calls Tryz.prog 183 #[.slice (some ⟨b,off,none⟩) l.length cap,.int .i64 m,.int .i64 n,.int .u64 v] w
      fun e w'=>e = .returned (.tuple #[.slice (some ⟨w.heap.size,0,none⟩) l.length l.length,.int .i64 0])∧Below w.heap.size w w'∧w'.heap[w.heap.size]? = some (.cells (vals (stl l m n v)).toArray 5 (0,0)):=by
  have Hf:=Lib.hid hf
  have Hp:=Lib.hid hp
  have HC:=Lib.hid hcell
  clear hf hp hcell
  obtain⟨i0,hi,hz0,hz1,hz2⟩:=info_parts infoU8
  have HS1:Hid (∀ j v,(vals l)[j]? = some v→(w.alloc (.cells (madeCells #[.int .u8 0] l.length) 5)).cell? ((⟨b,off,none⟩:Addr).add j)=some v):=by
    have:=src_vals (w:=w) (W:=w.alloc (.cells (madeCells #[.int .u8 0] l.length) 5)) (b:=b) (off:=off) (at_:=0) (l:=l) HC.out (fun o=>World.cell?_of_block (by show (w.heap.push _)[b]? = _;rw[Array.getElem?_push,if_neg (by omega)])) l.length (by omega)
    unfold Hid
    simpa using this
  have hrow1:((madeCells #[.int .u8 0] l.length).toList.take 0++(vals l++(madeCells #[.int .u8 0] l.length).toList.drop (0+(vals l).length))).toArray=(vals l).toArray:=by
    have:(madeCells #[Value.int .u8 0] l.length).toList.length=l.length:=by simp[size_madeCells1]
    rw[List.drop_eq_nil_of_le (by rw[this,vals_length];omega)]
    simp
  have Hrow1:=Lib.hid hrow1
  clear hrow1
  have hsz1:0+(vals l).length≤(madeCells #[Value.int .u8 0] l.length).size:=by rw[vals_length,size_madeCells1];omega
  have hn1:Hid ((vals l).length=Nat.min l.length l.length):=by unfold Hid;rw[vals_length];simp
  go_enter Tryz.func183,Tryz.ntmps183
  go_wp2_with (first
    | (go_at_call 181;refine(fits_any _ _ _ h0 h1).mono ?_;rintro e w' ⟨rfl,rfl⟩;rw[Hf.out])
    | (go_at_call 233;refine(placed_any _ _ _ _ (by omega) (by omega) (by omega) (by omega)).mono ?_;rintro e w' ⟨rfl,rfl⟩;rw[Hp.out])
    | (refine wpList_make_row rfl (.tmp 26) (.tmp 26) 51 rfl 5 i0 (.int .u8 0) 1 Tryz.underlying51 hi hz0 hz1 hz2 .i64 .i64 l.length rfl rfl (by omega) (by omega) ?_)
    | (refine wpList_copy_row rfl (.tmp 28) (.tmp 29) 51 51 rfl 5 Tryz.underlying51 (by kernel_rfl) w.heap.size 0 l.length l.length ⟨b,off,none⟩ l.length cap rfl rfl (madeCells #[.int .u8 0] l.length) 5 (heap_alloc_new w _) (vals l) hn1.out HS1.out hsz1 (vals_oneCell l) (vals l).toArray Hrow1.out _ (setRow_alloc _ _ _ _) ?_)
    | (go_at_call 235;refine(split_any v _ h0 h1).mono ?_;rintro e w1 ⟨rfl,hb1⟩))
  have hg1:w1.heap[w.heap.size]? = some (.cells (vals l).toArray 5 (0,0)):=(hb1.block _ (by simp)).trans (heap_alloc_new w _)
  have hsz:w.heap.size<w1.heap.size:=by have:=hb1.size;simp at this;omega
  have HG:Hid (((w1.alloc (.cells (vals (parts v)).toArray 252)).drew).heap[w.heap.size]? = some (.cells (vals l).toArray 5 (0,0))):=by
    unfold Hid
    rw[←hg1]
    exact heap_alloc_old w1 _ hsz
  have hlp:((parts v).take n).length=n:=by simp[parts_length];omega
  have HS2:Hid (∀ j u,(vals ((parts v).take n))[j]? = some u→((w1.alloc (.cells (vals (parts v)).toArray 252)).drew).cell? ((⟨w1.heap.size,0,none⟩:Addr).add j)=some u):=by
    intro j u hu
    have hj:j<n:=by
      by_cases h:j<n
      · exact h
      · rw[List.getElem?_eq_none (by rw[vals_length,hlp];omega)] at hu;cases hu
    rw[vals_get _ _ (by omega),take_getD _ _ _ hj] at hu
    show (w1.alloc (.cells (vals (parts v)).toArray 252)).cell? _=_
    rw[Addr_add,Nat.zero_add,cell_block (c:=(vals (parts v)).toArray) (e:=252) (f:=(0,0)) (heap_alloc_new w1 _),←hu,List.getElem?_toArray,vals_get _ _ (by rw[parts_length];omega)]
  have hn2:Hid ((vals ((parts v).take n)).length=Nat.min n (l.length-m)):=by
    unfold Hid
    rw[vals_length,hlp]
    exact(Nat.min_eq_left (by omega)).symm
  have hfit2:m+(vals ((parts v).take n)).length≤(vals l).toArray.size:=by
    rw[vals_length,hlp,List.size_toArray,vals_length];omega
  have Hrow2:Hid (((vals l).toArray.toList.take m++(vals ((parts v).take n)++(vals l).toArray.toList.drop (m+(vals ((parts v).take n)).length))).toArray=(vals (stl l m n v)).toArray):=by
    unfold Hid
    rw[vals_length,hlp]
    simp[vals,stl]
  clear hlp hg1
  have e1:¬ l.length=m:=by omega
  have e2:(0:Int)≤(m:Int):=by omega
  have e3:(m:Int)≤(l.length:Int):=by omega
  have e4:(0:Int)≤(n:Int):=by omega
  have e5:(n:Int)≤8:=by omega
  go_region_law (refine step_copy_row rfl (.tmp 35) (.tmp 37) 51 51 rfl 5 Tryz.underlying51 (by kernel_rfl) w.heap.size m (l.length-m) (l.length-m) ⟨w1.heap.size,0,none⟩ n 8 (by simp[Act.eval,Act.put]) (by simp[Act.eval,Act.put]) (vals l).toArray 5 HG.out (vals ((parts v).take n)) hn2.out HS2.out hfit2 (vals_oneCell _) (vals (stl l m n v)).toArray Hrow2.out _ rfl ?_)
  clear e1 e2 e3 e4 e5
  go_wp2
  go_ret2
  refine⟨rfl,?_,?_⟩
  · refine below_setRow ?_ (Nat.le_refl _) _
    exact(((((Below.refl _ _).alloc (Nat.le_refl _) _).trans (hb1.mono (by simp))).alloc (by omega) _).drew)
  · exact setRow_heap _ _ _ _ _ _ HG.out
def Stored (w:World) (l:List Int) (a x v:Int) (e:Ending) (w':World):Prop :=
  ∃ u,e = .returned (.tuple #[u,.int .i64 (ste l a x v)])∧Below w.heap.size w w'∧Row .u8 w' u (if ste l a x v=0 then stl l a.toNat x.toNat v else [])
theorem row_of_block {w:World} {g:Nat} {l:List Int} {t:TypeId} (h:w.heap[g]? = some (.cells (vals l).toArray t (0,0))) (hb:∀ i,0≤l.getD i 0∧l.getD i 0<256) (hl:l.length≤9223372036854775807) :
    Row .u8 w (.slice (some ⟨g,0,none⟩) l.length l.length) l:=by
  refine⟨_,_,rfl,Nat.le_refl _,hl,fun i hi=>?_,fun _=>⟨g,0,rfl,?_,fun i hi=>?_⟩⟩
  · have:=hb i;exact WalkArith.wf_u8 (by omega)
  · exact(Array.getElem?_eq_some_iff.1 h).1
  · rw[Nat.zero_add,cell_block h,List.getElem?_toArray,vals_get _ _ hi]
theorem stl_bd (l:List Int) (a x:Nat) (v:Int) (h0:0≤v) (h1:v<18446744073709551616) (hl:∀ i,0≤l.getD i 0∧l.getD i 0<256):∀ i,0≤(stl l a x v).getD i 0∧(stl l a x v).getD i 0<256:=by
  have key:∀ u,u∈stl l a x v→0≤u∧u<256:=by
    intro u hu
    have mem:∀ (L:List Int),(∀ i,0≤L.getD i 0∧L.getD i 0<256)→u∈L→0≤u∧u<256:=by
      intro L hL hm
      obtain⟨i,hi,rfl⟩:=List.getElem_of_mem hm
      have:=hL i
      simpa[List.getD,hi] using this
    simp only[stl,List.mem_append] at hu
    rcases hu with hu | hu | hu
    · exact mem l hl (List.mem_of_mem_take hu)
    · exact mem _ (parts_bd v h0 h1) (List.mem_of_mem_take hu)
    · exact mem l hl (List.mem_of_mem_drop hu)
  intro i
  by_cases hi:i<(stl l a x v).length
  · have:=key _ (List.getElem_mem hi)
    simpa[List.getD,hi] using this
  · simp[List.getD,List.getElem?_eq_none (show (stl l a x v).length≤i by omega)]
theorem store_any (u:Value) (a x v:Int) (l:List Int) (w:World) (hr:Row .u8 w u l) (h0:0≤v) (h1:v<18446744073709551616) (hlen:l.length≤281474976710656) :
    Calls Tryz.prog 183 #[u,.int .i64 a,.int .i64 x,.int .u64 v] w (Stored w l a x v):=by
  have hby:=hr.bytes
  obtain⟨ad,cap,rfl,h2,h3,h4,h5⟩:=hr
  by_cases hf:fits v x=true
  · have hw:isW x=true:=by simp[fits] at hf;exact hf.1
    obtain⟨b1,b2⟩:=isW_bd hw
    by_cases hp:plc l.length a x=0
    · obtain⟨p1,p2,p3⟩:=plc_ok hp
      obtain⟨b,off,rfl,hlt,hc⟩:=h5 (by rintro rfl;simp at p2;omega)
      obtain⟨m,rfl⟩:=Int.eq_ofNat_of_zero_le p1
      obtain⟨n,rfl⟩:=Int.eq_ofNat_of_zero_le (show 0≤x by omega)
      refine(store_ok b off cap l m n v w h2 h3 hlen hc hlt h0 h1 hf (by omega) (by omega) hp (by omega)).mono ?_
      rintro e w' ⟨rfl,hb,hg⟩
      have e0:ste l m n v=0:=by simp[ste,hf,hp]
      refine⟨_,by rw[e0],hb,?_⟩
      rw[if_pos e0,Int.toNat_natCast,Int.toNat_natCast]
      have hL:=stl_length l m n v (by omega) (by omega)
      have:=row_of_block hg (stl_bd l m n v h0 h1 hby) (by omega)
      rwa [hL] at this
    · have e0:ste l a x v=plc l.length a x:=by simp[ste,hf]
      have Hst:Hid (∀ e w',e = .returned (.tuple #[.slice none 0 0,.int .i64 (plc l.length a x)])∧w=w'→Stored w l a x v e w'):=by
        rintro e w' ⟨rfl,rfl⟩
        exact⟨_,by rw[e0],Below.refl _ _,by rw[if_neg (by rw[e0];exact hp)];exact Row.nil _ _⟩
      refine Calls.mono ?_ Hst.out
      have Hf:=Lib.hid hf
      clear hf h5 h4 hby e0 Hst hw
      obtain⟨p,hpp⟩:∃ p,p=plc l.length a x:=⟨_,rfl⟩
      rw[←hpp] at hp ⊢
      have Hp:=Lib.hid hpp.symm
      have hne:(p == 0)=false:=by simpa using hp
      clear hpp hp
      go_enter Tryz.func183,Tryz.ntmps183
      go_wp2_with (first
        | (go_at_call 181;refine(fits_any _ _ _ h0 h1).mono ?_;rintro e w' ⟨rfl,rfl⟩;rw[Hf.out])
        | (go_at_call 233;refine(placed_any _ _ _ _ (by omega) (by omega) (by omega) (by omega)).mono ?_;rintro e w' ⟨rfl,rfl⟩;rw[Hp.out]))
      go_ret2
      exact⟨rfl,rfl⟩
  · have hf':fits v x=false:=by simpa using hf
    have e0:ste l a x v=2:=by simp[ste,hf']
    have Hst:Hid (∀ e w',e = .returned (.tuple #[.slice none 0 0,.int .i64 2])∧w=w'→Stored w l a x v e w'):=by
      rintro e w' ⟨rfl,rfl⟩
      exact⟨_,by rw[e0],Below.refl _ _,by rw[if_neg (by rw[e0];decide)];exact Row.nil _ _⟩
    refine Calls.mono ?_ Hst.out
    have Hf:=Lib.hid hf'
    clear hf hf' h5 h4 hby e0 Hst
    go_enter Tryz.func183,Tryz.ntmps183
    go_wp2_with (first
      | (go_at_call 181;refine(fits_any _ _ _ h0 h1).mono ?_;rintro e w' ⟨rfl,rfl⟩;rw[Hf.out]))
    go_ret2
    exact⟨rfl,rfl⟩
end Go.Proofs.YtmgeiaglandedaaGreatDoor.Num

namespace Go.Proofs.YtmgeiaglandedaaGreatDoor.Num
open Go.RowKit
set_option linter.unusedVariables false
theorem madeCells_one (z:Value) (n:Nat):madeCells #[z] n=(List.replicate n z).toArray:=by
  apply Array.ext
  · simp[madeCells]
  · intro i h1 h2
    simp[madeCells,Nat.mod_one]
end Go.Proofs.YtmgeiaglandedaaGreatDoor.Num

namespace Go.Proofs.YtmgeiaglandedaaGreatDoor.Num
open Go.RowKit
set_option linter.unusedVariables false
end Go.Proofs.YtmgeiaglandedaaGreatDoor.Num

namespace Go.Proofs.YtmgeiaglandedaaGreatDoor.Num
open Go.RowKit
set_option linter.unusedVariables false
end Go.Proofs.YtmgeiaglandedaaGreatDoor.Num

namespace Go.Proofs.YtmgeiaglandedaaGreatDoor.Num
open Go.RowKit
set_option linter.unusedVariables false
end Go.Proofs.YtmgeiaglandedaaGreatDoor.Num
