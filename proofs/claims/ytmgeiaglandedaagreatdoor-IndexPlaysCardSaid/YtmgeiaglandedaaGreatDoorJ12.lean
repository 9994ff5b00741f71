/- Plain mathematics of classes of blocks. Contracts of the document's functions on classes. What is asked of class's functions; classes; the walks of the statements. Contracts of class's landed functions. -/
import Derived.Test.YtmgeiaglandedaaGreatDoorJ0
import Derived.Test.YtmgeiaglandedaaGreatDoorRows
namespace Go.Proofs.YtmgeiaglandedaaGreatDoor.Cls
open Go.RowKit
def szT:List Nat := [32,48,64,96,128,192,256,384,512]
def szC (c:Int):Nat:=if 1≤c∧c≤9 then szT.getD (c-1).toNat 0 else 0
def blC (c:Int):Nat:=if szC c=0 then 0 else 1024 / szC c
def pdC (c:Int):Nat:=if szC c=0 then 0 else 1024-blC c*szC c
def plC (c i:Int):Nat×Int:=if szC c=0 then (0,2) else if i<0∨(blC c:Int)≤i then (0,6) else (i.toNat*szC c,0)
def idL (c at_:Int):Nat→Nat→Nat×Bool
  | _,0=>(0,false)
  | i,n+1=>if ((i*szC c:Nat):Int)=at_ then (i,true) else idL c at_ (i+1) n
def idC (c at_:Int):Nat×Bool:=idL c at_ 0 (blC c)
theorem cls_cases (c:Int):(c<1∨9<c)∨c=1∨c=2∨c=3∨c=4∨c=5∨c=6∨c=7∨c=8∨c=9:=by omega
theorem szC_no {c:Int} (h:c<1∨9<c):szC c=0:=by rw[szC,if_neg (by omega)]
theorem szC_bd (c:Int):szC c=0∨(32≤szC c∧szC c≤512):=by
  rcases cls_cases c with h | rfl | rfl | rfl | rfl | rfl | rfl | rfl | rfl | rfl
  · exact .inl (szC_no h)
  all_goals exact .inr (by decide)
theorem szC_zero {c:Int} : szC c=0↔(c<1∨9<c):=by
  rcases cls_cases c with h | rfl | rfl | rfl | rfl | rfl | rfl | rfl | rfl | rfl
  · exact⟨fun _=>h,szC_no⟩
  all_goals decide
theorem blC_no {c:Int} (h:szC c=0):blC c=0:=by rw[blC,if_pos h]
theorem blC_bd (c:Int):blC c≤32:=by
  rcases szC_bd c with h | h
  · rw[blC_no h];omega
  · rw[blC,if_neg (by omega)]
    exact Nat.le_trans (Nat.div_le_div_left h.1 (by decide)) (by decide)
theorem blC_fit {c:Int} (h:¬ szC c=0):blC c*szC c≤1024∧1024<(blC c+1)*szC c:=by
  have hp:0<szC c:=by omega
  rw[blC,if_neg h]
  exact⟨Nat.div_mul_le_self _ _,by rw[Nat.mul_comm];exact Nat.lt_mul_div_succ 1024 hp⟩
theorem blC_pos {c:Int} (h:¬ szC c=0):2≤blC c:=by
  have:=szC_bd c
  rw[blC,if_neg h]
  exact Nat.le_trans (by decide) (Nat.div_le_div_left (show szC c≤512 by omega) (by omega))
theorem pdC_less {c:Int} (h:¬ szC c=0):blC c*szC c+pdC c=1024∧pdC c<szC c:=by
  have h1:=blC_fit h
  rw[Nat.add_mul] at h1
  rw[pdC,if_neg h]
  omega
theorem idL_spec (c at_:Int) (i n:Nat):(∃ k,i≤k∧k<i+n∧idL c at_ i n=(k,true)∧((k*szC c:Nat):Int)=at_)∨(idL c at_ i n=(0,false)∧∀ k,i≤k→k<i+n→¬ ((k*szC c:Nat):Int)=at_):=by
  induction n generalizing i with
  | zero=>exact .inr ⟨rfl,fun k h1 h2=>by omega⟩
  | succ n ih =>
    by_cases h:((i*szC c:Nat):Int)=at_
    · exact .inl ⟨i,Nat.le_refl _,by omega,by rw[idL,if_pos h],h⟩
    · rcases ih (i+1) with⟨k,h1,h2,h3,h4⟩ | ⟨h1,h2⟩
      · exact .inl ⟨k,by omega,by omega,by rw[idL,if_neg h,h3],h4⟩
      · refine .inr ⟨by rw[idL,if_neg h,h1],fun k g1 g2=>?_⟩
        by_cases e:k=i
        · subst e;exact h
        · exact h2 k (by omega) (by omega)
theorem idC_hit {c:Int} {i:Nat} (h:¬ szC c=0) (hi:i<blC c):idC c ((i*szC c:Nat):Int)=(i,true):=by
  rcases idL_spec c ((i*szC c:Nat):Int) 0 (blC c) with⟨k,-,-,h3,h4⟩ | ⟨-,h2⟩
  · have:k=i:=by
      have h5:k*szC c=i*szC c:=by omega
      exact Nat.eq_of_mul_eq_mul_right (by omega) h5
    rw[idC,h3,this]
  · exact absurd rfl (h2 i (by omega) (by omega))
end Go.Proofs.YtmgeiaglandedaaGreatDoor.Cls

namespace Go.Proofs.YtmgeiaglandedaaGreatDoor.Cls
open Go.RowKit
set_option linter.unusedVariables false
end Go.Proofs.YtmgeiaglandedaaGreatDoor.Cls

namespace Go.Proofs.YtmgeiaglandedaaGreatDoor.Cls
open Go.RowKit
set_option linter.unusedVariables false
end Go.Proofs.YtmgeiaglandedaaGreatDoor.Cls

namespace Go.Proofs.YtmgeiaglandedaaGreatDoor.Cls
open Go.RowKit
set_option linter.unusedVariables false
theorem wrap_id {n:Int} (h1 : -9223372036854775808≤n) (h2:n≤9223372036854775807):IntKind.i64.wrap n=n:=by simp[IntKind.wrap,IntKind.bits,IntKind.signed];omega
def szI:List Int := [32,48,64,96,128,192,256,384,512]
def Tab (w:World):Prop:=Lib.TabIs Tryz.prog w "columbarium/class.sizes" .i64 szI
theorem Tab.cell {w:World} (h:Tab w) (i:Nat) (hi:i<9):w.cell? ⟨1,i,none⟩=some (.int .i64 (szI.getD i 0)) :=
  Lib.TabIs.cell h (show Tryz.prog.globalNamed "columbarium/class.sizes" = some 1 by kernel_rfl) i hi
theorem tab_of {l:List (String×DataW Unit)} {w:World} (hp:(l.all fun x=>x.2.handleName?.isNone)=true) (hm:("columbarium/class.sizes",Rows.laid_columbarium_class_sizes)∈l) (h:laidMetH Tryz.prog l w):Tab w :=
  tab_of_laid (g:=1) (n:=9) (t:=226) (e:=3) hp hm (by kernel_rfl) (by kernel_rfl) (by kernel_rfl) (by kernel_rfl) (by kernel_rfl) (by kernel_rfl) h
theorem is_yes (c:Int) (w:World) (h1:1≤c) (h2:c≤9):Calls Tryz.prog 194 #[.int .i64 c] w fun e w'=>e = .returned (.bool true)∧w=w':=by
  go_enter Tryz.func194,Tryz.ntmps194
  go_wp2
  go_ret
  exact⟨rfl,rfl⟩
theorem is_no (c:Int) (w:World) (h:c<1∨9<c):Calls Tryz.prog 194 #[.int .i64 c] w fun e w'=>e = .returned (.bool false)∧w=w':=by
  rcases(show c<1∨(¬ c<1∧9<c) by omega) with h1 | ⟨h1,h2⟩
  · clear h
    go_enter Tryz.func194,Tryz.ntmps194
    go_wp2
    go_ret
    exact⟨rfl,rfl⟩
  · clear h
    have h1:1≤c:=by omega
    have h3:decide (c≤9)=false:=decide_eq_false (by omega)
    go_enter Tryz.func194,Tryz.ntmps194
    go_wp2
    go_ret
    exact⟨rfl,rfl⟩
set_option maxRecDepth 100000 in
theorem size_any (c:Int) (w:World) (ht:Tab w):Calls Tryz.prog 105 #[.int .i64 c] w fun e w'=>e = .returned (.int .i64 (szC c))∧w=w':=by
  have q0:=ht.cell 0 (by omega)
  have q1:=ht.cell 1 (by omega)
  have q2:=ht.cell 2 (by omega)
  have q3:=ht.cell 3 (by omega)
  have q4:=ht.cell 4 (by omega)
  have q5:=ht.cell 5 (by omega)
  have q6:=ht.cell 6 (by omega)
  have q7:=ht.cell 7 (by omega)
  have q8:=ht.cell 8 (by omega)
  simp only[szI,List.getD_cons_zero,List.getD_cons_succ] at q0 q1 q2 q3 q4 q5 q6 q7 q8
  clear ht
  rcases cls_cases c with h | rfl | rfl | rfl | rfl | rfl | rfl | rfl | rfl | rfl
  · have hz:=Lib.hid (szC_no h)
    have H1:=Lib.hid (is_no c w h)
    clear h
    go_enter Tryz.func105,Tryz.ntmps105
    go_wp2_with (go_at_call 194;refine H1.out.mono ?_;rintro e w1 ⟨rfl,rfl⟩)
    go_ret
    exact⟨ret_int (by rw[hz.out];rfl),rfl⟩
  all_goals
    have H1:=Lib.hid (fun c=>is_yes c w)
    go_enter Tryz.func105,Tryz.ntmps105
    go_wp2_with (go_at_call 194;refine(H1.out _ (by decide) (by decide)).mono ?_;rintro e w1 ⟨rfl,rfl⟩)
    go_ret
    exact⟨rfl,rfl⟩
theorem szC_is {c:Int} (h:¬ szC c=0):1≤c∧c≤9:=by
  have:=mt szC_zero.2 h
  omega
theorem blocks_any (c:Int) (w:World) (ht:Tab w):Calls Tryz.prog 111 #[.int .i64 c] w fun e w'=>e = .returned (.int .i64 (blC c))∧w=w':=by
  have HS:=Lib.hid (size_any c w ht)
  by_cases hz:szC c=0
  · have HI:=Lib.hid (is_no c w (szC_zero.1 hz))
    have hb:=Lib.hid (blC_no hz)
    clear hz HS ht
    go_enter Tryz.func111,Tryz.ntmps111
    go_wp2_with (go_at_call 194;refine HI.out.mono ?_;rintro e w1 ⟨rfl,rfl⟩)
    go_ret
    exact⟨ret_int (by rw[hb.out];rfl),rfl⟩
  · have HI:=Lib.hid (is_yes c w (szC_is hz).1 (szC_is hz).2)
    have hbd:=szC_bd c
    have hbl:blC c=1024 / szC c:=by rw[blC,if_neg hz]
    rw[hbl]
    obtain⟨x,hx⟩:∃ x,x=szC c:=⟨_,rfl⟩
    rw[←hx] at HS hbd hz ⊢
    have hx0:(0:Int)<(x:Int):=by omega
    have hxz:((x:Int) == 0)=false:=by rw[beq_eq_false_iff_ne];omega
    have hx5:(x:Int)≤512:=by omega
    have hq:Int.tdiv 1024 (x:Int)=((1024 / x:Nat):Int):=by rw[Int.tdiv_eq_ediv_of_nonneg (by omega)];rfl
    have hq2:1024 / x≤32:=Nat.le_trans (Nat.div_le_div_left (show 32≤x by omega) (by decide)) (by decide)
    obtain⟨q,hqq⟩:∃ q,q=1024 / x:=⟨_,rfl⟩
    rw[←hqq] at hq hq2 ⊢
    clear hqq hbl hx hbd hz ht
    go_enter Tryz.func111,Tryz.ntmps111
    go_wp2_with (first | (go_at_call 194;refine HI.out.mono ?_;rintro e w1 ⟨rfl,rfl⟩) | (go_at_call 105;refine HS.out.mono ?_;rintro e w1 ⟨rfl,rfl⟩))
    go_ret
    exact⟨ret_int (by first | rw[hq] | omega),rfl⟩
theorem pdC_mod {c:Int} (h:¬ szC c=0):pdC c=1024 % szC c:=by
  have:=Nat.div_add_mod 1024 (szC c)
  rw[pdC,if_neg h,blC,if_neg h]
  rw[Nat.mul_comm] at this
  omega
theorem pad_any (c:Int) (w:World) (ht:Tab w):Calls Tryz.prog 250 #[.int .i64 c] w fun e w'=>e = .returned (.int .i64 (pdC c))∧w=w':=by
  have HS:=Lib.hid (size_any c w ht)
  by_cases hz:szC c=0
  · have HI:=Lib.hid (is_no c w (szC_zero.1 hz))
    have hb:Hid (pdC c=0):=by unfold Hid;rw[pdC,if_pos hz]
    clear hz HS ht
    go_enter Tryz.func250,Tryz.ntmps250
    go_wp2_with (go_at_call 194;refine HI.out.mono ?_;rintro e w1 ⟨rfl,rfl⟩)
    go_ret
    exact⟨ret_int (by rw[hb.out];rfl),rfl⟩
  · have HI:=Lib.hid (is_yes c w (szC_is hz).1 (szC_is hz).2)
    have hbd:=szC_bd c
    rw[pdC_mod hz]
    obtain⟨x,hx⟩:∃ x,x=szC c:=⟨_,rfl⟩
    rw[←hx] at HS hbd hz ⊢
    have hx0:(0:Int)<(x:Int):=by omega
    have hxz:((x:Int) == 0)=false:=by rw[beq_eq_false_iff_ne];omega
    have hx5:(x:Int)≤512:=by omega
    have hq:Int.tmod 1024 (x:Int)=((1024 % x:Nat):Int):=by rw[Int.tmod_eq_emod_of_nonneg (by omega)];rfl
    have hq2:1024 % x≤512:=by have:=Nat.mod_lt 1024 (show x>0 by omega);omega
    obtain⟨q,hqq⟩:∃ q,q=1024 % x:=⟨_,rfl⟩
    rw[←hqq] at hq hq2 ⊢
    clear hqq hx hbd hz ht
    go_enter Tryz.func250,Tryz.ntmps250
    go_wp2_with (first | (go_at_call 194;refine HI.out.mono ?_;rintro e w1 ⟨rfl,rfl⟩) | (go_at_call 105;refine HS.out.mono ?_;rintro e w1 ⟨rfl,rfl⟩))
    go_ret
    exact⟨ret_int (by first | rw[hq] | omega),rfl⟩
theorem place_any (c i:Int) (w:World) (ht:Tab w) (i1 : -9223372036854775808≤i) (i2:i≤9223372036854775807) :
    Calls Tryz.prog 267 #[.int .i64 c,.int .i64 i] w fun e w'=>e = .returned (.tuple #[.int .i64 (plC c i).1,.int .i64 (plC c i).2])∧w=w':=by
  have HS:=Lib.hid (size_any c w ht)
  have HB:=Lib.hid (blocks_any c w ht)
  by_cases hz:szC c=0
  · have HI:=Lib.hid (is_no c w (szC_zero.1 hz))
    have hp:plC c i=(0,2):=by rw[plC,if_pos hz]
    rw[hp]
    clear hz HS HB ht hp
    go_enter Tryz.func267,Tryz.ntmps267
    go_wp2_with (go_at_call 194;refine HI.out.mono ?_;rintro e w1 ⟨rfl,rfl⟩)
    go_ret2
    exact⟨rfl,rfl⟩
  · have HI:=Lib.hid (is_yes c w (szC_is hz).1 (szC_is hz).2)
    have hbd:=szC_bd c
    have hb32:=blC_bd c
    by_cases hi:i<0∨(blC c:Int)≤i
    · have hp:plC c i=(0,6):=by rw[plC,if_neg hz,if_pos hi]
      rw[hp]
      generalize blC c=b at HB hb32 hi
      have hb3:(b:Int)≤32:=by omega
      rcases(show i<0∨(0≤i∧(b:Int)≤i) by omega) with h1 | ⟨h1,h2⟩
      · clear hz HS ht hp hbd hi
        go_enter Tryz.func267,Tryz.ntmps267
        go_wp2_with (first | (go_at_call 194;refine HI.out.mono ?_;rintro e w1 ⟨rfl,rfl⟩) | (go_at_call 111;refine HB.out.mono ?_;rintro e w1 ⟨rfl,rfl⟩))
        go_ret2
        exact⟨rfl,rfl⟩
      · clear hz HS ht hp hbd hi
        go_enter Tryz.func267,Tryz.ntmps267
        go_wp2_with (first | (go_at_call 194;refine HI.out.mono ?_;rintro e w1 ⟨rfl,rfl⟩) | (go_at_call 111;refine HB.out.mono ?_;rintro e w1 ⟨rfl,rfl⟩))
        go_ret2
        exact⟨rfl,rfl⟩
    · have hp:plC c i=(i.toNat*szC c,0):=by rw[plC,if_neg hz,if_neg hi]
      rw[hp]
      obtain⟨k,rfl⟩:∃ k:Nat,i=k:=⟨i.toNat,by omega⟩
      rw[Int.toNat_natCast]
      have hfit:=(blC_fit hz).1
      generalize blC c=b at HB hb32 hi hfit
      generalize szC c=x at HS hbd hz hfit
      have hkb:(k:Int)<(b:Int):=by omega
      have hk0:¬ (k:Int)<0:=by omega
      have hb3:(b:Int)≤32:=by omega
      have hx5:(x:Int)≤512:=by omega
      have hkx:k*x≤1024:=Nat.le_trans (Nat.mul_le_mul_right x (show k≤b by omega)) hfit
      obtain⟨p,hpp⟩:∃ p,p=k*x:=⟨_,rfl⟩
      have hw:IntKind.i64.wrap ((k:Int)*(x:Int))=(p:Int):=by
        rw[←Int.natCast_mul,←hpp];exact wrap_id (by omega) (by omega)
      rw[←hpp]
      clear hpp hkx hfit hz hbd hp hi ht
      go_enter Tryz.func267,Tryz.ntmps267
      go_wp2_with (first | (go_at_call 194;refine HI.out.mono ?_;rintro e w1 ⟨rfl,rfl⟩) | (go_at_call 111;refine HB.out.mono ?_;rintro e w1 ⟨rfl,rfl⟩) | (go_at_call 105;refine HS.out.mono ?_;rintro e w1 ⟨rfl,rfl⟩))
      go_ret2
      exact⟨rfl,rfl⟩
theorem idC_out {c a:Int} (h:¬ szC c=0) (ha:a<0∨((blC c*szC c:Nat):Int)≤a):idC c a=(0,false):=by
  rcases idL_spec c a 0 (blC c) with⟨k,-,h2,-,h4⟩ | ⟨h1,-⟩
  · have:=Nat.mul_lt_mul_of_pos_right (show k<blC c by omega) (show 0<szC c by omega)
    omega
  · exact h1
theorem idC_off {c:Int} {n:Nat} (h:¬ n % szC c=0):idC c (n:Int)=(0,false):=by
  rcases idL_spec c (n:Int) 0 (blC c) with⟨k,-,h2,-,h4⟩ | ⟨h1,-⟩
  · exact absurd (show n % szC c=0 by rw[show n=k*szC c by omega,Nat.mul_mod_left]) h
  · exact h1
theorem idC_at {c:Int} {n:Nat} (h:¬ szC c=0) (hn:n<blC c*szC c) (hm:n % szC c=0):idC c (n:Int)=(n / szC c,true):=by
  have h1:n / szC c*szC c=n:=by
    have:=Nat.div_add_mod n (szC c)
    rw[Nat.mul_comm] at this
    omega
  have h2:n / szC c<blC c:=(Nat.div_lt_iff_lt_mul (by omega)).2 hn
  have h3:=idC_hit h h2
  rw[h1] at h3
  exact h3
set_option maxRecDepth 100000 in
theorem index_any (c a:Int) (w:World) (ht:Tab w) (a1 : -9223372036854775808≤a) (a2:a≤9223372036854775807) :
    Calls Tryz.prog 247 #[.int .i64 c,.int .i64 a] w fun e w'=>e = .returned (.tuple #[.int .i64 (idC c a).1,.bool (idC c a).2])∧w=w':=by
  have HS:=Lib.hid (size_any c w ht)
  have HP:=Lib.hid (pad_any c w ht)
  by_cases hz:szC c=0
  · have HI:=Lib.hid (is_no c w (szC_zero.1 hz))
    have hp:idC c a=(0,false):=by rw[idC,blC_no hz];rfl
    rw[hp]
    clear hz HS HP ht hp
    go_enter Tryz.func247,Tryz.ntmps247
    go_wp2_with (go_at_call 194;refine HI.out.mono ?_;rintro e w1 ⟨rfl,rfl⟩)
    go_ret2
    exact⟨rfl,rfl⟩
  · have HI:=Lib.hid (is_yes c w (szC_is hz).1 (szC_is hz).2)
    have hbd:=szC_bd c
    have hpl:=pdC_less hz
    have hends:((blC c*szC c:Nat):Int)=1024-(pdC c:Int):=by omega
    by_cases ha:a<0∨((blC c*szC c:Nat):Int)≤a
    · rw[idC_out hz ha]
      rw[hends] at ha
      have hpd:=hpl.2
      generalize pdC c=z at HP ha hpd
      have hz5:(z:Int)<512:=by omega
      have hw:IntKind.i64.wrap (1024-(z:Int))=1024-(z:Int):=wrap_id (by omega) (by omega)
      rcases(show a<0∨(0≤a∧1024-(z:Int)≤a) by omega) with h1 | ⟨h1,h2⟩
      · clear hz HS ht hbd hends hpl ha hpd
        go_enter Tryz.func247,Tryz.ntmps247
        go_wp2_with (first | (go_at_call 194;refine HI.out.mono ?_;rintro e w1 ⟨rfl,rfl⟩) | (go_at_call 250;refine HP.out.mono ?_;rintro e w1 ⟨rfl,rfl⟩))
        go_ret2
        exact⟨rfl,rfl⟩
      · clear hz HS ht hbd hends hpl ha hpd
        go_enter Tryz.func247,Tryz.ntmps247
        go_wp2_with (first | (go_at_call 194;refine HI.out.mono ?_;rintro e w1 ⟨rfl,rfl⟩) | (go_at_call 250;refine HP.out.mono ?_;rintro e w1 ⟨rfl,rfl⟩))
        go_ret2
        exact⟨rfl,rfl⟩
    · obtain⟨n,rfl⟩:∃ n:Nat,a=n:=⟨a.toNat,by omega⟩
      have hn:n<blC c*szC c:=by omega
      have hoff:=@idC_off c n
      have hat:=@idC_at c n hz hn
      generalize idC c (n:Int)=R at hoff hat
      have hn1:(n:Int)<1024-(pdC c:Int):=by omega
      have hpd:=hpl.2
      generalize pdC c=z at HP hn1 hpd
      generalize szC c=x at HS hbd hz hoff hat hpd
      have hz5:(z:Int)<512:=by omega
      have hx0:(0:Int)<(x:Int):=by omega
      have hxz:((x:Int) == 0)=false:=by rw[beq_eq_false_iff_ne];omega
      have hx5:(x:Int)≤512:=by omega
      have hn0:¬ (n:Int)<0:=by omega
      have hn5:(n:Int)<1024:=by omega
      have hw:IntKind.i64.wrap (1024-(z:Int))=1024-(z:Int):=wrap_id (by omega) (by omega)
      have hmm:Int.tmod (n:Int) (x:Int)=((n % x:Nat):Int):=by rw[Int.tmod_eq_emod_of_nonneg (by omega)];rfl
      have hdd:Int.tdiv (n:Int) (x:Int)=((n / x:Nat):Int):=by rw[Int.tdiv_eq_ediv_of_nonneg (by omega)];rfl
      have hm2:n % x<512:=by have:=Nat.mod_lt n (show x>0 by omega);omega
      have hd2:n / x≤1024:=Nat.le_trans (Nat.div_le_self _ _) (by omega)
      by_cases hm:n % x=0
      · rw[hat hm]
        rw[hm] at hmm
        obtain⟨q,hq⟩:∃ q,q=n / x:=⟨_,rfl⟩
        rw[←hq] at hdd hd2 ⊢
        clear hq hm hm2 hoff hat hz hbd hends hpl ht hpd ha hn
        go_enter Tryz.func247,Tryz.ntmps247
        go_wp2_with (first | (go_at_call 194;refine HI.out.mono ?_;rintro e w1 ⟨rfl,rfl⟩) | (go_at_call 250;refine HP.out.mono ?_;rintro e w1 ⟨rfl,rfl⟩) | (go_at_call 105;refine HS.out.mono ?_;rintro e w1 ⟨rfl,rfl⟩))
        go_ret2
        exact⟨rfl,rfl⟩
      · rw[hoff hm]
        obtain⟨q,hq⟩:∃ q,q=n % x:=⟨_,rfl⟩
        rw[←hq] at hmm hm2 hm
        have hqz:((q:Int) != 0)=true:=by simp[hm]
        clear hq hm hd2 hdd hoff hat hz hbd hends hpl ht hpd ha hn
        go_enter Tryz.func247,Tryz.ntmps247
        go_wp2_with (first | (go_at_call 194;refine HI.out.mono ?_;rintro e w1 ⟨rfl,rfl⟩) | (go_at_call 250;refine HP.out.mono ?_;rintro e w1 ⟨rfl,rfl⟩) | (go_at_call 105;refine HS.out.mono ?_;rintro e w1 ⟨rfl,rfl⟩))
        go_ret2
        exact⟨rfl,rfl⟩
end Go.Proofs.YtmgeiaglandedaaGreatDoor.Cls
