/- The landed memory: how one is made. The landed memory: New. -/
import Derived.Test.YtmgeiaglandedaaGreatDoorJ11
import Derived.Test.YtmgeiaglandedaaGreatDoorJ13
import Derived.Deep.RegionHeld3
namespace Go.Proofs.YtmgeiaglandedaaGreatDoor.Mem
open Go.RowKit Num Arn Wat
set_option linter.unusedVariables false
theorem right_64 {s n:Int} (h:Lay.rightC s n=true):7≤s∧s≤64∧224≤n∧n≤8192:=by
  have:=Lay.right_out h
  omega
theorem mayW_N {n:Int} (h:mayN n=true):mayW n=true:=by
  obtain⟨h1,h2,h3⟩:=mayN_bd h
  simp[mayW]
  omega
theorem kinds_fold_length (L:List (Nat×Nat×Nat)):∀ x:List Int,(L.foldl (fun x r=>(mrkA x r.1 r.2.1 r.2.2).1) x).length=x.length:=by
  induction L with
  | nil=>intro x;rfl
  | cons r L ih=>intro x;rw[List.foldl_cons,ih,mrkA_length]
theorem kinds0_length (s n:Int):(kinds0 s n).length=Lay.sizeC s n:=by
  unfold kinds0
  rw[kinds_fold_length,List.length_replicate]
theorem runs_at {s n:Int} (hr:Lay.rightC s n=true) (k:Nat):((Lay.runsC s n).getD k (0,0,0)).1≤1000000:=by
  have h0:=hr
  obtain⟨S,N,rfl,rfl,h1,h2,h3,h4,h5⟩:=Lay.right_nat hr
  rw[Lay.runsC,if_pos h0]
  simp only[Int.toNat_natCast]
  have hp:=(Lay.base_sixteen (s:=S) h3).2.2
  unfold Lay.runsT
  by_cases hp0:Lay.padT S N=0
  · rw[if_pos hp0]
    match k with
    | 0=>simp
    | 1=>simp
    | 2=>simp
    | 3=>simp[Lay.slT];omega
    | 4=>simp;unfold Lay.endT at hp;omega
    | k+5=>simp
  · rw[if_neg hp0]
    match k with
    | 0=>simp
    | 1=>simp
    | 2=>simp
    | 3=>simp[Lay.slT];omega
    | 4=>simp[Lay.endT];omega
    | 5=>simp;unfold Lay.endT at hp;omega
    | k+6=>simp
set_option maxRecDepth 100000 in
set_option maxHeartbeats 2000000 in
theorem over_any (s n:Int) (va:Value) (l:List Int) (ha:Hn) (w:World) (har:ArC ha w va l) (hr:Lay.rightC s n=true) (hl:l.length=Lay.sizeC s n) (ht:Cls.Tab w) :
    Calls Tryz.prog 91 #[.agg #[.int .i64 s,.int .i64 n],va] w fun e w'=>∃ h:Hm,e = .returned (.pointer (some ⟨h.g,0,none⟩))∧h.a=ha∧MemC h w' (.pointer (some ⟨h.g,0,none⟩)) ⟨s,n,l,kinds0 s n,0,0⟩∧Below w.heap.size w w'∧w.heap.size≤h.g∧∀ k,blkW h.w k→w.heap.size≤k:=by
  obtain⟨r1,r2,r3,r4⟩:=right_64 hr
  have hlen:=har.len
  have hmay:=mayW_N har.2.2.2.1
  have hb0:=below_made w (.cells #[.int .i64 s,.int .i64 n] 81)
  have HLen:=Lib.hid (lenC_any ha va l _ (har.below hb0))
  obtain rfl:=har.1
  have HA:=Lib.hid har
  obtain⟨D,hD⟩:∃ D:Nat,D=l.length:=⟨_,rfl⟩
  rw[←hD] at HLen hmay hlen
  have HDl:Hid (D=Lay.sizeC s n):=hD.trans hl
  have HNew:=Lib.hid (fun W=>new_yes D W hmay)
  have HT:=Lib.hid ht
  have HRuns:=Lib.hid (fun W (hb:Below w.heap.size w W)=>Lay.runs_own s n W (tab_keep hb ht) (by omega) (by omega) (by omega) (by omega))
  have HBox:=Lib.hid (fun W (hb:Below (Lay.W1 w s n).heap.size (Lay.W1 w s n) W)=>Lay.one_box hb)
  unfold Lay.W1 at HBox
  have HR0:=Lib.hid hr
  have HL0:=Lib.hid hl
  clear har hr hl hD hb0 ht hmay
  go_enter Tryz.func91,Tryz.ntmps91
  go_wp2_with fail
  refine HLen.out.mono ?_
  rintro e w1 ⟨rfl,hb1⟩
  have HB1:=Lib.hid hb1
  clear hb1
  go_wp2_with fail
  refine(HNew.out w1).mono ?_
  rintro e w2 ⟨v2,hw,rfl,hwa,hb2,hk2⟩
  obtain rfl:=hwa.1
  have HB2:=Lib.hid (HB1.out.trans (hb2.mono HB1.out.size))
  have hbx:=HBox.out w2 HB2.out
  have hz1:w.heap.size<w1.heap.size:=by
    have:=HB1.out.size
    rw[size_alloc] at this
    omega
  have hz2:w.heap.size<w2.heap.size:=by
    have:=HB2.out.size
    rw[size_alloc] at this
    omega
  have HK2:Hid (∀ k,blkW hw k→w.heap.size<k∧k<w2.heap.size):=fun k hk=>⟨Nat.lt_of_lt_of_le hz1 (hk2 k hk),hwa.lt k hk⟩
  obtain⟨c0,c1,-,hbw2⟩:=hbx
  have HW2:=Lib.hid hwa
  have HBw2:=Lib.hid hbw2
  clear hb2 hwa hk2 hbw2
  go_wp2_with fail
  refine(HRuns.out w2 HBw2.out).mono ?_
  rintro e w3 ⟨u,rfl,hb3,hrow,hfresh⟩
  have hc0:=(hb3.cell (p:=⟨w.heap.size,0,none⟩) hz2).trans c0
  have hc1:=(hb3.cell (p:=⟨w.heap.size,1,none⟩) hz2).trans c1
  have HC0:=Lib.hid hc0
  have HC1:=Lib.hid hc1
  have HB3:=Lib.hid hb3
  have HW3:=Lib.hid (HW2.out.below hb3)
  obtain⟨L,hL⟩:∃ L,L=Lay.runsC s n:=⟨_,rfl⟩
  rw[←hL] at hrow
  have HL:=Lib.hid hL
  have hLl:L.length≤6:=by
    rw[hL]
    unfold Lay.runsC Lay.runsT
    split
    · split<;>simp
    · simp
  obtain⟨ad,cap,rfl,hcap,hcm,hcell⟩:=hrow
  have HCe:=Lib.hid hcell
  have HF:=Lib.hid hfresh
  clear hcell hfresh hb3 hL c0 c1 hc0 hc1
  go_wp2
  go_loopw [14] (fun i wr=>∃ k:Nat,k≤L.length∧i = .int .i64 k∧Hid (WaC hw wr (.pointer (some ⟨hw.g,0,none⟩)) ((L.take k).foldl (fun x r=>(mrkA x r.1 r.2.1 r.2.2).1) (List.replicate D 0)) 0 0∧Fr w3.heap.size (blkW hw) w3 wr)) (fun i _=>L.length-(intOf i).toNat)
  case atStart=>exact⟨0,Nat.zero_le _,rfl,HW3.out,Fr.refl _ _ _⟩
  case round =>
    obtain⟨k,hk,rfl,HS⟩:=hrel
    by_cases hlt:k<L.length
    · have hlt1:(k:Int)<(L.length:Int):=by omega
      have hlt0:(0:Int)≤(k:Int):=by omega
      obtain⟨b,o,rfl,hbl,hce⟩:=HCe.out (by rintro rfl;simp at hlt)
      have hbn:¬ blkW hw b:=fun hh=>by
        have h1:=HK2.out b hh
        have h2:=HF.out b o _ _ rfl
        omega
      have e0:wr.cell? ⟨b,o+k*3,none⟩=_:=HS.out.2.cell (hce k hlt 0 _ rfl) hbl hbn
      have e1:wr.cell? ⟨b,o+k*3+1,none⟩=_:=HS.out.2.cell (hce k hlt 1 _ rfl) hbl hbn
      have e2:wr.cell? ⟨b,o+k*3+2,none⟩=_:=HS.out.2.cell (hce k hlt 2 _ rfl) hbl hbn
      have htk:L.take (k+1)=L.take k ++ [L.getD k (0,0,0)]:=by
        rw[List.take_succ_eq_append_getElem hlt]
        simp[List.getD,hlt]
      obtain⟨x,hx⟩:∃ x,x=L.getD k (0,0,0):=⟨_,rfl⟩
      rw[←hx] at e0 e1 e2 htk
      have hx1:=runs_at HR0.out k
      rw[←HL.out,←hx] at hx1
      obtain⟨x1,x2,x3⟩:=x
      simp only[] at e0 e1 e2 hx1
      have hx64:is64 (x1:Int):=by unfold is64;omega
      have HM:=Lib.hid (Wat.mark_any hw (.pointer (some ⟨hw.g,0,none⟩)) _ 0 0 (x1:Int) (x2:Int) (x3:Int) (wr.alloc (.cells #[.int .i64 (x1:Int),.int .i64 (x2:Int),.int .i64 (x3:Int)] 195)) (HS.out.1.below (below_made _ _)) hx64)
      have HTK:=Lib.hid htk
      clear hce hx htk hbn
      go_wp2_with fail
      refine HM.out.mono ?_
      rintro e w4 ⟨rfl,hw4,hf4⟩
      have HN:Hid (WaC hw w4 (.pointer (some ⟨hw.g,0,none⟩)) ((L.take (k+1)).foldl (fun x r=>(mrkA x r.1 r.2.1 r.2.2).1) (List.replicate D 0)) 0 0∧Fr w3.heap.size (blkW hw) w3 w4):=by
        rw[Hid,HTK.out,List.foldl_append]
        refine⟨hw4,(HS.out.2.alloc HS.out.2.size _).trans (hf4.mono ?_ (fun _ _ h=>h))⟩
        have:=HS.out.2.size
        rw[size_alloc]
        omega
      clear hw4 hf4 HS HM
      go_wp2
      go_roundw
      case rel=>exact⟨k+1,by omega,by go_num,HN.out⟩
      case measure=>simp[intOf];omega
    · obtain rfl:k=L.length:=by omega
      have hs:=HS.out
      rw[List.take_length,HL.out,HDl.out] at hs
      have hz:=HB2.out.size
      rw[size_alloc] at hz
      have hz3:=HB3.out.size
      have d0:=hs.2.cell HC0.out (by omega) (fun hh=>by have:=HK2.out _ hh;omega)
      have d1:=hs.2.cell HC1.out (by omega) (fun hh=>by have:=HK2.out _ hh;omega)
      have hbelow:Below w.heap.size w wr:=(HBw2.out.trans (HB3.out.mono (by omega))).trans (hs.2.toBelow (by omega) (fun k hk hh=>by have:=HK2.out _ hh;omega))
      have HEnd:Hid (∃ h:Hm,(Ending.returned (.pointer (some ⟨wr.heap.size,0,none⟩))) = .returned (.pointer (some ⟨h.g,0,none⟩))∧h.a=ha∧MemC h (wr.alloc (.cells #[.pointer (some ⟨hw.g,0,none⟩),.pointer (some ⟨ha.g,0,none⟩),.int .i64 s,.int .i64 n] 100)) (.pointer (some ⟨h.g,0,none⟩)) ⟨s,n,l,kinds0 s n,0,0⟩∧Below w.heap.size w (wr.alloc (.cells #[.pointer (some ⟨hw.g,0,none⟩),.pointer (some ⟨ha.g,0,none⟩),.int .i64 s,.int .i64 n] 100))∧w.heap.size≤h.g∧∀ k,blkW h.w k→w.heap.size≤k):=by
        have hwl:=hbelow.size
        refine⟨⟨wr.heap.size,hw,ha,false⟩,rfl,rfl,⟨rfl,heap_alloc_new _ _,hs.1.below (below_made _ _),HA.out.below (hbelow.alloc hbelow.size _),fun k hk=>⟨?_,fun h1=>?_⟩,fun k hk=>?_,HR0.out,HL0.out,?_⟩,hbelow.alloc hbelow.size _,hbelow.size,fun k hk=>by have:=HK2.out k hk;omega⟩
        · have:=hs.1.lt k hk
          show k≠wr.heap.size
          omega
        · have h2:=HA.out.lt k h1
          have h3:=HK2.out k hk
          omega
        · have h2:=HA.out.lt k hk
          show k≠wr.heap.size
          omega
        · show (kinds0 s n).length=l.length
          rw[kinds0_length,HL0.out]
      clear hs hbelow HS
      go_wp2
      go_ret
      exact HEnd.out
end Go.Proofs.YtmgeiaglandedaaGreatDoor.Mem

namespace Go.Proofs.YtmgeiaglandedaaGreatDoor.Mem
open Go.RowKit Num Arn Wat
set_option linter.unusedVariables false
theorem index_stamp0 (a b c:Int) (w:World):(Instr.index 139 (.agg #[.int .u64 a,.int .u64 b,.int .u64 c]) (.int .i64 0)).run Tryz.prog w = .ok (.int .u64 a) w:=by
  kernel_rfl
theorem index_stamp1 (a b c:Int) (w:World):(Instr.index 139 (.agg #[.int .u64 a,.int .u64 b,.int .u64 c]) (.int .i64 1)).run Tryz.prog w = .ok (.int .u64 b) w:=by
  kernel_rfl
theorem index_stamp2 (a b c:Int) (w:World):(Instr.index 139 (.agg #[.int .u64 a,.int .u64 b,.int .u64 c]) (.int .i64 2)).run Tryz.prog w = .ok (.int .u64 c) w:=by
  kernel_rfl
theorem index_stamp (a b c:Int) (k:Nat) (hk:k<3) (w:World):(Instr.index 139 (.agg #[.int .u64 a,.int .u64 b,.int .u64 c]) (.int .i64 (k:Int))).run Tryz.prog w = .ok (.int .u64 ([a,b,c].getD k 0)) w:=by
  rcases(show k=0∨k=1∨k=2 by omega) with rfl | rfl | rfl
  · exact index_stamp0 a b c w
  · exact index_stamp1 a b c w
  · exact index_stamp2 a b c w
theorem u64_id {n:Int} (h0:0≤n) (h1:n≤9223372036854775807):IntKind.u64.wrap n=n:=by
  simp[IntKind.wrap,IntKind.bits,IntKind.signed]
  omega
theorem stampOf_any (s n:Int) (w:World) (hr:Lay.rightC s n=true) :
    Calls Tryz.prog 94 #[.agg #[.int .i64 s,.int .i64 n]] w fun e w'=>e = .returned (.agg #[.int .u64 1129270338,.int .u64 s,.int .u64 n])∧Below w.heap.size w w':=by
  obtain⟨r1,r2,r3,r4⟩:=right_64 hr
  have u1:IntKind.u64.wrap s=s:=u64_id (by omega) (by omega)
  have u2:IntKind.u64.wrap n=n:=u64_id (by omega) (by omega)
  have hz:=size_alloc w (.cells #[.int .i64 s,.int .i64 n] 81)
  have hblk:=heap_alloc_new (w.alloc (.cells #[.int .i64 s,.int .i64 n] 81)) (.cells #[.int .u64 1129270338,.int .u64 s,.int .u64 n] 139)
  rw[hz] at hblk
  have q0:=(cell_block hblk 0).trans (show _=some (Value.int .u64 1129270338) from rfl)
  have q1:=(cell_block hblk 1).trans (show _=some (Value.int .u64 s) from rfl)
  have q2:=(cell_block hblk 2).trans (show _=some (Value.int .u64 n) from rfl)
  have HB:=Lib.hid (((Below.refl w.heap.size w).alloc (Nat.le_refl _) (.cells #[.int .i64 s,.int .i64 n] 81)).alloc (le_alloc _ (Nat.le_refl _)) (.cells #[.int .u64 1129270338,.int .u64 s,.int .u64 n] 139))
  clear hr hblk
  go_enter Tryz.func94,Tryz.ntmps94
  go_wp2
  refine bodyPost_ret (v:=.agg #[.int .u64 1129270338,.int .u64 s,.int .u64 n]) (by simp[results,Tryz.results94,go_sem,q0,q1,q2]) rfl ⟨rfl,HB.out⟩
set_option maxRecDepth 100000 in
set_option maxHeartbeats 2000000 in
theorem new_yes (s n:Int) (w:World) (hr:Lay.rightC s n=true) (ht:Cls.Tab w) (hp:TabP w) :
    Calls Tryz.prog 41 #[.agg #[.int .i64 s,.int .i64 n]] w fun e w'=>∃ v h,e = .returned v∧MemC h w' v (Mm.new s n)∧Below w.heap.size w w'∧∀ k,blkM h k→w.heap.size≤k:=by
  obtain⟨r1,r2,r3,r4⟩:=right_64 hr
  obtain⟨z,hz⟩:∃ z:Nat,z=Lay.sizeC s n:=⟨_,rfl⟩
  have hmay:mayN z=true:=by
    obtain⟨S,N,rfl,rfl,h1,h2,h3,h4,h5⟩:=Lay.right_nat hr
    have hb:=Lay.base_sixteen (s:=S) h3
    have e:z=Lay.baseT S N+1024*S:=by rw[hz,Lay.sizeC,if_pos hr];rfl
    obtain⟨p,q⟩:=hb
    rw[show Lay.endT S N=128+16*S+4*N from rfl] at q
    simp[mayN]
    omega
  have HRight:=Lib.hid (fun W (hb:Below w.heap.size w W)=>Lay.right_any s n W (tab_keep hb ht))
  rw[hr] at HRight
  have HSize:=Lib.hid (fun W (hb:Below w.heap.size w W)=>Lay.size_any s n W (tab_keep hb ht) (by omega) (by omega) (by omega) (by omega))
  rw[←hz] at HSize
  have HNew:=Lib.hid (fun W=>newC_yes z W hmay)
  have HOver:=Lib.hid (fun W va ha (hb:Below w.heap.size w W) (har:ArC ha W va (List.replicate z 0))=>over_any s n va (List.replicate z 0) ha W har hr (by rw[List.length_replicate,hz]) (tab_keep hb ht))
  have HStamp:=Lib.hid (fun W=>stampOf_any s n W hr)
  have HPl:=Lib.hid (fun W (k:Nat) (hk:k<3) (hb:Below w.heap.size w W)=>place_any (k:Int) W (hp.keep hb) (by simp[fldM];omega))
  have HZ:=Lib.hid hz
  obtain⟨c1,c2,hlt1,hb⟩:=Lay.one_box (Below.refl (Lay.W1 w s n).heap.size (Lay.W1 w s n))
  unfold Lay.W1 at c1 c2 hlt1 hb
  clear hr ht hp hz hmay
  go_enter Tryz.func41,Tryz.ntmps41
  go_wp2_with fail
  refine(HRight.out _ hb).mono ?_
  rintro e w1 ⟨rfl,hw1⟩
  replace c1:=(hw1.cell (p:=⟨w.heap.size,0,none⟩) hlt1).trans c1
  replace c2:=(hw1.cell (p:=⟨w.heap.size,1,none⟩) hlt1).trans c2
  replace hb:=hb.trans (hw1.mono hb.size)
  replace hlt1:=Nat.lt_of_lt_of_le hlt1 hw1.size
  clear hw1
  go_wp2_with fail
  go_region_held3 (fun w'=>w'.cell? ⟨w.heap.size,0,none⟩=some (.int .i64 s)∧w'.cell? ⟨w.heap.size,1,none⟩=some (.int .i64 n)) (first | exact⟨c1,c2⟩ | go_keep) ((first | (go_at_call 93;refine(HSize.out _ (by first | exact hb | exact hb.drew)).mono ?_;rintro e w2 ⟨rfl,hw2⟩;replace c1:=(hw2.cell (p:=⟨w.heap.size,0,none⟩) hlt1).trans c1;replace c2:=(hw2.cell (p:=⟨w.heap.size,1,none⟩) hlt1).trans c2;(first | replace hb:=hb.trans (hw2.mono hb.size) | replace hb:=hb.drew.trans (hw2.mono hb.size));replace hlt1:=Nat.lt_of_lt_of_le hlt1 hw2.size;clear hw2) | (go_at_call 92;refine(HNew.out _).mono ?_;rintro e w3 ⟨va,ha,rfl,har,hw3,hk3⟩;have hk4:=fun k hk=>Nat.le_trans hb.size (hk3 k hk);replace c1:=(hw3.cell (p:=⟨w.heap.size,0,none⟩) hlt1).trans c1;replace c2:=(hw3.cell (p:=⟨w.heap.size,1,none⟩) hlt1).trans c2;replace hb:=hb.trans (hw3.mono hb.size);replace hlt1:=Nat.lt_of_lt_of_le hlt1 hw3.size;clear hw3 hk3) | (go_at_call 91;refine(HOver.out _ _ _ hb har).mono ?_;rintro e w4 ⟨h,rfl,hha,hm,hw4,hg4,hkw⟩;have hkk:=hb.size;replace c1:=(hw4.cell (p:=⟨w.heap.size,0,none⟩) hlt1).trans c1;replace c2:=(hw4.cell (p:=⟨w.heap.size,1,none⟩) hlt1).trans c2;replace hb:=hb.trans (hw4.mono hb.size);replace hlt1:=Nat.lt_of_lt_of_le hlt1 hw4.size;clear hw4)))
  have hkg:=fun k (hk:blkM h k)=>show w.heap.size≤k from by
    rcases hk with h1 | h1 | h1
    · exact h1 ▸ Nat.le_trans hkk hg4
    · exact Nat.le_trans hkk (hkw k h1)
    · exact hk4 k (hha ▸ h1)
  have HK:=Lib.hid hkg
  have HM:=Lib.hid hm
  have HB:=Lib.hid hb
  clear hkg hm hha hk4 hkk hg4 hkw har
  go_wp2_with fail
  refine(HStamp.out _).mono ?_
  rintro e w5 ⟨rfl,hb5⟩
  obtain⟨W0,hW0⟩:∃ W0:World,W0=w5:=⟨_,rfl⟩
  have HS:Hid (MemC h w5 (.pointer (some ⟨h.g,0,none⟩)) ⟨s,n,stamped s n 0 (List.replicate z 0),kinds0 s n,0,0⟩∧Below w.heap.size w w5):=⟨HM.out.below hb5,HB.out.trans (hb5.mono HB.out.size)⟩
  clear hb5 HB HM c1 c2 hlt1 hb
  go_wp2
  go_loopw [18] (fun i wr=>∃ k:Nat,k≤3∧i = .int .i64 k∧Hid (MemC h wr (.pointer (some ⟨h.g,0,none⟩)) ⟨s,n,stamped s n k (List.replicate z 0),kinds0 s n,0,0⟩∧Below w.heap.size w wr)) (fun i _=>3-(intOf i).toNat)
  case atStart=>exact⟨0,Nat.zero_le _,rfl,HS.out⟩
  case round =>
    obtain⟨k,hk,rfl,HN⟩:=hrel
    by_cases hlt:k<3
    · have hlt1:(k:Int)<3:=by omega
      have hix:=index_stamp 1129270338 s n k hlt
      have hy:(0:Int)≤([1129270338,s,n]:List Int).getD k 0∧([1129270338,s,n]:List Int).getD k 0<18446744073709551616:=by
        rcases(show k=0∨k=1∨k=2 by omega) with rfl | rfl | rfl
        · simp
        · simp;omega
        · simp;omega
      obtain⟨y,hyy⟩:∃ y,y=([1129270338,s,n]:List Int).getD k 0:=⟨_,rfl⟩
      rw[←hyy] at hix hy
      have HY:=Lib.hid hyy
      have HP:=Lib.hid (HPl.out wr k hlt HN.out.2)
      have HPut:Hid (∀ m,Calls Tryz.prog 96 #[.pointer (some ⟨h.a.g,0,none⟩),.int .i64 (fatM (k:Int)),.int .i64 (fwdM (k:Int)),.int .u64 y] (wr.drewN m) fun e w'=>∃ q,e = .returned (.int .i64 q)∧MemC h w' (.pointer (some ⟨h.g,0,none⟩)) ⟨s,n,stamped s n (k+1) (List.replicate z 0),kinds0 s n,0,0⟩∧Below w.heap.size w w'):=by
        intro m
        have hbm:=below_drewN (Below.refl wr.heap.size wr) m
        have hmm:=HN.out.1.below hbm
        refine(putC_any h.a _ _ (fatM (k:Int)) (fwdM (k:Int)) y (wr.drewN m) hmm.ar hy.1 hy.2).mono ?_
        rintro e w6 ⟨rfl,ha6,hf6⟩
        have h7:=hmm.wrote ha6 (putA_length _ _ _ _) hf6 (.bool true)
        refine⟨_,rfl,?_,(HN.out.2.trans (hbm.mono HN.out.2.size)).trans (h7.2.2.toBelow (Nat.le_trans HN.out.2.size hbm.size) (fun j hj hh=>by have:=HK.out j hh;omega))⟩
        have h8:=h7.2.1
        rw[HY.out] at h8
        exact h8
      obtain⟨a,ha0⟩:∃ a,a=fatM (k:Int):=⟨_,rfl⟩
      obtain⟨d,hd0⟩:∃ d,d=fwdM (k:Int):=⟨_,rfl⟩
      rw[←ha0,←hd0] at HP HPut
      have HC:Hid (∀ m,(wr.drewN m).cell? ⟨h.g,1,none⟩=some (.pointer (some ⟨h.a.g,0,none⟩))):=fun m=>(HN.out.1.below (below_drewN (Below.refl wr.heap.size wr) m)).cells.2.1
      clear hyy ha0 hd0 HN hy
      go_wp2_with fail
      refine HP.out.mono ?_
      rintro e w6 ⟨rfl,m,rfl⟩
      have d1:=HC.out m
      have HPut1:=Lib.hid (HPut.out m)
      clear HPut HC HP
      go_wp2_with fail
      refine HPut1.out.mono ?_
      rintro e w7 ⟨q,rfl,hm7⟩
      have HN7:=Lib.hid hm7
      clear hm7
      go_wp2
      go_roundw
      case rel=>exact⟨k+1,by omega,by go_num,HN7.out⟩
      case measure=>simp[intOf];omega
    · obtain rfl:k=3:=by omega
      have HE:Hid (MemC h wr (.pointer (some ⟨h.g,0,none⟩)) (Mm.new s n)∧Below w.heap.size w wr∧∀ k,blkM h k→w.heap.size≤k):=by
        refine⟨?_,HN.out.2,HK.out⟩
        have:=HN.out.1
        rw[HZ.out] at this
        exact this
      clear HN
      go_wp2
      go_ret
      exact⟨_,h,rfl,HE.out⟩
end Go.Proofs.YtmgeiaglandedaaGreatDoor.Mem
