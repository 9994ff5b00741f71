/- The walk of ArenaOf. -/
import Derived.Test.YtncbfagmdldclaaArnR
import Derived.Deep.RegionHeld3
namespace Go.Proofs.Ytncbfagmdldclaa.Arn
open Go.RowKit Num
set_option linter.unusedVariables false

theorem set_ne (l : List Int) (k : Nat) (h : k < l.length) (y : Int) (hy : y ≠ l.getD k 0) : (l.set k y == l) = false := by
  rw [beq_eq_false_iff_ne]
  intro e
  have := congrArg (fun L => L.getD k 0) e
  simp [List.getD, h] at this hy
  exact hy this
theorem set_bytes {l : List Int} (h : IsBytes l) (k : Nat) (y : Int) (h0 : 0 ≤ y) (h1 : y < 256) : IsBytes (l.set k y) :=
  IsBytes.of_mem fun x hx => by
    rcases List.mem_or_eq_of_mem_set hx with hx | rfl
    · exact h.mem hx
    · exact ⟨h0, h1⟩

set_option maxRecDepth 100000 in
set_option maxHeartbeats 2000000 in
theorem arenaOf_walk {H : Type} {blk : H → Nat → Prop} {Ar : H → World → Value → List Int → Prop} {Tb : World → Prop} (D : Does blk Ar Tb) (v : Value) (l : List Int) (a : Int) (w : World) (htb : Tb w) (h64 : is64 a) (hr : Row .u8 w v l) :
    Calls Try.prog 4 #[v, .int .i64 a] w fun e w' => e = .returned (.bool true) ∧ Below w.heap.size w w' := by
  have HD := Lib.hid D
  have HTb := Lib.hid htb
  clear htb
  have HR := Lib.hid hr
  have hby : IsBytes l := hr.bytes
  have hc0 := conv_row hr
  obtain ⟨ad, cap, rfl, q2, q3, q4, q5⟩ := hr
  by_cases hl : (4096 : Int) < l.length
  · clear q4 q5
    go_enter Try.func4, Try.ntmps4
    go_wp2_with fail
    refine (holds_any HD.out _ (by first | exact HTb.out | exact HD.out.keep hb1 HTb.out | exact HD.out.keep HB4.out HTb.out | exact HD.out.keep HB9.out HTb.out)).mono ?_
    rintro e w1 ⟨rfl, hb⟩
    go_wp2
    go_ret
    exact ⟨rfl, hb⟩
  obtain ⟨S, hS⟩ : ∃ S, S = strOfNums l := ⟨_, rfl⟩
  have HS := Lib.hid hS
  rw [← hS] at hc0
  clear hS
  by_cases hm : mayN l.length = true
  · have HOf := Lib.hid (D.of_yes _ l w HR.out hm)
    have HM := Lib.hid (fun (u : World) => may_any (l.length : Int) u)
    rw [hm] at HM
    have HBy := Lib.hid hby
    clear q4 q5 hm hby
    go_enter Try.func4, Try.ntmps4
    go_wp2_with fail
    refine HOf.out.mono ?_
    rintro e w1 ⟨va, h, rfl, ha1, hb1, hk1⟩
    obtain ⟨g, rfl⟩ := HD.out.ptr _ _ _ _ ha1
    have HA1 := Lib.hid ha1
    have HK := Lib.hid hk1
    have st : ∀ {u u' : World} {L : List Int}, Below u.heap.size u u' → Ar h u (.pointer (some ⟨g, 0, none⟩)) L → Ar h u' (.pointer (some ⟨g, 0, none⟩)) L := fun hb ha =>
      HD.out.stay _ _ _ _ _ _ (fun _ => False) ha (Fr.of_below hb) (fun k hk => ⟨HD.out.lt _ _ _ _ ha k hk, fun h => h⟩)
    have HLn := Lib.hid (HD.out.len h _ l w1 ha1)
    clear ha1 hk1 HOf
    go_wp2_with fail
    refine (HM.out _).mono ?_
    rintro e w' ⟨rfl, rfl⟩
    go_wp2_with fail
    refine HLn.out.mono ?_
    rintro e w2 ⟨rfl, hb2⟩
    have HA2 := Lib.hid (st hb2 HA1.out)
    have HIm := Lib.hid (HD.out.image h _ l w2 HA2.out)
    have HB2 := Lib.hid (hb1.trans (hb2.mono hb1.size))
    clear HLn HA1 hb1 hb2 HM
    go_wp2_with fail
    refine HIm.out.mono ?_
    rintro e w3 ⟨u3, rfl, hb3, hn3⟩
    have HA3 := Lib.hid (st hb3 HA2.out)
    have hc3 := conv_row hn3.1
    rw [← HS.out] at hc3
    have hSS : (S.toList == S.toList) = true := by simp
    have HB3 := Lib.hid (HB2.out.trans (hb3.mono (below_le HB2.out rfl)))
    have HVw := Lib.hid (HD.out.view h _ l a 1 w3 HA3.out h64)
    obtain ⟨ua, uc, rfl, -⟩ := hn3.1
    clear hn3 hb3 HIm HA2
    by_cases hf : fitB l.length a 1 = true
    · obtain ⟨p, y, rfl, hy, hpy⟩ := fitB_nat hf
      obtain rfl : y = 1 := by omega
      have HFt := Lib.hid hf
      have HPy := Lib.hid hpy
      clear hf hpy hy
      go_wp2_with fail
      refine HVw.out.mono ?_
      rintro e w4 ⟨hb4, hv⟩
      obtain ⟨xa, rfl, hrow4, hset⟩ : ∃ x, e = .returned (.tuple #[.slice x 1 1, .int .i64 0]) ∧ ViewAt blk Ar w4 (.pointer (some ⟨g, 0, none⟩)) h l p 1 x := by
        rcases hv with ⟨-, hh⟩ | ⟨hh, -⟩
        · exact hh
        · rw [HFt.out] at hh
          cases hh
      have HA4 := Lib.hid (st hb4 HA3.out)
      have HB4 := Lib.hid (HB3.out.trans (hb4.mono (below_le HB3.out rfl)))
      obtain ⟨vb, vo, rfl, hblk, hw⟩ := hset (by decide)
      obtain ⟨hfz, -, hst⟩ := hw w4 l HA4.out 0 (by decide)
      have hplt : p < l.length := by have := HPy.out; omega
      obtain ⟨z, hz⟩ : ∃ z, z = l.getD p 0 := ⟨_, rfl⟩
      have hzb := HBy.out p
      rw [← hz] at hzb
      have hcv : w4.cell? ⟨vb, vo, none⟩ = some (.int .u8 z) := by
        obtain ⟨a', c', e1, -, -, -, q5⟩ := hrow4
        injection e1 with e1 _ _
        have hlen : ((l.drop p).take 1).length = 1 := by rw [List.length_take, List.length_drop]; omega
        obtain ⟨b', o', e2, -, hc⟩ := q5 (by intro h0; rw [h0] at hlen; simp at hlen)
        rw [← e1] at e2
        injection e2 with e2
        injection e2 with e2 e3 _
        subst e2 e3
        have := hc 0 (by omega)
        rw [Nat.add_zero] at this
        rw [this, hz]
        simp [List.getD, hplt]
      obtain ⟨y, hy⟩ : ∃ y, y = (z + 1) % 256 := ⟨_, rfl⟩
      have hwy : IntKind.u8.wrap (z + 1) = y := by rw [hy]; simp [IntKind.wrap, IntKind.bits, IntKind.signed]
      have hst2 := hst y (by omega) (by omega)
      simp only [Nat.add_zero] at hfz hst2
      have HBl := Lib.hid hblk
      have HA5 := Lib.hid hst2
      have HB5 := Lib.hid (HB4.out.setCell (p := ⟨vb, vo, none⟩) (HK.out _ hblk) (.int .u8 y))
      have HIm2 := Lib.hid (HD.out.image h _ _ _ hst2)
      have hne : (l.set p y == l) = false := set_ne l p hplt y (by rw [← hz]; omega)
      have hS1 : ((strOfNums (l.set p y)).toList == S.toList) = false := by
        rw [HS.out, strOfNums_toList_beq (set_bytes HBy.out p y (by omega) (by omega)) HBy.out]
        exact hne
      obtain ⟨M, hM⟩ : ∃ M, M = l.set p y := ⟨_, rfl⟩
      have hMl : M.length = l.length := by rw [hM, List.length_set]
      have hMp : M.getD p 0 = y := by rw [hM]; simp [List.getD, hplt]
      rw [← hM] at hS1 HA5 HIm2
      obtain ⟨S1, hS1'⟩ : ∃ S1, S1 = strOfNums M := ⟨_, rfl⟩
      rw [← hS1'] at hS1
      have HS1 := Lib.hid hS1'
      have HMl := Lib.hid hMl
      have HMp := Lib.hid hMp
      have HZ := Lib.hid hz
      have HPl := Lib.hid hplt
      clear hM hMl hMp hz hplt hS1' hne hst hst2 hw hset hrow4 hv hblk hb4 hy HVw HBy
      go_wp2_with fail
      refine HIm2.out.mono ?_
      rintro e w6 ⟨u6, rfl, hb6, hn6⟩
      have hMne : M ≠ [] := by intro h0; have := HMl.out; rw [h0] at this; have := HPl.out; simp at *; omega
      obtain ⟨a6, c6, rfl, r6, r6', -, r6c⟩ := id hn6.1
      obtain ⟨b6, o6, rfl, hlt6, hcl6⟩ := r6c hMne
      obtain ⟨hge6, hfz6⟩ := hn6.2 b6 o6 _ _ rfl hMne
      have hMpos := List.length_pos_iff.2 hMne
      have hc6 := hcl6 0 hMpos
      have hf6 := hfz6 0 hMpos
      rw [Nat.add_zero] at hc6 hf6
      obtain ⟨m0, hm0⟩ : ∃ m0, m0 = M.getD 0 0 := ⟨_, rfl⟩
      rw [← hm0] at hc6
      obtain ⟨m1, hm1⟩ : ∃ m1, m1 = IntKind.u8.wrap (m0 + 1) := ⟨_, rfl⟩
      have hwm := hm1.symm
      have hb7 := hb6.setCell (p := ⟨b6, o6, none⟩) hge6 (.int .u8 m1)
      have ha := st hb7 HA5.out
      have hb := HB5.out.trans (hb7.mono (below_le HB5.out rfl))
      have hc7 := conv_row (HR.out.mono hb (Nat.le_refl _))
      have hc7d := conv_row (HR.out.mono hb.drew (Nat.le_refl _))
      rw [← HS.out] at hc7 hc7d
      have hpM : (p : Int) < (M.length : Int) := by have := HMl.out; have := HPl.out; omega
      have hpl : (p : Int) < (l.length : Int) := by have := HPl.out; omega
      have hp0 : (0 : Int) ≤ (p : Int) := by omega
      have hM0 : (0 : Int) < (M.length : Int) := by omega
      obtain ⟨bb, bo, rfl, hlb, hlc⟩ : ∃ bb bo, ad = some ⟨bb, bo, none⟩ ∧ bb < w.heap.size ∧ w.cell? ⟨bb, bo + p, none⟩ = some (.int .u8 z) := by
        obtain ⟨a', c', e1, -, -, -, q5⟩ := HR.out
        injection e1 with e1 _ _
        obtain ⟨b', o', e2, hlt', hc⟩ := q5 (by intro h0; rw [h0] at hpl; simp at hpl; omega)
        exact ⟨b', o', e1.trans e2, hlt', by rw [HZ.out]; exact hc p HPl.out⟩
      have HImg : Hid (∀ W, Ar h W (.pointer (some ⟨g, 0, none⟩)) M → Below w.heap.size w W → Calls Try.prog 12 #[.pointer (some ⟨g, 0, none⟩)] W fun e w' =>
          ∃ bu ou cu, e = .returned (.slice (some ⟨bu, ou, none⟩) M.length cu) ∧ Ar h w' (.pointer (some ⟨g, 0, none⟩)) M ∧ Below w.heap.size w w' ∧ w'.cell? ⟨bu, ou + p, none⟩ = some (.int .u8 y) ∧ w'.cell? ⟨bb, bo + p, none⟩ = some (.int .u8 z) ∧ (convert 32 9 (.slice (some ⟨bu, ou, none⟩) M.length cu)).run Try.prog w' = .ok (.string S1) w') := by
        intro W ha hb
        refine (HD.out.image h _ M W ha).mono ?_
        rintro e w' ⟨u, rfl, hb', hn⟩
        have hbb := hb.trans (hb'.mono (below_le hb rfl))
        have hcu := conv_row hn.1
        rw [← HS1.out] at hcu
        obtain ⟨au, cu, rfl, -, -, -, qc⟩ := hn.1
        obtain ⟨bu, ou, rfl, -, hcc⟩ := qc hMne
        exact ⟨bu, ou, cu, rfl, st hb' ha, hbb, by rw [hcc p (by omega), HMp.out], (hbb.cell (p := ⟨bb, bo + p, none⟩) hlb).trans hlc, hcu⟩
      have hyy : (y == y) = true := by simp
      have hS1a : ¬ S1 = S := by rintro rfl; simp at hS1
      have HLC := Lib.hid hlc
      clear hn6 hb6 r6c hcl6 hfz6 hm0 hm1 hb7 hlc r6 hlt6
      go_wp2_with fail
      generalize w6.setCell ⟨b6, o6, none⟩ (.int .u8 m1) = W7 at ha hb hc7 hc7d ⊢
      clear hc6 hf6 hge6 r6' hwm
      have c0 : W7.cell? ⟨bb, bo + p, none⟩ = some (.int .u8 z) := (hb.cell (p := ⟨bb, bo + p, none⟩) hlb).trans HLC.out
      refine wp_region_held_drew (S := fun w' => w'.cell? ⟨bb, bo + p, none⟩ = some (.int .u8 z)) (by kernel_rfl) c0 (fun hHeld => ?_)
      refine wpAnyH_take (i := 0) (v := ?v0) rfl (by kernel_rfl) (by kernel_rfl) (by kernel_rfl) (fun _ _ _ h => h) (Or.inl ⟨by rfl, ?y0⟩) (by assumption) ?r0
      case y0 => (intro w hSw; (try dsimp only at hSw); go_simp; all_goals (with_reducible rfl))
      try simp only [Act.put, List.getElem_toArray, List.getElem_cons_zero, List.getElem_cons_succ, List.setIfInBounds_toArray, List.set_cons_zero, List.set_cons_succ]
      refine wpAnyH_take (i := 2) (v := ?v2) rfl (by kernel_rfl) (by kernel_rfl) (by kernel_rfl) (fun _ _ _ h => h) (Or.inl ⟨by rfl, ?y2⟩) (by assumption) ?r2
      case y2 => (intro w hSw; (try dsimp only at hSw); go_simp; all_goals (with_reducible rfl))
      try simp only [Act.put, List.getElem_toArray, List.getElem_cons_zero, List.getElem_cons_succ, List.setIfInBounds_toArray, List.set_cons_zero, List.set_cons_succ]
      refine wpAnyH_ready (rs := [1]) (by kernel_rfl) (by simp) ?_
      refine AllReadyH.cons rfl (fun K hK => ?_) AllReadyH.nil
      go_simp
      refine hK.out _ _ c0 (fun hHeld => ?_)
      clear hK K
      try simp only [Act.put, List.getElem_toArray, List.getElem_cons_zero, List.getElem_cons_succ, List.setIfInBounds_toArray, List.set_cons_zero, List.set_cons_succ]
      refine wpAnyH_take (i := 3) (v := ?v3) rfl (by kernel_rfl) (by kernel_rfl) (by kernel_rfl) (fun _ _ _ h => h) (Or.inl ⟨by rfl, ?y3⟩) (by assumption) ?r3
      case y3 => (intro w hSw; (try dsimp only at hSw); go_simp; all_goals (with_reducible rfl))
      try simp only [Act.put, List.getElem_toArray, List.getElem_cons_zero, List.getElem_cons_succ, List.setIfInBounds_toArray, List.set_cons_zero, List.set_cons_succ]
      refine wpAnyH_take (i := 4) (v := ?v4) rfl (by kernel_rfl) (by kernel_rfl) (by kernel_rfl) (fun _ _ _ h => h) (Or.inl ⟨by rfl, ?y4⟩) (by assumption) ?r4
      case y4 => (intro w hSw; (try dsimp only at hSw); go_simp; all_goals (with_reducible rfl))
      try simp only [Act.put, List.getElem_toArray, List.getElem_cons_zero, List.getElem_cons_succ, List.setIfInBounds_toArray, List.set_cons_zero, List.set_cons_succ]
      refine wpAnyH_take (i := 5) (v := ?v5) rfl (by kernel_rfl) (by kernel_rfl) (by kernel_rfl) (fun _ _ _ h => h) (Or.inl ⟨by rfl, ?y5⟩) (by assumption) ?r5
      case y5 => (intro w hSw; (try dsimp only at hSw); go_simp; all_goals (with_reducible rfl))
      try simp only [Act.put, List.getElem_toArray, List.getElem_cons_zero, List.getElem_cons_succ, List.setIfInBounds_toArray, List.set_cons_zero, List.set_cons_succ]
      refine wpAnyH_take (i := 8) (v := ?v8) rfl (by kernel_rfl) (by kernel_rfl) (by kernel_rfl) (fun _ _ _ h => h) (Or.inl ⟨by rfl, ?y8⟩) (by assumption) ?r8
      case y8 => (intro w hSw; (try dsimp only at hSw); go_simp; all_goals (with_reducible rfl))
      try simp only [Act.put, List.getElem_toArray, List.getElem_cons_zero, List.getElem_cons_succ, List.setIfInBounds_toArray, List.set_cons_zero, List.set_cons_succ]
      refine wpAnyH_ready (rs := [6]) (by kernel_rfl) (by simp) ?_
      refine AllReadyH.cons rfl (fun K hK => ?_) AllReadyH.nil
      go_simp
      go_at_call 12
      refine (HImg.out _ (by first | exact ha | exact st (Below.refl _ _).drew ha) (by first | exact hb | exact hb.drew)).mono ?_
      rintro e w8 ⟨bu, ou, cu, rfl, ha8, hb8, k1, k2, k3⟩
      replace ha := ha8
      replace hb := hb8
      replace c0 := k2
      clear ha8 hb8 k2
      go_wp2_with fail
      refine hK.out _ _ c0 (fun hHeld => ?_)
      clear hK K
      try simp only [Act.put, List.getElem_toArray, List.getElem_cons_zero, List.getElem_cons_succ, List.setIfInBounds_toArray, List.set_cons_zero, List.set_cons_succ]
      refine wpAnyH_ready (rs := [7]) (by kernel_rfl) (by simp) ?_
      refine AllReadyH.cons rfl (fun K hK => ?_) AllReadyH.nil
      go_simp
      refine hK.out _ _ c0 (fun hHeld => ?_)
      clear hK K
      try simp only [Act.put, List.getElem_toArray, List.getElem_cons_zero, List.getElem_cons_succ, List.setIfInBounds_toArray, List.set_cons_zero, List.set_cons_succ]
      refine wpAnyH_take (i := 9) (v := ?v9) rfl (by kernel_rfl) (by kernel_rfl) (by kernel_rfl) (fun _ _ _ h => h) (Or.inl ⟨by rfl, ?y9⟩) (by assumption) ?r9
      case y9 => (intro w hSw; (try dsimp only at hSw); go_simp; all_goals (with_reducible rfl))
      try simp only [Act.put, List.getElem_toArray, List.getElem_cons_zero, List.getElem_cons_succ, List.setIfInBounds_toArray, List.set_cons_zero, List.set_cons_succ]
      refine wpAnyH_take (i := 10) (v := ?v10) rfl (by kernel_rfl) (by kernel_rfl) (by kernel_rfl) (fun _ _ _ h => h) (Or.inl ⟨by rfl, ?y10⟩) (by assumption) ?r10
      case y10 => (intro w hSw; (try dsimp only at hSw); go_simp; all_goals (with_reducible rfl))
      try simp only [Act.put, List.getElem_toArray, List.getElem_cons_zero, List.getElem_cons_succ, List.setIfInBounds_toArray, List.set_cons_zero, List.set_cons_succ]
      refine wpAnyH_take (i := 11) (v := ?v11) rfl (by kernel_rfl) (by kernel_rfl) (by kernel_rfl) (fun _ _ _ h => h) (Or.inl ⟨by rfl, ?y11⟩) (by assumption) ?r11
      case y11 => (intro w hSw; (try dsimp only at hSw); go_simp; all_goals (with_reducible rfl))
      try simp only [Act.put, List.getElem_toArray, List.getElem_cons_zero, List.getElem_cons_succ, List.setIfInBounds_toArray, List.set_cons_zero, List.set_cons_succ]
      refine wpAnyH_take (i := 12) (v := ?v12) rfl (by kernel_rfl) (by kernel_rfl) (by kernel_rfl) (fun _ _ _ h => h) (Or.inl ⟨by rfl, ?y12⟩) (by assumption) ?r12
      case y12 => (intro w hSw; (try dsimp only at hSw); go_simp; all_goals (with_reducible rfl))
      try simp only [Act.put, List.getElem_toArray, List.getElem_cons_zero, List.getElem_cons_succ, List.setIfInBounds_toArray, List.set_cons_zero, List.set_cons_succ]
      refine wpAnyH_take (i := 14) (v := ?v14) rfl (by kernel_rfl) (by kernel_rfl) (by kernel_rfl) (fun _ _ _ h => h) (Or.inl ⟨by rfl, ?y14⟩) (by assumption) ?r14
      case y14 => (intro w hSw; (try dsimp only at hSw); go_simp; all_goals (with_reducible rfl))
      try simp only [Act.put, List.getElem_toArray, List.getElem_cons_zero, List.getElem_cons_succ, List.setIfInBounds_toArray, List.set_cons_zero, List.set_cons_succ]
      refine wpAnyH_take (i := 17) (v := ?v17) rfl (by kernel_rfl) (by kernel_rfl) (by kernel_rfl) (fun _ _ _ h => h) (Or.inl ⟨by rfl, ?y17⟩) (by assumption) ?r17
      case y17 => (intro w hSw; (try dsimp only at hSw); go_simp; all_goals (with_reducible rfl))
      try simp only [Act.put, List.getElem_toArray, List.getElem_cons_zero, List.getElem_cons_succ, List.setIfInBounds_toArray, List.set_cons_zero, List.set_cons_succ]
      refine wpAnyH_take (i := 18) (v := ?v18) rfl (by kernel_rfl) (by kernel_rfl) (by kernel_rfl) (fun _ _ _ h => h) (Or.inl ⟨by rfl, ?y18⟩) (by assumption) ?r18
      case y18 => (intro w hSw; (try dsimp only at hSw); go_simp; all_goals (with_reducible rfl))
      try simp only [Act.put, List.getElem_toArray, List.getElem_cons_zero, List.getElem_cons_succ, List.setIfInBounds_toArray, List.set_cons_zero, List.set_cons_succ]
      refine wpAnyH_take (i := 19) (v := ?v19) rfl (by kernel_rfl) (by kernel_rfl) (by kernel_rfl) (fun _ _ _ h => h) (Or.inl ⟨by rfl, ?y19⟩) (by assumption) ?r19
      case y19 => (intro w hSw; (try dsimp only at hSw); go_simp; all_goals (with_reducible rfl))
      try simp only [Act.put, List.getElem_toArray, List.getElem_cons_zero, List.getElem_cons_succ, List.setIfInBounds_toArray, List.set_cons_zero, List.set_cons_succ]
      refine wpAnyH_take (i := 20) (v := ?v20) rfl (by kernel_rfl) (by kernel_rfl) (by kernel_rfl) (fun _ _ _ h => h) (Or.inl ⟨by rfl, ?y20⟩) (by assumption) ?r20
      case y20 => (intro w hSw; (try dsimp only at hSw); go_simp; all_goals (with_reducible rfl))
      try simp only [Act.put, List.getElem_toArray, List.getElem_cons_zero, List.getElem_cons_succ, List.setIfInBounds_toArray, List.set_cons_zero, List.set_cons_succ]
      refine wpAnyH_take (i := 21) (v := ?v21) rfl (by kernel_rfl) (by kernel_rfl) (by kernel_rfl) (fun _ _ _ h => h) (Or.inl ⟨by rfl, ?y21⟩) (by assumption) ?r21
      case y21 => (intro w hSw; (try dsimp only at hSw); go_simp; all_goals (with_reducible rfl))
      try simp only [Act.put, List.getElem_toArray, List.getElem_cons_zero, List.getElem_cons_succ, List.setIfInBounds_toArray, List.set_cons_zero, List.set_cons_succ]
      refine wpAnyH_ready (rs := [13]) (by kernel_rfl) (by simp) ?_
      refine AllReadyH.cons rfl (fun K hK => ?_) AllReadyH.nil
      go_simp
      go_at_call 12
      refine (HImg.out _ (by first | exact ha | exact st (Below.refl _ _).drew ha) (by first | exact hb | exact hb.drew)).mono ?_
      rintro e w8 ⟨bu, ou, cu, rfl, ha8, hb8, k1, k2, k3⟩
      replace ha := ha8
      replace hb := hb8
      replace c0 := k2
      clear ha8 hb8 k2
      go_wp2_with fail
      refine hK.out _ _ c0 (fun hHeld => ?_)
      clear hK K
      try simp only [Act.put, List.getElem_toArray, List.getElem_cons_zero, List.getElem_cons_succ, List.setIfInBounds_toArray, List.set_cons_zero, List.set_cons_succ]
      refine wpAnyH_take (i := 15) (v := ?v15) rfl (by kernel_rfl) (by kernel_rfl) (by kernel_rfl) (fun _ _ _ h => h) (Or.inl ⟨by rfl, ?y15⟩) (by assumption) ?r15
      case y15 => (intro w hSw; (try dsimp only at hSw); go_simp; all_goals (with_reducible rfl))
      try simp only [Act.put, List.getElem_toArray, List.getElem_cons_zero, List.getElem_cons_succ, List.setIfInBounds_toArray, List.set_cons_zero, List.set_cons_succ]
      refine wpAnyH_ready (rs := [16]) (by kernel_rfl) (by simp) ?_
      refine AllReadyH.cons rfl (fun K hK => ?_) AllReadyH.nil
      go_simp
      refine hK.out _ _ c0 (fun hHeld => ?_)
      clear hK K
      try simp only [Act.put, List.getElem_toArray, List.getElem_cons_zero, List.getElem_cons_succ, List.setIfInBounds_toArray, List.set_cons_zero, List.set_cons_succ]
      refine wpAnyH_take (i := 22) (v := ?v22) rfl (by kernel_rfl) (by kernel_rfl) (by kernel_rfl) (fun _ _ _ h => h) (Or.inl ⟨by rfl, ?y22⟩) (by assumption) ?r22
      case y22 => (intro w hSw; (try dsimp only at hSw); go_simp; all_goals (with_reducible rfl))
      try simp only [Act.put, List.getElem_toArray, List.getElem_cons_zero, List.getElem_cons_succ, List.setIfInBounds_toArray, List.set_cons_zero, List.set_cons_succ]
      refine wpAnyH_take (i := 23) (v := ?v23) rfl (by kernel_rfl) (by kernel_rfl) (by kernel_rfl) (fun _ _ _ h => h) (Or.inl ⟨by rfl, ?y23⟩) (by assumption) ?r23
      case y23 => (intro w hSw; (try dsimp only at hSw); go_simp; all_goals (with_reducible rfl))
      try simp only [Act.put, List.getElem_toArray, List.getElem_cons_zero, List.getElem_cons_succ, List.setIfInBounds_toArray, List.set_cons_zero, List.set_cons_succ]
      refine wpAnyH_done (by kernel_rfl) ?_ _
      all_goals
        have HB9 := Lib.hid hb
        clear ha hb
        go_wp2_with fail
        refine (holds_any HD.out _ (by first | exact HTb.out | exact HD.out.keep hb1 HTb.out | exact HD.out.keep HB4.out HTb.out | exact HD.out.keep HB9.out HTb.out)).mono ?_
        rintro e w10 ⟨rfl, hb10⟩
        go_wp2
        go_ret
        exact ⟨rfl, HB9.out.trans (hb10.mono (below_le HB9.out rfl))⟩
    · have hf' : fitB l.length a 1 = false := by simpa using hf
      have HFt := Lib.hid hf'
      clear hf hf'
      go_wp2_with fail
      refine HVw.out.mono ?_
      rintro e w4 ⟨hb4, hv⟩
      obtain rfl : e = .returned (.tuple #[.slice none 0 0, .int .i64 6]) := by
        rcases hv with ⟨hh, -⟩ | ⟨-, hh⟩
        · rw [HFt.out] at hh
          cases hh
        · exact hh
      clear hv
      have HB4 := Lib.hid (HB3.out.trans (hb4.mono (below_le HB3.out rfl)))
      clear hb4
      go_wp2_with fail
      refine (holds_any HD.out _ (by first | exact HTb.out | exact HD.out.keep hb1 HTb.out | exact HD.out.keep HB4.out HTb.out | exact HD.out.keep HB9.out HTb.out)).mono ?_
      rintro e w5 ⟨rfl, hb5⟩
      go_wp2
      go_ret
      exact ⟨rfl, HB4.out.trans (hb5.mono (below_le HB4.out rfl))⟩
  · have hm' : mayN l.length = false := by simpa using hm
    have HOf := Lib.hid (D.of_no _ l w HR.out hm')
    have HM := Lib.hid (fun (u : World) => may_any (l.length : Int) u)
    rw [hm'] at HM
    clear q4 q5 hm hm' hby
    go_enter Try.func4, Try.ntmps4
    go_wp2_with fail
    refine HOf.out.mono ?_
    rintro e w1 ⟨rfl, hb1⟩
    go_wp2_with fail
    refine (HM.out _).mono ?_
    rintro e w' ⟨rfl, rfl⟩
    go_wp2_with fail
    refine (holds_any HD.out _ (by first | exact HTb.out | exact HD.out.keep hb1 HTb.out | exact HD.out.keep HB4.out HTb.out | exact HD.out.keep HB9.out HTb.out)).mono ?_
    rintro e w2 ⟨rfl, hb2⟩
    go_wp2
    go_ret
    exact ⟨rfl, hb1.trans (hb2.mono hb1.size)⟩
end Go.Proofs.Ytncbfagmdldclaa.Arn
