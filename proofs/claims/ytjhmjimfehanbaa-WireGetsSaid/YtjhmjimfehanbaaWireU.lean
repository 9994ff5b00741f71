/- Contract of wire's Pack. -/
import Derived.Test.YtjhmjimfehanbaaWireT
namespace Go.Proofs.Ytjhmjimfehanbaa.Wire
open Go.RowKit Fold Name
set_option linter.unusedVariables false

theorem infoIntW : (Try.prog.info? 3).map (fun i => (i.zero, i.size, i.bytes)) = some (some (.int .i64 0), 1, 8) := by kernel_rfl
def valsI (l : List Int) : List Value := l.map (.int .i64)
theorem valsI_snoc (l : List Int) (x : Int) : valsI (l ++ [x]) = valsI l ++ [.int .i64 x] := by simp [valsI]
theorem rowI_of_owns {w : World} {base : Nat} {t : TypeId} {v : Value} {n : Nat} {l : List Int} (h : w.ownsRow base t 1 v n (valsI l)) (hn : l.length = n) (hb : ∀ x ∈ l, 0 ≤ x ∧ x ≤ 100000) : Row .i64 w v l := by
  obtain ⟨h1, h2⟩ := h
  subst hn
  rcases h2 with ⟨rfl, h0⟩ | ⟨g, cap, cur, rfl, hg, hh, hle, hm, hsz, htk⟩
  · obtain rfl : l = [] := List.eq_nil_of_length_eq_zero h0
    exact Row.nil _ _
  · have hget : ∀ i, i < l.length → l.getD i 0 ∈ l := fun i hi => by
      have e : l.getD i 0 = l[i] := by simp [List.getD, hi]
      rw [e]; exact List.getElem_mem hi
    refine ⟨_, cap, rfl, hle, by unfold maxLen at hm; omega, fun i hi => ?_, fun _ => ⟨g, 0, rfl, (Array.getElem?_eq_some_iff.1 hh).1, fun i hi => ?_⟩⟩
    · have := hb _ (hget i hi); exact WalkArith.wf_i64 (by omega)
    · rw [Nat.zero_add, cell_block hh]
      have e : (valsI l)[i]? = some (.int .i64 (l.getD i 0)) := by simp [valsI, hi, List.getD]
      rw [← htk, List.getElem?_take_of_lt (by omega)] at e
      rw [← e]
      simp
/-- A row that the call owns stays, whatever was done to other blocks. -/
theorem ownsRow_fr {N : Nat} {S : Nat → Prop} {B : Nat} {e : TypeId} {k : Nat} {v : Value} {n : Nat} {xs : List Value} {w w' : World} (h : w.ownsRow B e k v n xs) (hf : FrN N S w w') (hN : w.heap.size ≤ N) (hS : ∀ r, v.ownBlock = some r → ¬ S r) : w'.ownsRow B e k v n xs := by
  refine ⟨h.1, ?_⟩
  rcases h.2 with hn | ⟨g, cap, cur, rfl, hb, hgg, rest⟩
  · exact .inl hn
  · have hlt := (Array.getElem?_eq_some_iff.1 hgg).1
    exact .inr ⟨g, cap, cur, rfl, hb, (hf.block g (by omega) (hS g rfl)).trans hgg, rest⟩
theorem PS.kept {w w' : World} {B g m n : Nat} {V : Value} {b : List Int} {D : DataW Unit} {row : Option Nat} (h : PS w B g m n V b D) (hg : w.grownBy w' row) (h1 : some g ≠ row) (h2 : some m ≠ row) (h3 : V.ownBlock = none ∨ V.ownBlock ≠ row) : PS w' B g m n V b D :=
  ⟨(hg.block g h.lt h1).trans h.1, h.2.1.kept hg h3, h.2.2.kept hg h2⟩
theorem encN_mem (t : List (List ByteArray × Nat)) (b : List Int) (l : List ByteArray) (hl : allLab l = true) (hb : ∀ x ∈ b, 0 ≤ x ∧ x < 256) (ht : ∀ x p, (x, p) ∈ t → p < 16384) (hlen : b.length + wire l ≤ 16384) : ∀ x ∈ (encN t b l).1, 0 ≤ x ∧ x < 256 := by
  induction l generalizing t b with
  | nil =>
    intro x hx
    simp only [encN, List.mem_append, List.mem_singleton] at hx
    rcases hx with h | h
    · exact hb x h
    · omega
  | cons s l ih =>
    have hh : labS s = 0 ∧ allLab l = true := by
      unfold allLab at hl ⊢
      simp only [List.all_cons, Bool.and_eq_true, beq_iff_eq] at hl
      exact hl
    have hz := labS_size hh.1
    have hw := wire_pos l
    simp only [wire] at hlen
    cases hf : fnd t ((s :: l).map lowS) with
    | some to =>
      rw [encN_hit hf]
      have := ht _ _ (fnd_mem hf)
      intro x hx
      simp only [List.mem_append, List.mem_cons, List.not_mem_nil, or_false] at hx
      rcases hx with h | h | h
      · exact hb x h
      · omega
      · omega
    | none =>
      rw [encN_miss hf]
      refine ih _ _ hh.2 ?_ ?_ (by simp [bs_length, lowS_size]; omega)
      · intro x hx
        simp only [List.mem_append, List.mem_cons] at hx
        rcases hx with h | h | h
        · exact hb x h
        · omega
        · exact bs_mem _ x h
      · intro x p hx
        rcases List.mem_append.1 hx with h | h
        · exact ht x p h
        · simp at h; omega
theorem few5_wire {L : List (List ByteArray)} (h : few5 L = true) (k : Nat) (hk : k < L.length) : wire (L.getD k []) ≤ 3301 := by
  have e : L.getD k [] = L[k] := by simp [List.getD, hk]
  simp only [few5, Bool.and_eq_true] at h
  have := List.all_eq_true.1 h.2.1 _ (List.getElem_mem hk)
  rw [e]
  exact (few_out this).2
theorem packF_yes {t : List (List ByteArray × Nat)} {b ps : List Int} {l : List ByteArray} {r : List (List ByteArray)} (h : chk l = 0) : packF t b ps (l :: r) = packF (encN t b l).2 (encN t b l).1 (ps ++ [(b.length : Int)]) r := by rw [packF, if_pos h]
theorem packF_no {t : List (List ByteArray × Nat)} {b ps : List Int} {l : List ByteArray} {r : List (List ByteArray)} (h : ¬ chk l = 0) : packF t b ps (l :: r) = ([], [], chk l) := by rw [packF, if_neg h]

theorem PS.start (w : World) : PS ((w.alloc (.map #[] 0)).alloc (.cells #[.slice none 0 0, .map (some w.heap.size)] 57)) (w.heap.size + 2) (w.heap.size + 1) w.heap.size 0 (.slice none 0 0) [] (.map []) := by
  have hs := size_alloc w (.map #[] 0)
  refine ⟨?_, World.ownsRow_nil _ _ _ _, (World.ownsMap_made w Try.prog 9 _).alloc _⟩
  have := heap_alloc_new (w.alloc (.map #[] 0)) (.cells #[.slice none 0 0, .map (some w.heap.size)] 57)
  rw [hs] at this
  exact this
theorem valsI_get (l : List Int) (i : Nat) (h : i < l.length) : (valsI l)[i]? = some (.int .i64 (l.getD i 0)) := by simp [valsI, h, List.getD]

set_option maxRecDepth 100000 in
set_option maxHeartbeats 4000000 in
theorem pack_any (v : Value) (L : List (List ByteArray)) (w : World) (hr : NRow w v L) (hf5 : few5 L = true) : Calls Try.prog 15 #[v] w (PGot w (packW L)) := by
  obtain ⟨i0, hi, hz0, hz1, hz2⟩ := info_parts infoIntW
  obtain ⟨ad, cap, U, rfl, q2, q3, q4, q5⟩ := hr
  have HC := Lib.hid q5
  have HS := Lib.hid q4
  have HW := Lib.hid (fun k hk => few5_wire hf5 k hk)
  clear q4 q5 hf5
  by_cases h64 : 64 < L.length
  · have h1 : (64 : Int) < (L.length : Int) := by omega
    have HE : Hid (PGot w (packW L) (.returned (.tuple #[.slice none 0 0, .slice none 0 0, .int .i64 2])) w) := by
      unfold Hid packW
      rw [if_pos h64]
      exact ⟨_, _, rfl, Below.refl _ _, Row.nil _ _, Row.nil _ _⟩
    clear h64
    go_enter Try.func15, Try.ntmps15
    go_wp2
    go_ret3
    exact HE.out
  · have h1 : ¬ (64 : Int) < (L.length : Int) := by omega
    have hpw : packW L = packF [] [] [] L := by unfold packW; rw [if_neg h64]
    rw [hpw]
    have hL64 : L.length ≤ 64 := by omega
    have hmm := @run_makeMap Try.prog
    clear hpw h64
    go_enter Try.func15, Try.ntmps15
    go_wp2
    have HPS := Lib.hid (PS.start w)
    have hbel0 : Below w.heap.size w ((w.alloc (.map #[] 0)).alloc (.cells #[.slice none 0 0, .map (some w.heap.size)] 57)) := ((Below.refl _ w).alloc (Nat.le_refl _) _).alloc (by simp) _
    have hs0 : ((w.alloc (.map #[] 0)).alloc (.cells #[.slice none 0 0, .map (some w.heap.size)] 57)).heap.size = w.heap.size + 2 := by rw [size_alloc, size_alloc]
    go_loopw [6, 18] (fun ps i wr => ∃ (k : Nat) (t : List (List ByteArray × Nat)) (b P : List Int) (V : Value) (n : Nat) (D : DataW Unit), k ≤ L.length ∧ i = .int .i64 k ∧ Hid (packF t b P (L.drop k) = packF [] [] [] L) ∧ Hid (PS wr (w.heap.size + 2) (w.heap.size + 1) w.heap.size n V b D) ∧ Hid (MapOk D t) ∧ Hid (∀ x p, (x, p) ∈ t → p < 16384) ∧ Hid (b.length ≤ 255 * k) ∧ Hid (n ≤ 255 * k) ∧ Hid (P.length = k) ∧
      Hid (wr.ownsRow (w.heap.size + 2) 3 1 ps k (valsI P)) ∧ Hid (ps.ownBlock = none ∨ ps.ownBlock ≠ V.ownBlock) ∧ Hid (∀ x ∈ b, 0 ≤ x ∧ x < 256) ∧ Hid (∀ x ∈ P, 0 ≤ x ∧ x ≤ 100000) ∧ Hid (w.heap.size + 2 ≤ wr.heap.size) ∧ Below w.heap.size w wr) (fun _ i _ => L.length - (intOf i).toNat)
    case atStart => exact ⟨0, [], [], [], _, 0, _, Nat.zero_le _, rfl, rfl, HPS, MapOk.nil, fun x p h => by simp at h, Nat.zero_le _, Nat.zero_le _, rfl, World.ownsRow_nil _ _ _ _, .inl rfl, fun x h => by simp at h, fun x h => by simp at h, by rw [hs0]; exact Nat.le_refl _, hbel0⟩
    case round =>
      clear hbel0 hs0
      obtain ⟨k, t, b, P, V, n, D, hk, rfl, HE, HP, HM, HT, HL, HN, HPL, HO, HA, HB, HPB, HZ, hbel⟩ := hrel
      have hsz := hbel.size
      by_cases hlt : k < L.length
      · have hlt1 : (k : Int) < (L.length : Int) := by omega
        obtain ⟨b0, off0, rfl, hb0, hcc⟩ := HC.out (by rintro rfl; simp at hlt)
        have hcell := (hbel.cell (p := ⟨b0, off0 + k, none⟩) hb0).trans (hcc k hlt)
        have hs := (HS.out k hlt).mono hbel (Nat.le_refl _)
        have hwl := HW.out k hlt
        have hE := HE.out
        rw [dropN_get hlt] at hE
        obtain ⟨l, hl⟩ : ∃ l, l = L.getD k [] := ⟨_, rfl⟩
        obtain ⟨V1, hV1⟩ : ∃ V1, V1 = U k := ⟨_, rfl⟩
        rw [← hl] at hs hwl hE
        rw [← hV1] at hcell hs
        have HPut := Lib.hid (put_new V1 l wr hs (by omega))
        unfold PutNew at HPut
        clear hcc hl hV1 hs HE
        by_cases hc : chk l = 0
        · obtain ⟨hal, hw255⟩ := chk_zero hc
          rw [packF_yes hc] at hE
          have hput : putB l = putL l := by rw [putB, if_pos hc]
          rw [hc, hput] at HPut
          have HE2 := Lib.hid hE
          have HAL := Lib.hid hal
          clear hc hput hE hal
          have hbl := HL.out
          have hnl := HN.out
          have hll := wire_len l
          go_wp2_with fail
          refine HPut.out.mono ?_
          rintro e w1 ⟨u1, rfl, hb1, hr1, hk1⟩
          have HP1 := Lib.hid (HP.out.below hb1)
          have HO1 := Lib.hid (ownsRow_stays HO.out hb1)
          have hbel1 := hbel.trans (hb1.mono hsz)
          have hzz1 : w.heap.size + 2 ≤ w1.heap.size := Nat.le_trans HZ.out hb1.size
          obtain ⟨aV, cV, rfl⟩ := owns_slice HP1.out.2.1
          obtain ⟨c0, c1, f0, f1⟩ := HP1.out.cells
          have HK1 : Hid (∀ r, u1.ownBlock = some r → u6.ownBlock ≠ some r) := by
            intro r h e
            have h1 := hk1 r h
            have h2 := HO.out.lt r e
            omega
          have HR1 := Lib.hid hr1
          have hbL : (b.length : Int) ≤ 100000 := by omega
          have HPL1 := Lib.hid (show P.length + 1 = (P ++ [(b.length : Int)]).length by simp)
          have HVS := Lib.hid (valsI_snoc P (b.length : Int))
          have HLO := Lib.hid HO1.out.lt
          have HLV := Lib.hid HP1.out.2.1.lt
          have hb63 : k + 1 ≤ maxLen := maxLen_of (by omega)
          have hbby : (k + 1) * 8 ≤ 140737488355328 := by omega
          clear hb1 hr1 hk1 hbel HP HO HPut
          go_wp2_with (at_builtin; refine wpList_append_own_at _ rfl (.tmp 30) (.tmp 34) 40 rfl (w.heap.size + 2) 3 i0 (.int .i64 0) 1 8 Try.underlying40 hi hz0 hz1 hz2 rfl (by decide) _ _ _ rfl (HO1.out.alloc _) ⟨w1.heap.size, 0, none⟩ 1 1 [.int .i64 (b.length : Int)] rfl rfl (news_one _ _ _ _) (oneCell_one _ _) hb63 hbby (le_alloc _ hzz1) ?_)
          intro ps2 w2 hown2 hg2 _ hblk2
          have hg12 : w1.grownBy w2 u6.ownBlock := ⟨hg2.os, hg2.tape, hg2.output, Nat.le_trans (by simp) hg2.size, fun j hj hne => (hg2.block j (by simp; omega) hne).trans (Below.heap_alloc _ _ _ hj)⟩
          have HP2 := Lib.hid (HP1.out.kept hg12 (fun e => by have := HLO.out _ e.symm; omega) (fun e => by have := HLO.out _ e.symm; omega) (by
            rcases HA.out with h | h
            · cases hv : (Value.slice aV b.length cV).ownBlock with
              | none => exact .inl rfl
              | some r => rw [h]; exact .inr (by simp)
            · exact .inr (fun e => h e.symm)))
          have hbel2 : Below w.heap.size w w2 := hbel1.grown hg12 (by omega) (fun r hr => by have := HLO.out r hr; omega)
          have HR2 := Lib.hid (HR1.out.grown hg12 (fun hne e => by
            obtain ⟨r, hr, -⟩ := HR1.out.block hne
            exact HK1.out r hr (by rw [← e]; exact hr)))
          have hzz2 : w.heap.size + 2 ≤ w2.heap.size := Nat.le_trans hzz1 hg12.size
          have HO2 : Hid (w2.ownsRow (w.heap.size + 2) 3 1 ps2 (k + 1) (valsI (P ++ [(b.length : Int)]))) := by
            unfold Hid
            rw [HVS.out]
            exact hown2
          have HA2 : Hid (ps2.ownBlock = none ∨ (ps2.ownBlock ≠ (Value.slice aV b.length cV).ownBlock ∧ ∀ r, ps2.ownBlock = some r → r < w2.heap.size)) := by
            cases hp : ps2.ownBlock with
            | none => exact .inl rfl
            | some r =>
              refine .inr ⟨?_, fun r' hr' => by injection hr' with hr'; have := HO2.out.lt r hp; omega⟩
              rcases hblk2 with h | h
              · rcases HA.out with h2 | h2
                · rw [h, h2] at hp; cases hp
                · rw [← hp, h]; exact h2
              · intro e
                have h3 := HLV.out r e.symm
                rw [h] at hp
                injection hp with hp
                have := size_alloc w1 (.cells #[.int .i64 (b.length : Int)] 3)
                omega
          have hconv : (convert 22 9 u1).run Try.prog w2 = .ok (.string (keyS l)) w2 := Row.string HR2.out 22 9 5 Try.underlying22 Try.underlying5 Try.underlying9
          have HAdd := Lib.hid (add_any (w.heap.size + 2) (w.heap.size + 1) w.heap.size n (.slice aV b.length cV) b t D l w2 HP2.out (by omega) (by omega) (by omega) hzz2 HM.out HAL.out (by omega) HT.out (by omega))
          unfold Added at HAdd
          have HTS := Lib.hid (encN_small t b l (by omega) HT.out)
          have HMS := Lib.hid (encN_mem t b l HAL.out HB.out HT.out (by omega))
          have HLN := Lib.hid (encN_len t b l HAL.out)
          obtain ⟨R, hR⟩ : ∃ R, R = encN t b l := ⟨_, rfl⟩
          rw [← hR] at HAdd HTS HMS HLN HE2
          clear hR hown2 hg2 hblk2 hg12
          go_wp2_with fail
          refine HAdd.out.mono ?_
          rintro e w3 ⟨rfl, V', n', D', hP3, hM3, hn3, hF3, hV3⟩
          have HO3 := Lib.hid (ownsRow_fr HO2.out hF3 (Nat.le_refl _) (fun r hr hs => by
            have h1 := (HO2.out.lt r hr).1
            rcases hs with h | h | h
            · omega
            · omega
            · rcases HA2.out with h2 | h2
              · rw [h2] at hr; cases hr
              · exact h2.1 (hr.trans h.symm)))
          have HA3 : Hid (ps2.ownBlock = none ∨ ps2.ownBlock ≠ V'.ownBlock) := by
            rcases HA2.out with h | h
            · exact .inl h
            · rcases hV3 with h3 | h3
              · exact .inr (by rw [h3]; exact h.1)
              · cases hp : ps2.ownBlock with
                | none => exact .inl rfl
                | some r =>
                  refine .inr fun e => ?_
                  have h4 := h3 r e.symm
                  have h5 := h.2 r hp
                  omega
          have hbel3 : Below w.heap.size w w3 := hbel2.trans (hF3.toBelow hbel2.size (fun r hs => by
            rcases hs with h | h | h
            · omega
            · omega
            · have := HP2.out.2.1.lt r h; omega))
          have hz3 : w.heap.size + 2 ≤ w3.heap.size := Nat.le_trans hzz2 hF3.size
          have HP3 := Lib.hid hP3
          have HM3 := Lib.hid hM3
          have HN3 : Hid (n' ≤ 255 * (k + 1)) := by unfold Hid; omega
          have HL3 : Hid (R.1.length ≤ 255 * (k + 1)) := by have := HLN.out.2; unfold Hid; omega
          have HPB3 : Hid (∀ x ∈ P ++ [(b.length : Int)], 0 ≤ x ∧ x ≤ 100000) := by
            intro x hx
            rcases List.mem_append.1 hx with h | h
            · exact HPB.out x h
            · simp at h; omega
          have HPL3 : Hid ((P ++ [(b.length : Int)]).length = k + 1) := by have := HPL1.out; have := HPL.out; unfold Hid; omega
          clear hP3 hM3 hn3 hF3 hV3 hbel2 hzz2 hconv
          go_wp2
          go_roundw
          case rel => exact ⟨k + 1, R.2, R.1, P ++ [(b.length : Int)], V', n', D', by omega, by go_num, HE2, HP3, HM3, HTS, HL3, HN3, HPL3, HO3, HA3, HMS, HPB3, hz3, hbel3⟩
          case measure => simp [intOf]; omega
        · have HE2 : Hid (∀ w', Below w.heap.size w w' → PGot w (packF [] [] [] L) (.returned (.tuple #[.slice none 0 0, .slice none 0 0, .int .i64 (chk l)])) w') := by
            rw [packF_no hc] at hE
            rw [← hE]
            intro w' hb'
            exact ⟨_, _, rfl, hb', Row.nil _ _, Row.nil _ _⟩
          have hc2 : (chk l != 0) = true := by simpa using hc
          generalize chk l = c at HPut HE2 hc2
          clear hc hE HP HO
          go_wp2_with fail
          refine HPut.out.mono ?_
          rintro e w1 ⟨u1, rfl, hb1, -, -⟩
          have hbel1 := hbel.trans (hb1.mono hsz)
          go_wp2
          go_ret3
          exact HE2.out _ hbel1
      · obtain rfl : k = L.length := by omega
        have hE := HE.out
        rw [List.drop_length, packF] at hE
        have HR1 := Lib.hid (row_of_owns HP.out.2.1 rfl (getD_mem HB.out))
        have HR2 := Lib.hid (rowI_of_owns HO.out HPL.out HPB.out)
        have HE2 : Hid (∀ w' u1 u2, Below w.heap.size w w' → Row .u8 w' u1 b → Row .i64 w' u2 P → PGot w (packF [] [] [] L) (.returned (.tuple #[u1, u2, .int .i64 0])) w') := by
          rw [← hE]
          intro w' u1 u2 h1 h2 h3
          exact ⟨_, _, rfl, h1, h2, h3⟩
        obtain ⟨c0, c1, f0, f1⟩ := HP.out.cells
        clear hE HE
        go_wp2
        go_ret3
        exact HE2.out _ _ _ hbel HR1.out HR2.out
end Go.Proofs.Ytjhmjimfehanbaa.Wire
