/- The walk of SlabOnce. -/
import Derived.Test.YtlcnhnhpaddkfaaGreatDoorJ18
import Derived.Deep.RegionHeld3
import Derived.Deep.RegionWith
import Derived.Deep.DeepCutAuto
namespace Go.Proofs.YtlcnhnhpaddkfaaGreatDoor.Sla
open Go.RowKit Num
open Mem (Mm MemC MRet Hm rd blkM)
open Lis (Cf LM LR Tb at_ Nx Pv Rep Hx valsN)
open Cls (szC blC pdC)
open Arn (wrL is64)
set_option linter.unusedVariables false

theorem conv8 {w : World} {v : Value} {l : List Int} (h : Row .u8 w v l) : (convert 60 9 v).run Tryz.prog w = .ok (.string (strOfNums l)) w :=
  h.string 60 9 5 (by kernel_rfl) (by kernel_rfl) (by kernel_rfl)
theorem infoU8 : (Tryz.prog.info? 5).map (fun i => (i.zero, i.size, i.bytes)) = some (some (.int .u8 0), 1, 1) := by kernel_rfl
theorem make8 (n : Nat) (hn : n ≤ 1024) (w : World) :
    (Instr.makeSlice 60 (.int .i64 (n : Int)) (.int .i64 (n : Int))).run Tryz.prog w = .ok (.slice (some ⟨w.heap.size, 0, none⟩) n n) (w.alloc (.cells (madeCells #[.int .u8 0] n) 5)) := by
  obtain ⟨i, hi, hz, h1, h2⟩ := info_parts infoU8
  have hr := run_make (P := Tryz.prog) w 60 5 i (.int .u8 0) Tryz.underlying60 hi hz .i64 .i64 n n (by omega) (by omega) (by rw [h2]; omega) (by omega)
  simp only [Int.toNat_natCast, h1, Nat.mul_one] at hr
  exact hr
theorem madeRow8 (w : World) (n : Nat) (hn : n ≤ 1024) : Row .u8 (w.alloc (.cells (madeCells #[.int .u8 0] n) 5)) (.slice (some ⟨w.heap.size, 0, none⟩) n n) (List.replicate n 0) := Arn.row_zeros w n 5 (by omega)
/-- A block's row of bytes, and nothing else has been written since. -/
structure BW (w wr : World) (b off cap : Nat) (X : List Int) : Prop where
  r : BRow wr b off cap X
  g : w.grownBy wr (some b)
theorem wrap8 (j : Nat) : IntKind.u8.wrap ((j : Nat) : Int) = ((j % 256 : Nat) : Int) := by
  simp [IntKind.wrap, IntKind.bits, IntKind.signed]

theorem sz_ge {c : Int} {k : Nat} (hk : k < blC c) : 32 ≤ szC c ∧ szC c ≤ 512 := by
  have h1 := bl_in hk
  rcases Cls.szC_bd c with e | e
  · omega
  · exact e
/-- What the walk holds: the memory, the three rows. -/
structure SO (w0 : World) (h : Hm) (n : Nat) (l0 l : List Int) (T : List Sl) (W : World) (a z m : Value) (A Z M : List Nat) (j : Nat) : Prop where
  d : Wd w0 h n 7 224 l0 l T W
  o : Ow3 n W a z m A Z M
  i : OI 224 T l A Z M
  z9 : ∀ x ∈ Z, x ≤ 100000
  m9 : ∀ x ∈ M, x ≤ 100000
  k : A.length ≤ j
section
variable {w0 W W' : World} {h : Hm} {n : Nat} {l0 l : List Int} {T : List Sl} {a z m : Value} {A Z M : List Nat} {j j' : Nat}
theorem SO.below (s : SO w0 h n l0 l T W a z m A Z M j) (hb : Below W.heap.size W W') : SO w0 h n l0 l T W' a z m A Z M j := ⟨s.d.below hb, s.o.below hb, s.i, s.z9, s.m9, s.k⟩
theorem SO.later (s : SO w0 h n l0 l T W a z m A Z M j) (hj : j ≤ j') : SO w0 h n l0 l T W a z m A Z M j' := ⟨s.d, s.o, s.i, s.z9, s.m9, Nat.le_trans s.k hj⟩
end
set_option maxRecDepth 100000 in
set_option maxHeartbeats 40000000 in
theorem slabOnce_walk (v : Value) (B : List Act) (w : World) (ht : Ts w) (hr : ActRow w v B) :
    Calls Tryz.prog 5 #[v] w fun e w' => e = .returned (.bool true) ∧ Below w.heap.size w w' := by
  obtain ⟨i0, hi0, hz0, hz1, hz2⟩ := info_parts Lis.infoInt
  have HW := Lib.hid (fun V (hv : Ts V) => takes_any V hv)
  have HTs := Lib.hid ht
  obtain ⟨ad, cap, U, rfl, q2, q3, q4, q5⟩ := hr
  have HC := Lib.hid q5
  have HS := Lib.hid q4
  have HN := Lib.hid (start_any 7 224 w (by decide) ht)
  clear q4 q5 ht
  by_cases hL : 200 < B.length
  · have hL1 : (200 : Int) < (B.length : Int) := by omega
    go_enter Tryz.func5, Tryz.ntmps5
    go_wp2_with fail
    refine (HW.out _ HTs.out).mono ?_
    rintro e w1 ⟨rfl, hb⟩
    go_wp2
    go_ret
    exact ⟨rfl, hb⟩
  have hL0 : ¬ (200 : Int) < (B.length : Int) := by omega
  have hL0' : decide ((200 : Int) < (B.length : Int)) = false := by rw [decide_eq_false_iff_not]; omega
  rw [show ((7 : Nat) : Int) = 7 from rfl, show ((224 : Nat) : Int) = 224 from rfl] at HN
  unfold pV at HN
  go_enter Tryz.func5, Tryz.ntmps5
  go_wp2_with fail
  refine HN.out.mono ?_
  rintro e w1 ⟨h, rfl, hB1, hb1⟩
  have HBg := Lib.hid (hB1 w1 (Below.refl _ _))
  clear hB1 hb1 HN
  obtain ⟨n, hn⟩ : ∃ n, n = w1.heap.size := ⟨_, rfl⟩
  rw [← hn] at HBg
  clear hn
  go_wp2_with fail
  refine HBg.out.mono ?_
  rintro e w2 ⟨l0, rfl, hd2⟩
  have HD2 : Hid (SO w h n l0 l0 (List.replicate 7 Sl.zero) w2 (.slice none 0 0) (.slice none 0 0) (.slice none 0 0) [] [] [] 0) := ⟨hd2, Ow3.nil _ _, OI.start _, fun x hx => (by cases hx), fun x hx => (by cases hx), Nat.le_refl _⟩
  clear hd2 HBg
  go_wp2
  go_loopw [4, 5, 6, 7] (fun va vz vm i wr => ∃ (j : Nat) (A Z M : List Nat) (l : List Int) (T : List Sl), j ≤ B.length ∧ i = .int .i64 j ∧ Hid (SO w h n l0 l T wr va vz vm A Z M j)) (fun _ _ _ i _ => B.length - (intOf i).toNat)
  case atStart => exact ⟨0, [], [], [], l0, _, Nat.zero_le _, rfl, HD2.out⟩
  case round =>
    obtain ⟨j, A, Z, M, l, T, hj, rfl, HD⟩ := hrel
    obtain ⟨pa, ca, rfl, hca, hca2⟩ := HD.out.o.ra.shape
    obtain ⟨pz, cz, rfl, hcz, hcz2⟩ := HD.out.o.rz.shape
    obtain ⟨pm, cm, rfl, hcm, hcm2⟩ := HD.out.o.rm.shape
    have hzl := HD.out.i.zl
    have hml := HD.out.i.ml
    have hA200 : A.length ≤ 200 := Nat.le_trans HD.out.k (by omega)
    have HZl := Lib.hid hzl
    have HMl := Lib.hid hml
    have hZ200 : Z.length ≤ 200 := by omega
    have hM200 : M.length ≤ 200 := by omega
    clear hzl hml
    by_cases hlt : j < B.length
    · have hlt1 : (j : Int) < (B.length : Int) := by omega
      have hlt0 : (0 : Int) ≤ (j : Int) := by omega
      have hjw : IntKind.i64.wrap ((j : Int) + 1) = ((j + 1 : Nat) : Int) := (Arn.wrap_id (by omega) (by omega)).trans (by omega)
      obtain ⟨rb, off, rfl, hlb, hc⟩ := HC.out (by rintro rfl; simp at hlt)
      obtain ⟨hs1, hs2, hs3⟩ := HS.out j hlt
      have hcw : ∀ W, Below w.heap.size w W → W.cell? ⟨rb, off + j * 2, none⟩ = some (.int .i64 (B.getD j Act.zero).k) ∧ W.cell? ⟨rb, off + j * 2 + 1, none⟩ = some (.int .i64 (B.getD j Act.zero).n) := fun W hb => by
        have g0 := hc j hlt 0 (.int .i64 (B.getD j Act.zero).k) (by rw [hs2]; rfl)
        have g1 := hc j hlt 1 (.int .i64 (B.getD j Act.zero).n) (by rw [hs2]; rfl)
        exact ⟨(hb.cell (p := ⟨rb, off + j * 2, none⟩) hlb).trans g0, (hb.cell (p := ⟨rb, off + j * 2 + 1, none⟩) hlb).trans g1⟩
      have h64 := hs3.2
      generalize (B.getD j Act.zero).k = yk at hcw hs3
      generalize (B.getD j Act.zero).n = yn at hcw h64
      obtain ⟨d0, d1⟩ := hcw _ HD.out.d.b
      clear hs1 hs2 hs3 hc hcw
      by_cases hk3 : yk < 3
      · as_aux_lemma =>
          have HD1 : Hid (SO w h n l0 l T (wr.alloc (.cells #[.int .i64 yk, .int .i64 yn] 34)) (.slice pa A.length ca) (.slice pz Z.length cz) (.slice pm M.length cm) A Z M j) := HD.out.below (below_made _ _)
          have HBx : Hid (Bx n wr.heap.size yk yn (wr.alloc (.cells #[.int .i64 yk, .int .i64 yn] 34))) := Bx.new HD.out.d.nn
          -- TAKE{
          have htk0 := HD1.out.d.take yn
          unfold pV at htk0
          have HTk := Lib.hid htk0
          clear htk0 HD
          go_wp2_with fail
          refine HTk.out.mono ?_
          rintro e w4 (⟨l', x, er, hne, rfl, hd4, hf4, hk4⟩ | ⟨l', T', jj, k, rfl, htk, hd4, hf4, hkp, hz⟩)
          · have hne1 : (er == 0) = false := by simpa using hne
            have HD4 : Hid (SO w h n l0 l' T w4 (.slice pa A.length ca) (.slice pz Z.length cz) (.slice pm M.length cm) A Z M j) := ⟨hd4, HD1.out.o.fr hf4 HD1.out.d.lo, HD1.out.i.same hk4, HD1.out.z9, HD1.out.m9, HD1.out.k⟩
            clear hne hd4 hf4 hk4 HD1 HBx HTk d0 d1
            go_wp2
            go_roundw
            case rel => exact ⟨j + 1, A, Z, M, l', T, by omega, by go_num, HD4.out.later (Nat.le_succ j)⟩
            case measure => simp [intOf]; omega
          · obtain ⟨nn, hnn⟩ : ∃ nn, nn = szC yn := ⟨_, rfl⟩
            obtain ⟨hg1, hg2⟩ := sz_ge htk.hk
            rw [← hnn] at hg1 hg2 hz
            have hmem : k ∈ (T'.getD jj Sl.zero).v := (htk.mem k).2 (.inl rfl)
            have hpl := hd4.pl_len htk.hj hmem
            rw [htk.cls, ← hnn] at hpl
            have hll : l'.length ≤ 100000 := by
              obtain ⟨H, L, ⟨C, e1, e2, e3, e4, e5⟩, d2⟩ := hd4.st
              have h1 := e5.ll
              have h2 := ok_base e5.ok
              omega
            have HRd : Hid (∀ W, Wd w h n 7 224 l0 l' T' W → Calls Tryz.prog 34 #[.pointer (some ⟨h.g, 0, none⟩), .int .i64 (pl (aT 7 224 jj) yn k : Int), .int .i64 (nn : Int), .int .i64 5] W fun e W' =>
                ∃ bb off cp, e = .returned (.slice (some ⟨bb, off, none⟩) nn cp) ∧ nn ≤ cp ∧ Wd w h n 7 224 l0 l' T' W' ∧ Fr W.heap.size (blkM h) W W' ∧ W.heap.size ≤ bb ∧ BRow W' bb off cp (List.replicate nn 0)) := fun W hW => by
              have hr := hW.st.read htk.hj hmem (n := nn) (by rw [htk.cls, hnn]; exact Nat.le_refl _)
              rw [htk.cls, zeros_bytes hz hpl] at hr
              refine hr.mono ?_
              rintro e W' ⟨u, rfl, h1, h2, h3⟩
              obtain ⟨bb, off, cp, rfl, h4, h5⟩ := BRow.of_new h3 (by intro q; have := congrArg List.length q; simp at this; omega)
              obtain ⟨_, _, e1, e2, -⟩ := h5.r
              injection e1 with _ _ e3
              subst e3
              rw [List.length_replicate] at e2 ⊢
              exact ⟨bb, off, _, rfl, e2, hW.fr h1 h2, h2, h4, h5⟩
            have HWr : Hid (∀ W bb off cp X, Wd w h n 7 224 l0 l' T' W → BRow W bb off cp X → X.length = nn → n ≤ bb → Calls Tryz.prog 35 #[.pointer (some ⟨h.g, 0, none⟩), .int .i64 (pl (aT 7 224 jj) yn k : Int), .slice (some ⟨bb, off, none⟩) nn cp, .int .i64 5] W fun e W' =>
                e = .returned (.bool true) ∧ Wd w h n 7 224 l0 (wrL l' (pl (aT 7 224 jj) yn k) X) T' W' ∧ Fr W.heap.size (blkM h) W W') := fun W bb off cp X hW hX hXl hb => by
              have hrow := hX.r
              rw [hXl] at hrow
              have := hW.write htk.hj hmem (X := X) (by rw [htk.cls, hXl, hnn]; exact Nat.le_refl _) hrow (fun b hb2 => by simp only [Value.ownBlock, Option.some.injEq] at hb2; omega)
              rw [htk.cls] at this
              exact this
            have HOi : Hid (∀ X : List Int, X.length = nn → (∀ i, i < nn → X.getD i 0 = (((j + 1) % 256 : Nat) : Int)) → OI 224 T' (wrL l' (pl (aT 7 224 jj) yn k) X) (A ++ [pl (aT 7 224 jj) yn k]) (Z ++ [nn]) (M ++ [j + 1])) := fun X h1 h2 =>
              HD1.out.i.take HD1.out.d.st.tk htk hkp hnn h1 h2 hpl
            have HAp : Hid (∀ i, i < A.length → ¬ (pl (aT 7 224 jj) yn k < A.getD i 0 + Z.getD i 0 ∧ A.getD i 0 < pl (aT 7 224 jj) yn k + nn)) := fun i hi => by
              have := HD1.out.i.apart htk hi
              rw [← hnn] at this
              exact this
            have HO4 := Lib.hid (HD1.out.o.fr hf4 HD1.out.d.lo)
            have HD4 := Lib.hid hd4
            have hb4 := (HBx.out.fr hf4 HD1.out.d.lo).cells.2
            have HZ9 := Lib.hid HD1.out.z9
            have HM9 := Lib.hid HD1.out.m9
            have HJ := Lib.hid HD1.out.k
            have hA9 : ∀ x ∈ A, x ≤ 100000 := HD1.out.i.ai.bd HD1.out.d
            have HA9 := Lib.hid hA9
            have HSz : Hid (∀ W : World, Calls Tryz.prog 33 #[.int .i64 yn] W fun e w' => e = .returned (.int .i64 (nn : Int)) ∧ W = w') := fun W => by rw [hnn]; exact Cls.refSize_any yn W
            have hlo := Lib.hid hd4.lo
            generalize pl (aT 7 224 jj) yn k = P at *
            have hP : P ≤ 100000 := by omega
            clear hz hpl hll htk hmem hd4 hf4 hkp hnn HD1 HTk HBx d0 d1 hA9
            go_wp2_with fail
            refine (HSz.out _).mono ?_
            rintro e w' ⟨rfl, rfl⟩
            go_wp2_with fail
            refine (HRd.out _ HD4.out).mono ?_
            rintro e w5 ⟨bb, boff, bc, rfl, hbc, hd5, hf5, hbb, hrow5⟩
            have HD5 := Lib.hid hd5
            have HO5 := Lib.hid (HO4.out.fr hf5 hlo.out)
            have HRow5 := Lib.hid hrow5
            have HBn : Hid (n ≤ bb ∧ w4.heap.size ≤ bb) := ⟨Nat.le_trans HD4.out.nn hbb, hbb⟩
            have hnb : Hid ((Value.slice pa A.length ca).ownBlock ≠ some bb ∧ (Value.slice pz Z.length cz).ownBlock ≠ some bb ∧ (Value.slice pm M.length cm).ownBlock ≠ some bb) :=
              ⟨fun q => by have := HO4.out.ra.lt _ q; omega, fun q => by have := HO4.out.rz.lt _ q; omega, fun q => by have := HO4.out.rm.lt _ q; omega⟩
            obtain ⟨S0, hS0⟩ : ∃ S0, S0 = strOfNums (List.replicate nn 0) := ⟨_, rfl⟩
            have hmk : ∀ W : World, (Instr.makeSlice 60 (.int .i64 (nn : Int)) (.int .i64 (nn : Int))).run Tryz.prog W = .ok (.slice (some ⟨W.heap.size, 0, none⟩) nn nn) (W.alloc (.cells (madeCells #[.int .u8 0] nn) 5)) := fun W => make8 nn (by omega) W
            have hcm1 : ∀ W : World, (convert 60 9 (.slice (some ⟨W.heap.size, 0, none⟩) nn nn)).run Tryz.prog (W.alloc (.cells (madeCells #[.int .u8 0] nn) 5)) = .ok (.string S0) (W.alloc (.cells (madeCells #[.int .u8 0] nn) 5)) := fun W => by rw [hS0]; exact conv8 (madeRow8 W nn (by omega))
            have hcm2 : (convert 60 9 (.slice (some ⟨w5.heap.size, 0, none⟩) nn nn)).run Tryz.prog (w5.alloc (.cells (madeCells #[.int .u8 0] nn) 5)).drew = .ok (.string S0) (w5.alloc (.cells (madeCells #[.int .u8 0] nn) 5)).drew := by rw [hS0]; exact conv8 ((madeRow8 w5 nn (by omega)).mono (Below.refl _ _).drew (Nat.le_refl _))
            have hrw5 := hrow5.r
            rw [List.length_replicate] at hrw5
            have hcb : ∀ W, Below w5.heap.size w5 W → (convert 60 9 (.slice (some ⟨bb, boff, none⟩) nn bc)).run Tryz.prog W = .ok (.string S0) W := fun W hW => by rw [hS0]; exact conv8 (hrw5.mono hW (Nat.le_refl _))
            clear hS0 hrow5 hd5 hf5 HD4 HO4 HRd HSz hrw5 hb4 hbb
            generalize madeCells #[Value.int .u8 0] nn = MZ at hmk hcm1 hcm2
            have c1 := hcb w5 (Below.refl _ _)
            have c2 := hcb _ (below_made w5 (.cells MZ 5))
            have c3 := hcb _ (Below.refl w5.heap.size w5).drew
            have c4 := hcb _ (below_made w5 (.cells MZ 5)).drew
            have m1 := hcm1 w5
            have m2 := hcm1 w5.drew
            clear hcb hcm1
            have hnn0 : ((nn : Int) == (nn : Int)) = true := by simp
            go_upto_region 15 with fail
            go_cut [66] (fun s wc => s = .bool false ∧ Hid (Below w5.heap.size w5 wc))
            case first =>
              go_region
              all_goals go_wp2_with fail
              all_goals go_meet
              all_goals refine ⟨?_, ?_⟩
              all_goals first | rfl | exact (below_made w5 _).drew | exact (below_made w5 _) | exact (Below.refl _ _).drew
            case rest =>
              obtain ⟨rfl, HB⟩ := hcut
              clear m1 m2 hmk hcm2 c1 c2 c3 c4
              go_wp2
              go_loopw [13] (fun i wx => ∃ t : Nat, t ≤ A.length ∧ i = .int .i64 t ∧ Hid (Below w5.heap.size w5 wx)) (fun i _ => A.length - (intOf i).toNat)
              case atStart => exact ⟨0, Nat.zero_le _, rfl, HB.out⟩
              case round =>
                clear HB
                obtain ⟨t, ht, rfl, HB⟩ := hrel
                by_cases htl : t < A.length
                · have htl1 : (t : Int) < (A.length : Int) := by omega
                  have htl2 : (t : Int) < (Z.length : Int) := by have := HZl.out; omega
                  have htl0 : (0 : Int) ≤ (t : Int) := by omega
                  have htw : IntKind.i64.wrap ((t : Int) + 1) = ((t + 1 : Nat) : Int) := (Arn.wrap_id (by omega) (by omega)).trans (by omega)
                  obtain ⟨ga, rfl, hga⟩ := (HO5.out.below HB.out).ra.cells (by rintro rfl; simp at htl)
                  obtain ⟨gz, rfl, hgz⟩ := (HO5.out.below HB.out).rz.cells (by rintro rfl; have := HZl.out; simp at this; omega)
                  have ka := hga t htl
                  have kz := hgz t (by omega)
                  have hap := HAp.out t htl
                  have b1 : A.getD t 0 ≤ 100000 := HA9.out _ (by rw [List.getD, List.getElem?_eq_getElem htl]; exact List.getElem_mem htl)
                  have b2 : Z.getD t 0 ≤ 100000 := HZ9.out _ (by rw [List.getD, List.getElem?_eq_getElem (by have := HZl.out; omega)]; exact List.getElem_mem _)
                  generalize A.getD t 0 = ak at ka hap b1
                  generalize Z.getD t 0 = zk at kz hap b2
                  obtain ⟨s1, hs1⟩ : ∃ s1, s1 = ak + zk := ⟨_, rfl⟩
                  obtain ⟨s2, hs2⟩ : ∃ s2, s2 = P + nn := ⟨_, rfl⟩
                  rw [← hs1, ← hs2] at hap
                  have hw1 : IntKind.i64.wrap ((ak : Int) + (zk : Int)) = (s1 : Int) := (Arn.wrap_id (by omega) (by omega)).trans (by omega)
                  have hw2 : IntKind.i64.wrap ((P : Int) + (nn : Int)) = (s2 : Int) := (Arn.wrap_id (by omega) (by omega)).trans (by omega)
                  clear hga hgz hs1 hs2 b1 b2
                  by_cases hc1 : P < s1
                  · have hc1a : (P : Int) < (s1 : Int) := by omega
                    have hc2a : ¬ (ak : Int) < (s2 : Int) := by omega
                    have hc1b : decide ((P : Int) < (s1 : Int)) = true := by rw [decide_eq_true_iff]; exact hc1a
                    have hc2b : decide ((ak : Int) < (s2 : Int)) = false := by rw [decide_eq_false_iff_not]; exact hc2a
                    have hc1c : decide (P < s1) = true := by rw [decide_eq_true_iff]; exact hc1
                    have hc2c : decide (ak < s2) = false := by rw [decide_eq_false_iff_not]; omega
                    clear hap
                    go_wp2_with fail
                    go_quiet (fail)
                    have HB2 := Lib.hid (HB.out.trans (below_drewN (Below.refl w5.heap.size wr) nq))
                    go_wp2
                    go_roundw
                    case rel => exact ⟨t + 1, by omega, by go_num, HB2.out⟩
                    case measure => simp [intOf]; omega
                  · have hc1a : ¬ (P : Int) < (s1 : Int) := by omega
                    have hc1b : decide ((P : Int) < (s1 : Int)) = false := by rw [decide_eq_false_iff_not]; exact hc1a
                    have hc1c : decide (P < s1) = false := by rw [decide_eq_false_iff_not]; exact hc1
                    clear hap
                    go_wp2_with fail
                    go_quiet (fail)
                    have HB2 := Lib.hid (HB.out.trans (below_drewN (Below.refl w5.heap.size wr) nq))
                    go_wp2
                    go_roundw
                    case rel => exact ⟨t + 1, by omega, by go_num, HB2.out⟩
                    case measure => simp [intOf]; omega
                · obtain rfl : t = A.length := by omega
                  have hmb : (((j + 1) % 256 : Nat) : Int) = (j : Int) + 1 := by omega
                  have hmb0 : 0 ≤ (j : Int) + 1 ∧ (j : Int) + 1 < 256 := by omega
                  rw [hmb] at HOi
                  have HBw0 : Hid (BW wr wr bb boff bc (List.replicate nn 0)) := ⟨HRow5.out.grown (grown_below (r := none) HB.out) (by simp), grown_refl _ _⟩
                  have HD6 := Lib.hid (HD5.out.below HB.out)
                  have HO6 := Lib.hid (HO5.out.below HB.out)
                  clear HB HD5 HO5 HRow5 HAp hmb
                  go_wp2
                  go_loopw [14] (fun i wx => ∃ (t : Nat) (X : List Int), t ≤ nn ∧ i = .int .i64 t ∧ Hid (X.length = nn ∧ ∀ s, s < t → X.getD s 0 = (j : Int) + 1) ∧ Hid (BW wr wx bb boff bc X)) (fun i _ => nn - (intOf i).toNat)
                  case atStart => exact ⟨0, _, Nat.zero_le _, rfl, ⟨List.length_replicate, fun s hs => absurd hs (Nat.not_lt_zero _)⟩, HBw0.out⟩
                  case round =>
                    obtain ⟨t, X, ht, rfl, HX, HBw⟩ := hrel
                    by_cases htl : t < nn
                    · have htl1 : (t : Int) < (nn : Int) := by omega
                      have htl0 : (0 : Int) ≤ (t : Int) := by omega
                      have htw : IntKind.i64.wrap ((t : Int) + 1) = ((t + 1 : Nat) : Int) := (Arn.wrap_id (by omega) (by omega)).trans (by omega)
                      have hxl := HX.out.1
                      have kc := HBw.out.r.cell (i := t) (by rw [hxl]; exact htl)
                      have kf := HBw.out.r.f t (by rw [hxl]; exact htl)
                      have HS2 := Lib.hid (BW.mk (HBw.out.r.set (i := t) (y := (j : Int) + 1) (by rw [hxl]; exact htl) hmb0.1 hmb0.2) (grown_trans HBw.out.g (grown_set _ _ _)))
                      have HX2 : Hid ((X.set t ((j : Int) + 1)).length = nn ∧ ∀ s, s < t + 1 → (X.set t ((j : Int) + 1)).getD s 0 = (j : Int) + 1) := ⟨by rw [List.length_set, hxl], fun s hs => by
                        by_cases q : s = t
                        · subst q; simp [List.getD, hxl, htl]
                        · rw [← HX.out.2 s (by omega)]; simp [List.getD, List.getElem?_set, Ne.symm q]⟩
                      generalize X.getD t 0 = xt at kc
                      clear HBw HX hxl
                      go_wp2
                      go_roundw
                      case rel => exact ⟨t + 1, X.set t ((j : Int) + 1), by omega, by go_num, HX2.out, HS2.out⟩
                      case measure => simp [intOf]; omega
                    · obtain rfl : nn = t := by omega
                      have HD8 := Lib.hid (HD6.out.grown HBw.out.g (fun b q => by cases q; exact HBn.out.1))
                      have HO8 := Lib.hid (HO6.out.grown HBw.out.g hnb.out)
                      have hoi := HOi.out X HX.out.1 (fun i hi => HX.out.2 i hi)
                      have hwr := HWr.out wr bb boff bc X HD8.out HBw.out.r HX.out.1 HBn.out.1
                      generalize wrL l' P X = l8 at hoi hwr
                      have HI8 := Lib.hid hoi
                      have HWr8 := Lib.hid hwr
                      clear hoi hwr HWr HOi HBw HX HD6 HO6 HBw0 hmb0
                      go_wp2_with fail
                      refine HWr8.out.mono ?_
                      rintro e w6 ⟨rfl, hd6, hf6⟩
                      have HD9 := Lib.hid hd6
                      have HO9 := Lib.hid (HO8.out.fr hf6 hlo.out)
                      have hA4 := HO9.out.ra
                      have hn6 := hd6.nn
                      clear hd6 hf6 HD8 HO8 HWr8 hnb HBn
                      go_wp2_with (at_builtin; refine wpList_append_own_at _ rfl (.tmp 110) (.tmp 112) 32 rfl n 3 i0 (.int .i64 0) 1 8 Tryz.underlying32 hi0 hz0 hz1 hz2 rfl (by decide) _ _ _ rfl (World.ownsRow.alloc hA4 _) ⟨w6.heap.size, 0, none⟩ 1 1 [.int .i64 (P : Int)] rfl rfl (news_one _ _ _ _) (oneCell_one _ _) (by unfold maxLen; omega) (by omega) (by simp; omega) ?_)
                      intro v7 w7 hown7 hgrow7 _ hat7
                      have HOA := Lib.hid (HO9.out.setA (grown_alloc hgrow7) (OwnI.snoc hown7 rfl) (at1_of hat7))
                      have HDA := Lib.hid (HD9.out.grown (grown_alloc hgrow7) HO9.out.ra.base)
                      have hZ4 := HOA.out.rz
                      have hn7 := HDA.out.nn
                      clear hown7 hgrow7 hat7 hA4 HO9 HD9 hn6
                      go_wp2_with (at_builtin; refine wpList_append_own_at _ rfl (.tmp 114) (.tmp 116) 32 rfl n 3 i0 (.int .i64 0) 1 8 Tryz.underlying32 hi0 hz0 hz1 hz2 rfl (by decide) _ _ _ rfl (World.ownsRow.alloc hZ4 _) ⟨w7.heap.size, 0, none⟩ 1 1 [.int .i64 (nn : Int)] rfl rfl (news_one _ _ _ _) (oneCell_one _ _) (by unfold maxLen; omega) (by omega) (by simp; omega) ?_)
                      intro v8 w8 hown8 hgrow8 _ hat8
                      have HOB := Lib.hid (HOA.out.setZ (grown_alloc hgrow8) (OwnI.snoc hown8 rfl) (at1_of hat8))
                      have HDB := Lib.hid (HDA.out.grown (grown_alloc hgrow8) HOA.out.rz.base)
                      have hM4 := HOB.out.rm
                      have hn8 := HDB.out.nn
                      clear hown8 hgrow8 hat8 hZ4 HOA HDA hn7
                      go_wp2_with (at_builtin; refine wpList_append_own_at _ rfl (.tmp 118) (.tmp 121) 32 rfl n 3 i0 (.int .i64 0) 1 8 Tryz.underlying32 hi0 hz0 hz1 hz2 rfl (by decide) _ _ _ rfl (World.ownsRow.alloc hM4 _) ⟨w8.heap.size, 0, none⟩ 1 1 [.int .i64 ((j + 1 : Nat) : Int)] rfl rfl (news_one _ _ _ _) (oneCell_one _ _) (by unfold maxLen; omega) (by omega) (by simp; omega) ?_)
                      intro v9 w9 hown9 hgrow9 _ hat9
                      have HOC := Lib.hid (HOB.out.setM (grown_alloc hgrow9) (OwnI.snoc hown9 rfl) (at1_of hat9))
                      have HDC := Lib.hid (HDB.out.grown (grown_alloc hgrow9) HOB.out.rm.base)
                      clear hown9 hgrow9 hat9 hM4 HOB HDB hn8
                      have HF : Hid (SO w h n l0 l8 T' w9 v7 v8 v9 (A ++ [P]) (Z ++ [nn]) (M ++ [j + 1]) (j + 1)) := ⟨HDC.out, HOC.out, HI8.out,
                        fun x hx => by rcases List.mem_append.1 hx with q | q; exact HZ9.out x q; simp at q; omega,
                        fun x hx => by rcases List.mem_append.1 hx with q | q; exact HM9.out x q; simp at q; omega,
                        by rw [List.length_append, List.length_singleton]; have := HJ.out; omega⟩
                      clear HDC HOC HI8
                      go_wp2
                      go_roundw
                      case rel => exact ⟨j + 1, _, _, _, l8, T', by omega, by go_num, HF.out⟩
                      case measure => simp [intOf]; omega
      -- TAKE}
      · have HD1 : Hid (SO w h n l0 l T (wr.alloc (.cells #[.int .i64 yk, .int .i64 yn] 34)) (.slice pa A.length ca) (.slice pz Z.length cz) (.slice pm M.length cm) A Z M j) := HD.out.below (below_made _ _)
        have hbx : Bx n wr.heap.size yk yn (wr.alloc (.cells #[.int .i64 yk, .int .i64 yn] 34)) := Bx.new HD.out.d.nn
        obtain ⟨b0, b1⟩ := hbx.cells
        have HJ1 := Lib.hid (HD1.out.later (Nat.le_succ j))
        clear hbx HD
        -- GIVE{
        by_cases hA0 : A.length = 0
        · have hA1 : ((A.length : Int) == 0) = true := by simp [hA0]
          clear hA0
          go_wp2
          go_roundw
          case rel => exact ⟨j + 1, A, Z, M, l, T, by omega, by go_num, HJ1.out⟩
          case measure => simp [intOf]; omega
        have hA1 : ((A.length : Int) == 0) = false := by rw [beq_eq_false_iff_ne]; omega
        by_cases hn0 : yn < 0
        · go_wp2
          go_roundw
          case rel => exact ⟨j + 1, A, Z, M, l, T, by omega, by go_num, HJ1.out⟩
          case measure => simp [intOf]; omega
        by_cases hk5 : yk = 5
        · have hk6 : (yk == 5) = true := by simp [hk5]
          clear hk5
          go_wp2
          go_roundw
          case rel => exact ⟨j + 1, A, Z, M, l, T, by omega, by go_num, HJ1.out⟩
          case measure => simp [intOf]; omega
        have hk6 : (yk == 5) = false := by simp [hk5]
        have hpos : (0 : Int) < (A.length : Int) := by omega
        obtain ⟨rm, hrm⟩ : ∃ rm, rm = yn.tmod (A.length : Int) := ⟨_, rfl⟩
        have hr0 : 0 ≤ rm := by rw [hrm]; exact Int.tmod_nonneg _ (by omega)
        have hr1 : rm < A.length := by rw [hrm]; exact Int.tmod_lt_of_pos yn hpos
        obtain ⟨kk, rfl⟩ : ∃ kk : Nat, rm = kk := ⟨rm.toNat, by omega⟩
        have hkA : kk < A.length := by omega
        have hkZ : kk < Z.length := by have := HZl.out; omega
        have hkM : kk < M.length := by have := HMl.out; omega
        have hq : yn.tmod (A.length : Int) = (kk : Int) := hrm.symm
        clear hrm hr0 hr1 hk5 HJ1
        have hA2 : A ≠ [] := by rintro rfl; simp at hkA
        have hZ2 : Z ≠ [] := by rintro rfl; simp at hkZ
        have hM2 : M ≠ [] := by rintro rfl; simp at hkM
        obtain ⟨ga, rfl, hga⟩ := HD1.out.o.ra.cells hA2
        obtain ⟨gz, rfl, hgz⟩ := HD1.out.o.rz.cells hZ2
        obtain ⟨gm, rfl, hgm⟩ := HD1.out.o.rm.cells hM2
        obtain ⟨jj, k, he⟩ := HD1.out.i.el kk hkA
        have HGi : Hid (∀ T' l', Gvn 7 224 T T' jj k → Kp 7 224 T T' l l' → OI 224 T' l' (del A kk) (del Z kk) (del M kk)) := fun T' l' t q => HD1.out.i.give hkA he t q
        have ka := hga kk hkA
        have kz := hgz kk hkZ
        have HCe : Hid (∀ W, Ow3 n W (.slice (some ⟨ga, 0, none⟩) A.length ca) (.slice (some ⟨gz, 0, none⟩) Z.length cz) (.slice (some ⟨gm, 0, none⟩) M.length cm) A Z M → W.cell? ⟨ga, kk, none⟩ = some (.int .i64 ((A.getD kk 0 : Nat) : Int)) ∧ W.cell? ⟨gz, kk, none⟩ = some (.int .i64 ((Z.getD kk 0 : Nat) : Int)) ∧ W.cell? ⟨gm, kk, none⟩ = some (.int .i64 ((M.getD kk 0 : Nat) : Int))) := fun W o => ⟨o.ra.cell_at hkA, o.rz.cell_at hkZ, o.rm.cell_at hkM⟩
        clear hga hgz hgm hA2 hZ2 hM2
        generalize A.getD kk 0 = P at ka he HCe
        generalize Z.getD kk 0 = zz at kz he HCe
        generalize M.getD kk 0 = mm at he HCe
        obtain ⟨hzg1, hzg2⟩ := sz_ge (mem_lt he.hk).1
        have hzb : zz ≤ 512 := by rw [he.hz]; exact hzg2
        have hzc : 32 ≤ zz := by rw [he.hz]; exact hzg1
        have hpl := HD1.out.d.pl_len he.hj he.hk
        rw [← he.ha, ← he.hz] at hpl
        have hll : l.length ≤ 100000 := by
          obtain ⟨H, L, ⟨C, e1, e2, e3, e4, e5⟩, d2⟩ := HD1.out.d.st
          have h1 := e5.ll
          have h2 := ok_base e5.ok
          omega
        have hP : P ≤ 100000 := by omega
        obtain ⟨mb, hmb⟩ : ∃ mb, mb = ((mm % 256 : Nat) : Int) := ⟨_, rfl⟩
        have hu8 : IntKind.u8.wrap (mm : Int) = mb := by rw [hmb]; exact wrap8 mm
        have HRd : Hid (∀ W, Wd w h n 7 224 l0 l T W → Calls Tryz.prog 34 #[.pointer (some ⟨h.g, 0, none⟩), .int .i64 (P : Int), .int .i64 (zz : Int), .int .i64 5] W fun e W' =>
            ∃ bb off cp, e = .returned (.slice (some ⟨bb, off, none⟩) zz cp) ∧ zz ≤ cp ∧ Wd w h n 7 224 l0 l T W' ∧ Fr W.heap.size (blkM h) W W' ∧ BRow W' bb off cp (List.replicate zz mb)) := fun W hW => by
          have hr := hW.st.read he.hj he.hk (n := zz) (by rw [he.hz]; exact Nat.le_refl _)
          rw [← he.ha, he.bytes hpl, ← hmb] at hr
          refine hr.mono ?_
          rintro e W' ⟨u, rfl, h1, h2, h3⟩
          obtain ⟨bb, off, cp, rfl, h4, h5⟩ := BRow.of_new h3 (by intro q; have := congrArg List.length q; simp at this; omega)
          obtain ⟨_, _, e1, e2, -⟩ := h5.r
          injection e1 with _ _ e3
          subst e3
          rw [List.length_replicate] at e2 ⊢
          exact ⟨bb, off, _, rfl, e2, hW.fr h1 h2, h2, h5⟩
        have HGv : Hid (∀ W, Wd w h n 7 224 l0 l T W → Calls Tryz.prog 19 #[.pointer (some ⟨h.g, 0, none⟩), .int .i64 (P : Int)] W fun e W' => ∃ l' T', e = .returned (.int .i64 0) ∧ Gvn 7 224 T T' jj k ∧ Wd w h n 7 224 l0 l' T' W' ∧ Fr W.heap.size (blkM h) W W' ∧ Kp 7 224 T T' l l') := fun W hW => by
          have := hW.give he.hj he.hk
          rw [← he.ha] at this
          exact this
        have HGn : Hid (∀ W l' T', Gvn 7 224 T T' jj k → Wd w h n 7 224 l0 l' T' W → Calls Tryz.prog 19 #[.pointer (some ⟨h.g, 0, none⟩), .int .i64 (P : Int)] W fun e W' => ∃ l'', e = .returned (.int .i64 30) ∧ Wd w h n 7 224 l0 l'' T' W' ∧ Fr W.heap.size (blkM h) W W' ∧ Kp 7 224 T' T' l' l'') := fun W l' T' t hW =>
          hW.give_no (a := (P : Int)) (by unfold is64; omega) (he.gone t)
        have HD9 := Lib.hid HD1.out.d
        have HO9 := Lib.hid HD1.out.o
        have HZ9 := Lib.hid HD1.out.z9
        have HM9 := Lib.hid HD1.out.m9
        have HA9 : Hid (∀ x ∈ A, x ≤ 100000) := HD1.out.i.ai.bd HD1.out.d
        have HJ := Lib.hid HD1.out.k
        have hlo := Lib.hid HD1.out.d.lo
        have hkA1 : (kk : Int) < (A.length : Int) := by omega
        have hkZ1 : (kk : Int) < (Z.length : Int) := by omega
        have hkM1 : (kk : Int) < (M.length : Int) := by omega
        have hk0 : (0 : Int) ≤ (kk : Int) := by omega
        clear he hzg1 hzg2 hpl hll hmb HD1
        have hd := HD9.out
        have ho := HO9.out
        go_wp2_with fail
        clear b0 b1
        generalize wr.alloc (.cells #[.int .i64 yk, .int .i64 yn] 34) = V at *
        go_region_with (first | (go_at_call 34; refine (HRd.out _ (by first | exact hd | exact hd.drew)).mono ?_; rintro e w5 ⟨bb, boff, bc, rfl, hbc, hd5, hf5, hrow5⟩; have ho5 : Ow3 n w5 (.slice (some ⟨ga, 0, none⟩) A.length ca) (.slice (some ⟨gz, 0, none⟩) Z.length cz) (.slice (some ⟨gm, 0, none⟩) M.length cm) A Z M := (by first | exact ho.fr hf5 hlo.out | exact (ho.below (Below.refl _ _).drew).fr hf5 hlo.out)))
        all_goals
          have HD5 := Lib.hid hd5
          have HO5 := Lib.hid ho5
          have HRow5 := Lib.hid hrow5
          clear hd ho hd5 ho5 hrow5 hf5 HD9 HO9 HRd ka kz
          go_wp2
          go_loopw [17] (fun i wx => ∃ t : Nat, t ≤ zz ∧ i = .int .i64 t ∧ Hid (Below w5.heap.size w5 wx)) (fun i _ => zz - (intOf i).toNat)
          case atStart => exact ⟨0, Nat.zero_le _, rfl, Below.refl _ _⟩
          case round =>
            obtain ⟨t, ht, rfl, HB⟩ := hrel
            by_cases htl : t < zz
            · have htl1 : (t : Int) < (zz : Int) := by omega
              have htl0 : (0 : Int) ≤ (t : Int) := by omega
              have htw : IntKind.i64.wrap ((t : Int) + 1) = ((t + 1 : Nat) : Int) := (Arn.wrap_id (by omega) (by omega)).trans (by omega)
              have km := (HCe.out _ (HO5.out.below HB.out)).2.2
              have kb := (HRow5.out.grown (grown_below (r := none) HB.out) (by simp)).cell (i := t) (by rw [List.length_replicate]; exact htl)
              have hrp : (List.replicate zz mb).getD t 0 = mb := by simp [List.getD, htl]
              rw [hrp] at kb
              clear hrp
              go_wp2_with fail
              go_quiet (fail)
              have HB2 := Lib.hid (HB.out.trans (below_drewN (Below.refl w5.heap.size wr) nq))
              go_wp2
              go_roundw
              case rel => exact ⟨t + 1, by omega, by go_num, HB2.out⟩
              case measure => simp [intOf]; omega
            · obtain rfl : zz = t := by omega
              have HDx := Lib.hid (HD5.out.below HB.out)
              have HOx := Lib.hid (HO5.out.below HB.out)
              obtain ⟨ka, kz, -⟩ := HCe.out _ HOx.out
              clear HB HD5 HO5 HRow5 hu8
              go_wp2_with fail
              refine (HGv.out _ HDx.out).mono ?_
              rintro e w6 ⟨l', T', rfl, hg6, hd6, hf6, hkp6⟩
              have HO6 := Lib.hid (HOx.out.fr hf6 hlo.out)
              have HI6 := Lib.hid (HGi.out T' l' hg6 hkp6)
              have HGn6 := Lib.hid (HGn.out _ l' T' hg6 hd6)
              clear ka kz HDx HOx HGv HGn HGi hg6 hd6 hf6 hkp6
              obtain ⟨ka, kz, -⟩ := HCe.out _ HO6.out
              go_wp2_with fail
              refine HGn6.out.mono ?_
              rintro e w7 ⟨l2, rfl, hd7, hf7, hkp7⟩
              have HDw7 := Lib.hid hd7
              have HOw7 := Lib.hid (HO6.out.fr hf7 hlo.out)
              have HI7 := Lib.hid (HI6.out.same hkp7)
              have hn7 := hd7.nn
              clear ka kz hd7 hf7 hkp7 HGn6 HI6 HO6 HCe
              obtain ⟨s, hs⟩ : ∃ s, s = kk + 1 := ⟨_, rfl⟩
              have HAsA : Hid (A.take kk ++ A.drop s = del A kk) := by rw [hs]; rfl
              have HAsZ : Hid (Z.take kk ++ Z.drop s = del Z kk) := by rw [hs]; rfl
              have HAsM : Hid (M.take kk ++ M.drop s = del M kk) := by rw [hs]; rfl
              have hw3 : IntKind.i64.wrap ((kk : Int) + 1) = (s : Int) := (Arn.wrap_id (by omega) (by omega)).trans (by omega)
              have hs1 : (0 : Int) ≤ (s : Int) := by omega
              have hsA : (s : Int) ≤ (A.length : Int) := by omega
              have hsZ : (s : Int) ≤ (Z.length : Int) := by omega
              have hsM : (s : Int) ≤ (M.length : Int) := by omega
              have hcA : (kk : Int) ≤ (ca : Int) := by omega
              have hcZ : (kk : Int) ≤ (cz : Int) := by omega
              have hcM : (kk : Int) ≤ (cm : Int) := by omega
              have hcA2 : (A.length : Int) ≤ (ca : Int) := by omega
              have hcZ2 : (Z.length : Int) ≤ (cz : Int) := by omega
              have hcM2 : (M.length : Int) ≤ (cm : Int) := by omega
              have HSk := Lib.hid hs
              clear hs
              have hRA := HOw7.out.ra.row HA9.out
              obtain ⟨hTA, hDrA⟩ := del_facts0 hRA hkA HSk.out
              have HTA := Lib.hid hTA
              have HDrA := Lib.hid hDrA
              have hm1A : 0 + (Lis.ints (A.take kk)).length ≤ 1000000 := by rw [Lis.ints_length, List.length_take]; omega
              have hm2A : 0 + (Lis.ints (A.take kk)).length + (Lis.ints (A.drop s)).length ≤ 1000000 := by rw [Lis.ints_length, Lis.ints_length, List.length_take, List.length_drop]; omega
              have halA : Below w7.heap.size w7 (w7.alloc (.cells #[] 3)).drew := (below_made w7 (.cells #[] 3)).drew
              have hzsA : w7.heap.size ≤ (w7.alloc (.cells #[] 3)).drew.heap.size := halA.size
              have HOwnA := Lib.hid (own_empty64 w7 3).drew
              have HBA := Lib.hid halA
              clear hRA hTA hDrA halA
              go_wp2_with fail
              go_region_held3 (fun _ => True) (exact trivial) ((first | (refine step_append_ints _ (by rfl) (.tmp 192) (.tmp 195) 32 (by rfl) w7.heap.size 3 i0 (.int .i64 0) Tryz.underlying32 hi0 hz0 hz1 hz2 rfl _ 0 [] (by rfl) HOwnA.out _ (Lis.ints (A.take kk)) (by rfl) (HTA.out _ _ _ _ HBA.out rfl rfl rfl) hm1A hzsA ?_; intro v1 W1 ho1 hg1 hk1 hn1; have hB1 := HBA.out.grown hg1 hzsA (fun r hr => (HOwnA.out.lt r hr).1)) | (refine step_append_ints _ (by rfl) (.tmp 196) (.tmp 200) 32 (by rfl) w7.heap.size 3 i0 (.int .i64 0) Tryz.underlying32 hi0 hz0 hz1 hz2 rfl _ _ _ (by rfl) ho1 _ (Lis.ints (A.drop s)) (by rfl) (HDrA.out _ _ _ _ hB1 rfl rfl rfl) hm2A hB1.size ?_; intro vw8 w8 ho2 hg2 hk2 hn2; have hB2 := hB1.grown hg2 hB1.size (fun r hr => (ho1.lt r hr).1))))
              generalize (if ca = s then some (⟨ga, 0, none⟩ : Addr) else some ⟨ga, s, none⟩) = xA
              have hOA := del_own ho2 rfl
              rw [HAsA.out] at hOA
              have HDw8 := Lib.hid (HDw7.out.below hB2)
              have HOw8 := Lib.hid (HOw7.out.setA (grown_below hB2) (hOA.lower HDw7.out.nn) (.inr hOA.base))
              clear ho1 ho2 hg1 hg2 hk1 hk2 hn1 hn2 hB1 hB2 hOA HTA HDrA HOwnA HBA HOw7 HDw7 hm1A hm2A hzsA HAsA
              have hRZ := HOw8.out.rz.row HZ9.out
              obtain ⟨hTZ, hDrZ⟩ := del_facts0 hRZ hkZ HSk.out
              have HTZ := Lib.hid hTZ
              have HDrZ := Lib.hid hDrZ
              have hm1Z : 0 + (Lis.ints (Z.take kk)).length ≤ 1000000 := by rw [Lis.ints_length, List.length_take]; omega
              have hm2Z : 0 + (Lis.ints (Z.take kk)).length + (Lis.ints (Z.drop s)).length ≤ 1000000 := by rw [Lis.ints_length, Lis.ints_length, List.length_take, List.length_drop]; omega
              have halZ : Below w8.heap.size w8 (w8.alloc (.cells #[] 3)).drew := (below_made w8 (.cells #[] 3)).drew
              have hzsZ : w8.heap.size ≤ (w8.alloc (.cells #[] 3)).drew.heap.size := halZ.size
              have HOwnZ := Lib.hid (own_empty64 w8 3).drew
              have HBZ := Lib.hid halZ
              clear hRZ hTZ hDrZ halZ
              go_wp2_with fail
              go_region_held3 (fun _ => True) (exact trivial) ((first | (refine step_append_ints _ (by rfl) (.tmp 202) (.tmp 205) 32 (by rfl) w8.heap.size 3 i0 (.int .i64 0) Tryz.underlying32 hi0 hz0 hz1 hz2 rfl _ 0 [] (by rfl) HOwnZ.out _ (Lis.ints (Z.take kk)) (by rfl) (HTZ.out _ _ _ _ HBZ.out rfl rfl rfl) hm1Z hzsZ ?_; intro v1 W1 ho1 hg1 hk1 hn1; have hB1 := HBZ.out.grown hg1 hzsZ (fun r hr => (HOwnZ.out.lt r hr).1)) | (refine step_append_ints _ (by rfl) (.tmp 206) (.tmp 210) 32 (by rfl) w8.heap.size 3 i0 (.int .i64 0) Tryz.underlying32 hi0 hz0 hz1 hz2 rfl _ _ _ (by rfl) ho1 _ (Lis.ints (Z.drop s)) (by rfl) (HDrZ.out _ _ _ _ hB1 rfl rfl rfl) hm2Z hB1.size ?_; intro vw9 w9 ho2 hg2 hk2 hn2; have hB2 := hB1.grown hg2 hB1.size (fun r hr => (ho1.lt r hr).1))))
              generalize (if cz = s then some (⟨gz, 0, none⟩ : Addr) else some ⟨gz, s, none⟩) = xZ
              have hOZ := del_own ho2 rfl
              rw [HAsZ.out] at hOZ
              have HDw9 := Lib.hid (HDw8.out.below hB2)
              have HOw9 := Lib.hid (HOw8.out.setZ (grown_below hB2) (hOZ.lower HDw8.out.nn) (.inr hOZ.base))
              clear ho1 ho2 hg1 hg2 hk1 hk2 hn1 hn2 hB1 hB2 hOZ HTZ HDrZ HOwnZ HBZ HOw8 HDw8 hm1Z hm2Z hzsZ HAsZ
              have hRM := HOw9.out.rm.row HM9.out
              obtain ⟨hTM, hDrM⟩ := del_facts0 hRM hkM HSk.out
              have HTM := Lib.hid hTM
              have HDrM := Lib.hid hDrM
              have hm1M : 0 + (Lis.ints (M.take kk)).length ≤ 1000000 := by rw [Lis.ints_length, List.length_take]; omega
              have hm2M : 0 + (Lis.ints (M.take kk)).length + (Lis.ints (M.drop s)).length ≤ 1000000 := by rw [Lis.ints_length, Lis.ints_length, List.length_take, List.length_drop]; omega
              have halM : Below w9.heap.size w9 (w9.alloc (.cells #[] 3)).drew := (below_made w9 (.cells #[] 3)).drew
              have hzsM : w9.heap.size ≤ (w9.alloc (.cells #[] 3)).drew.heap.size := halM.size
              have HOwnM := Lib.hid (own_empty64 w9 3).drew
              have HBM := Lib.hid halM
              clear hRM hTM hDrM halM
              go_wp2_with fail
              go_region_held3 (fun _ => True) (exact trivial) ((first | (refine step_append_ints _ (by rfl) (.tmp 212) (.tmp 215) 32 (by rfl) w9.heap.size 3 i0 (.int .i64 0) Tryz.underlying32 hi0 hz0 hz1 hz2 rfl _ 0 [] (by rfl) HOwnM.out _ (Lis.ints (M.take kk)) (by rfl) (HTM.out _ _ _ _ HBM.out rfl rfl rfl) hm1M hzsM ?_; intro v1 W1 ho1 hg1 hk1 hn1; have hB1 := HBM.out.grown hg1 hzsM (fun r hr => (HOwnM.out.lt r hr).1)) | (refine step_append_ints _ (by rfl) (.tmp 216) (.tmp 220) 32 (by rfl) w9.heap.size 3 i0 (.int .i64 0) Tryz.underlying32 hi0 hz0 hz1 hz2 rfl _ _ _ (by rfl) ho1 _ (Lis.ints (M.drop s)) (by rfl) (HDrM.out _ _ _ _ hB1 rfl rfl rfl) hm2M hB1.size ?_; intro vw10 w10 ho2 hg2 hk2 hn2; have hB2 := hB1.grown hg2 hB1.size (fun r hr => (ho1.lt r hr).1))))
              generalize (if cm = s then some (⟨gm, 0, none⟩ : Addr) else some ⟨gm, s, none⟩) = xM
              have hOM := del_own ho2 rfl
              rw [HAsM.out] at hOM
              have HDw10 := Lib.hid (HDw9.out.below hB2)
              have HOw10 := Lib.hid (HOw9.out.setM (grown_below hB2) (hOM.lower HDw9.out.nn) (.inr hOM.base))
              clear ho1 ho2 hg1 hg2 hk1 hk2 hn1 hn2 hB1 hB2 hOM HTM HDrM HOwnM HBM HOw9 HDw9 hm1M hm2M hzsM HAsM
              have HF : Hid (SO w h n l0 l2 T' w10 vw8 vw9 vw10 (del A kk) (del Z kk) (del M kk) (j + 1)) := ⟨HDw10.out, HOw10.out, HI7.out,
                fun x hx => HZ9.out x (del_mem hx), fun x hx => HM9.out x (del_mem hx), by have := del_len A hkA; have := HJ.out; omega⟩
              clear HDw10 HOw10 HI7
              go_wp2
              go_roundw
              case rel => exact ⟨j + 1, _, _, _, l2, T', by omega, by go_num, HF.out⟩
              case measure => simp [intOf]; omega
    -- GIVE}
    · obtain rfl : j = B.length := by omega
      have hfa := HD.out.d.st.faults
      have HFa : Hid (Calls Tryz.prog 23 #[.pointer (some ⟨h.g, 0, none⟩)] wr fun e w' => e = .returned (.int .i64 0) ∧ Below wr.heap.size wr w') := hfa
      have HB := Lib.hid HD.out.d.b
      clear hfa HD
      go_wp2_with fail
      refine HFa.out.mono ?_
      rintro e w4 ⟨rfl, hb4⟩
      have HB4 := Lib.hid (HB.out.trans (hb4.mono HB.out.size))
      clear hb4 HFa HB
      go_wp2_with fail
      refine (HW.out _ (HTs.out.keep HB4.out)).mono ?_
      rintro e w5 ⟨rfl, hb5⟩
      have HB5 := Lib.hid (HB4.out.trans (hb5.mono HB4.out.size))
      clear hb5 HB4
      go_wp2
      go_ret
      exact ⟨rfl, HB5.out⟩
end Go.Proofs.YtlcnhnhpaddkfaaGreatDoor.Sla
