/- The contract of the landed Pack. -/
import Derived.Test.YtbjdlfeipidlbaaRecU
namespace Go.Proofs.Ytbjdlfeipidlbaa.Rec
open Go.RowKit
set_option linter.unusedVariables false

/-- The first bytes of a row of which k records are packed; the row; and the row ahead of the end's bytes. -/
def hdB (L : List (List Int)) (k : Nat) : List Int := (L.length : Int) :: 0 :: hdr 0 (L.take k)
def mid (L : List (List Int)) (k : Nat) : List Int := hdB L k ++ (List.replicate (2 * (L.length - k)) 0 ++ ((L.take k).flatten ++ List.replicate (dat L - dat (L.take k)) 0))
def midC (L : List (List Int)) (k : Nat) : List Int := hdB L k ++ (List.replicate (2 * (L.length - k)) 0 ++ ((L.take (k + 1)).flatten ++ List.replicate (dat L - dat (L.take (k + 1))) 0))
theorem hdB_length (L : List (List Int)) (k : Nat) (h : k ≤ L.length) : (hdB L k).length = 2 + 2 * k := by
  simp only [hdB, List.length_cons, hdr_length, List.length_take]
  omega
theorem mid_length (L : List (List Int)) (k : Nat) (h : k ≤ L.length) : (mid L k).length = szL L := by
  have h1 := hdB_length L k h
  have h2 := dat_take_le L k
  simp only [mid, List.length_append, List.length_replicate, dat_flatten, h1, szL]
  omega
theorem midC_length (L : List (List Int)) (k : Nat) (h : k < L.length) : (midC L k).length = szL L := by
  have h1 := hdB_length L k (by omega)
  have h2 := dat_take_le L (k + 1)
  simp only [midC, List.length_append, List.length_replicate, dat_flatten, h1, szL]
  omega
theorem mid_zero (L : List (List Int)) : mid L 0 = (L.length : Int) :: 0 :: List.replicate (2 * L.length + dat L) 0 := by
  have e : dat ([] : List (List Int)) = 0 := rfl
  simp only [mid, hdB, List.take_zero, hdr, List.flatten_nil, List.nil_append, e, Nat.sub_zero, List.cons_append]
  rw [List.replicate_append_replicate]
theorem mid_full (L : List (List Int)) : mid L L.length = packL L := by
  simp only [mid, hdB, packL, List.take_length, Nat.sub_self, Nat.mul_zero, List.replicate_zero, List.nil_append, List.append_nil]
theorem take_flat (L : List (List Int)) (k : Nat) (h : k < L.length) : (L.take (k + 1)).flatten = (L.take k).flatten ++ L.getD k [] := by
  have e : L.getD k [] = L[k] := by simp [List.getD, h]
  rw [e, List.take_succ_eq_append_getElem h, List.flatten_append]
  simp
theorem mid_copy (L : List (List Int)) (k A : Nat) (x : List Int) (h : k < L.length) (hx : x = L.getD k []) (hA : A = 2 + 2 * L.length + dat (L.take k)) :
    (mid L k).take A ++ (x ++ (mid L k).drop (A + x.length)) = midC L k := by
  have h1 := hdB_length L k (by omega)
  have h2 := dat_take_succ L k h
  rw [← hx] at h2
  have hP : (hdB L k ++ (List.replicate (2 * (L.length - k)) (0 : Int) ++ (L.take k).flatten)).length = A := by
    simp only [List.length_append, List.length_replicate, dat_flatten, h1]
    omega
  have hm : mid L k = (hdB L k ++ (List.replicate (2 * (L.length - k)) 0 ++ (L.take k).flatten)) ++ List.replicate (dat L - dat (L.take k)) 0 := by simp [mid, List.append_assoc]
  obtain ⟨P, hPe⟩ : ∃ P, P = hdB L k ++ (List.replicate (2 * (L.length - k)) (0 : Int) ++ (L.take k).flatten) := ⟨_, rfl⟩
  rw [← hPe] at hP hm
  rw [hm, ← hP, List.take_left, List.drop_append, List.drop_eq_nil_of_le (by omega), List.nil_append, List.drop_replicate, show dat L - dat (L.take k) - (P.length + x.length - P.length) = dat L - dat (L.take (k + 1)) by omega, hPe]
  simp only [midC, take_flat L k h, ← hx, List.append_assoc]
theorem hdB_snoc (L : List (List Int)) (k : Nat) (h : k < L.length) : hdB L (k + 1) = hdB L k ++ [((dat (L.take (k + 1)) % 256 : Nat) : Int), ((dat (L.take (k + 1)) / 256 : Nat) : Int)] := by
  have e : L.getD k [] = L[k] := by simp [List.getD, h]
  have h2 := dat_take_succ L k h
  rw [e] at h2
  simp only [hdB, List.take_succ_eq_append_getElem h, hdr_snoc, Nat.zero_add, List.cons_append]
  rw [← List.take_succ_eq_append_getElem h, h2]
theorem mid_store (L : List (List Int)) (k q v : Nat) (h : k < L.length) (hq : q = 2 + 2 * k) (hv : v = dat (L.take (k + 1))) (hv2 : v < 65536) : Num.stl (midC L k) q 2 v = mid L (k + 1) := by
  have h1 := hdB_length L k (by omega)
  have e : List.replicate (2 * (L.length - k)) (0 : Int) = [0, 0] ++ List.replicate (2 * (L.length - (k + 1))) 0 := by
    rw [show 2 * (L.length - k) = 2 * (L.length - (k + 1)) + 1 + 1 by omega, List.replicate_succ, List.replicate_succ]
    rfl
  have hp : (Num.parts v).take 2 = [((v % 256 : Nat) : Int), ((v / 256 : Nat) : Int)] := by
    simp only [Num.parts, List.take_succ_cons, List.take_zero, List.cons.injEq, and_true]
    omega
  unfold Num.stl
  rw [hp, midC, e, mid, hdB_snoc L k h, ← hv]
  have hq2 : (hdB L k).length = q := by omega
  rw [← hq2, List.take_left, ← List.drop_drop, List.drop_left]
  simp [List.append_assoc]
theorem hdr_bytes (n : Nat) (L : List (List Int)) (h : n + dat L < 65536) : ∀ u ∈ hdr n L, 0 ≤ u ∧ u < 256 := by
  induction L generalizing n with
  | nil => intro u hu; simp [hdr] at hu
  | cons l r ih =>
    rw [dat_cons] at h
    intro u hu
    simp only [hdr, List.mem_cons] at hu
    rcases hu with rfl | rfl | hu
    · omega
    · omega
    · exact ih (n + l.length) (by omega) u hu
theorem packL_bytes (L : List (List Int)) (hL : ∀ i j, 0 ≤ (L.getD i []).getD j 0 ∧ (L.getD i []).getD j 0 < 256) (h1 : L.length < 256) (h2 : dat L < 65536) : ∀ i, 0 ≤ (packL L).getD i 0 ∧ (packL L).getD i 0 < 256 := by
  have key : ∀ u ∈ packL L, 0 ≤ u ∧ u < 256 := by
    intro u hu
    simp only [packL, List.mem_append, List.mem_cons, List.mem_flatten] at hu
    rcases hu with (rfl | rfl | hu) | ⟨m, hm, hu⟩
    · omega
    · omega
    · exact hdr_bytes 0 L (by omega) u hu
    · obtain ⟨i, hi, rfl⟩ := List.getElem_of_mem hm
      obtain ⟨j, hj, rfl⟩ := List.getElem_of_mem hu
      have := hL i j
      simpa [List.getD, hi, hj] using this
  intro i
  by_cases hi : i < (packL L).length
  · have := key _ (List.getElem_mem hi)
    simpa [List.getD, hi] using this
  · simp [List.getD, List.getElem?_eq_none (show (packL L).length ≤ i by omega)]

theorem store2 (g S : Nat) (l : List Int) (q v : Nat) (w : World) (hl : l.length = S) (hg : w.heap[g]? = some (.cells (vals l).toArray 5 (0, 0))) (hv : v < 65536) (hq : q % 2 = 0) (hqS : q + 2 ≤ S) (hS : S ≤ 1000000) :
    Calls Try.prog 31 #[.slice (some ⟨g, 0, none⟩) S S, .int .i64 q, .int .i64 2, .int .u64 v] w
      fun e w' => e = .returned (.tuple #[.slice (some ⟨w.heap.size, 0, none⟩) S S, .int .i64 0]) ∧ Below w.heap.size w w' ∧ w'.heap[w.heap.size]? = some (.cells (vals (Num.stl l q 2 v)).toArray 5 (0, 0)) := by
  subst hl
  refine Num.store_ok g 0 l.length l q 2 v w (Nat.le_refl _) (by omega) (by omega) (fun i hi => ?_) (Array.getElem?_eq_some_iff.1 hg).1 (by omega) (by omega) ?_ (by omega) (by omega) ?_ hqS
  · rw [Nat.zero_add, cell_block hg, List.getElem?_toArray, vals_get _ _ hi]
  · have h2 : Num.isW 2 = true := by decide
    simp [Num.fits, h2]
    omega
  · unfold Num.plc
    rw [if_neg (by omega), if_pos (by omega)]

theorem setCell_heap (w : World) (g i : Nat) (l : List Int) (t : TypeId) (x : Int) (hg : w.heap[g]? = some (.cells (vals l).toArray t (0, 0))) : (w.setCell ⟨g, i, none⟩ (.int .u8 x)).heap[g]? = some (.cells (vals (l.set i x)).toArray t (0, 0)) := by
  unfold World.setCell
  rw [Array.getElem?_modify, if_pos rfl, hg]
  simp [vals]

/-- What is packed: bytes of the call's own, none of them frozen. -/
def POwn (w : World) (L : List (List Int)) (e : Ending) (w' : World) : Prop :=
  ∃ u, e = .returned (.tuple #[u, .int .i64 (szE L)]) ∧ Below w.heap.size w w' ∧
    ((szE L = 0 ∧ ∃ g, w.heap.size ≤ g ∧ u = .slice (some ⟨g, 0, none⟩) (szL L) (szL L) ∧ w'.heap[g]? = some (.cells (vals (packL L)).toArray 5 (0, 0))) ∨ (szE L ≠ 0 ∧ u = .slice none 0 0))

theorem szE_zero {L : List (List Int)} (h : szE L = 0) : 1 ≤ L.length ∧ L.length ≤ 16 ∧ szL L ≤ 480 := by
  unfold szE at h
  split at h
  · omega
  · split at h <;> omega

set_option maxRecDepth 100000 in
set_option maxHeartbeats 4000000 in
theorem pack_own (v : Value) (L : List (List Int)) (w : World) (hr : QRow w v L) (hd : dat L ≤ 1000000) :
    Calls Try.prog 18 #[v] w (POwn w L) := by
  obtain ⟨iB, hiB, hzB0, hzB1, hzB2⟩ := info_parts infoB
  have HSz := Lib.hid (size_any v L w hr hd)
  obtain ⟨ad, cap, U0, rfl, q2, q3, q4, q5⟩ := hr
  have HC := Lib.hid q5
  have HS := Lib.hid q4
  clear q4 q5
  by_cases h0 : szE L = 0
  · obtain ⟨hn1, hn16, h480⟩ := szE_zero h0
    have hN : szN L = szL L := by rw [szN, if_pos h0]
    rw [hN, h0] at HSz
    have H0 := Lib.hid h0
    obtain ⟨S, hS⟩ : ∃ S, S = szL L := ⟨_, rfl⟩
    rw [← hS] at HSz h480
    obtain ⟨s, hs⟩ : ∃ s, s = 2 + 2 * L.length := ⟨_, rfl⟩
    have HSE := Lib.hid hS
    have HSS := Lib.hid hs
    have hsS : s + dat L = S := by rw [hs, hS]; unfold szL; omega
    have HSD := Lib.hid hsS
    have HA := Lib.hid (fun w0 => endAt_any L.length s w0 (by omega) hs.symm)
    have hs2 : s ≤ 34 := by omega
    have hs4 : 4 ≤ s := by omega
    have hsS2 : s ≤ S := by omega
    clear h0 hN hS hs hsS
    go_enter Try.func18, Try.ntmps18
    go_wp2_with fail
    refine HSz.out.mono ?_
    rintro e w' ⟨rfl, rfl⟩
    have hu8 : IntKind.u8.wrap (L.length : Int) = (L.length : Int) := by simp [IntKind.wrap, IntKind.bits, IntKind.signed]; omega
    have hS0 : (0 : Int) < (S : Int) := by omega
    have hmc : (madeCells #[Value.int .u8 0] S)[0]? = some (.int .u8 0) := by rw [madeCells_one, List.getElem?_toArray, List.getElem?_replicate, if_pos (by omega)]
    go_wp2_with (refine wpList_make_row rfl (.tmp 19) (.tmp 19) 22 rfl 5 iB (.int .u8 0) 1 Try.underlying22 hiB hzB0 hzB1 hzB2 .i64 .i64 S rfl rfl (by omega) (by omega) ?_)
    refine (HA.out _).mono ?_
    rintro e w' ⟨rfl, rfl⟩
    have HM1 : Hid ((w.alloc (.cells ((madeCells #[Value.int .u8 0] S).setIfInBounds 0 (.int .u8 L.length)) 5)).heap[w.heap.size]? = some (.cells (vals (mid L 0)).toArray 5 (0, 0))) := by
      unfold Hid
      rw [heap_alloc_new, madeCells_one, mid_zero, show S = (2 * L.length + dat L) + 1 + 1 by have := HSD.out; have := HSS.out; omega]
      simp [vals, List.replicate_succ]
    have HB1 : Hid (Below w.heap.size w (w.alloc (.cells ((madeCells #[Value.int .u8 0] S).setIfInBounds 0 (.int .u8 L.length)) 5))) := below_made w _
    obtain ⟨w1, hw1⟩ : ∃ w1, w1 = w.alloc (.cells ((madeCells #[Value.int .u8 0] S).setIfInBounds 0 (.int .u8 L.length)) 5) := ⟨_, rfl⟩
    rw [← hw1] at HM1 HB1 ⊢
    clear hw1
    go_wp2
    go_loopw [5, 6, 8, 32] (fun ev pv av i wr => ∃ (k g A : Nat), k ≤ L.length ∧ i = .int .i64 k ∧ ev = .int .i64 0 ∧ pv = .slice (some ⟨g, 0, none⟩) S S ∧ av = .int .i64 A ∧ Hid (A = s + dat (L.take k)) ∧ Hid (wr.heap[g]? = some (.cells (vals (mid L k)).toArray 5 (0, 0))) ∧ w.heap.size ≤ g ∧ Hid (Below w.heap.size w wr)) (fun _ _ _ i _ => L.length - (intOf i).toNat)
    case atStart => exact ⟨0, _, s, Nat.zero_le _, rfl, rfl, rfl, rfl, rfl, HM1.out, Nat.le_refl _, HB1.out⟩
    case round =>
      obtain ⟨k, g, A, hk, rfl, rfl, rfl, rfl, HAk, HG, hgw, HBl⟩ := hrel
      by_cases hlt : k < L.length
      · have hlt1 : (k : Int) < (L.length : Int) := by omega
        obtain ⟨b, off, rfl, hlb, hc⟩ := HC.out (by rintro rfl; simp at hlt)
        have hcell := (HBl.out.cell (p := ⟨b, off + k, none⟩) hlb).trans (hc k hlt)
        have hs := (HS.out k hlt).mono HBl.out (Nat.le_refl _)
        have hm1 := dat_take_succ L k hlt
        have hm2 := dat_take_le L (k + 1)
        obtain ⟨x, hx⟩ : ∃ x, x = L.getD k [] := ⟨_, rfl⟩
        rw [← hx] at hs hm1
        obtain ⟨V, hV⟩ : ∃ V, V = U0 k := ⟨_, rfl⟩
        rw [← hV] at hcell hs
        obtain ⟨v, hv⟩ : ∃ v, v = dat (L.take (k + 1)) := ⟨_, rfl⟩
        obtain ⟨A', hA'⟩ : ∃ A', A' = A + x.length := ⟨_, rfl⟩
        obtain ⟨q, hq⟩ : ∃ q, q = 2 + 2 * k := ⟨_, rfl⟩
        have HA2 := Lib.hid (fun w0 => endAt_any k q w0 (by omega) hq.symm)
        have hA0 := HAk.out
        have hSD := HSD.out
        have hSS := HSS.out
        have hv2 : v ≤ 1000 := by omega
        have hAv : A' = s + v := by omega
        have hAS : A' ≤ S := by omega
        have hAA : A ≤ A' := by omega
        have hqS : q + 2 ≤ S := by omega
        have HAv := Lib.hid hAv
        have HMC := Lib.hid (mid_copy L k A x hlt hx (by omega))
        have HMS := Lib.hid (mid_store L k q v hlt hq hv (by omega))
        have HMCl := Lib.hid (midC_length L k hlt)
        rw [← HSE.out] at HMCl
        have HV := Lib.hid hv
        have HXl := Lib.hid hA'
        have hq3 : q ≤ 34 := by omega
        have hq4 : q % 2 = 0 := by omega
        have wA : IntKind.i64.wrap ((A : Int) + (x.length : Int)) = (A' : Int) := (wrap_id (by omega) (by omega)).trans (by omega)
        have wB : IntKind.i64.wrap ((A' : Int) - (s : Int)) = (v : Int) := (wrap_id (by omega) (by omega)).trans (by omega)
        have wC : IntKind.u64.wrap (v : Int) = (v : Int) := by simp [IntKind.wrap, IntKind.bits, IntKind.signed]; omega
        have hz1 : (0 : Int) ≤ (A : Int) := by omega
        have hz2 : (A : Int) ≤ (S : Int) := by omega
        have HST : Hid (∀ W1 : World, W1.heap[g]? = some (.cells (vals (midC L k)).toArray 5 (0, 0)) → Below w.heap.size w W1 → Calls Try.prog 31 #[.slice (some ⟨g, 0, none⟩) S S, .int .i64 q, .int .i64 2, .int .u64 v] W1
            fun e w' => ∃ G, e = .returned (.tuple #[.slice (some ⟨G, 0, none⟩) S S, .int .i64 0]) ∧ Hid (w'.heap[G]? = some (.cells (vals (mid L (k + 1))).toArray 5 (0, 0))) ∧ w.heap.size ≤ G ∧ Hid (Below w.heap.size w w')) := by
          intro W1 h1 h2
          refine (store2 g S _ q v W1 HMCl.out h1 (by omega) hq4 hqS (by omega)).mono ?_
          rintro e w' ⟨rfl, g1, g2⟩
          refine ⟨_, rfl, ?_, h2.size, h2.trans (g1.mono h2.size)⟩
          unfold Hid
          rw [← HMS.out]
          exact g2
        obtain ⟨ax, cx, rfl, r2, r3, -, r5⟩ := hs
        have HR5 := Lib.hid r5
        have HCK : Hid (A' = s + dat (L.take (k + 1))) := by unfold Hid; omega
        clear hc hV hx hm1 hm2 hv hA' hq hA0 hSD hSS hAv r5 HAk HMS HMCl HM1 HB1
        by_cases hx0 : x = []
        · have hxl : x.length = 0 := by rw [hx0]; rfl
          have hAA2 : A' = A := by have := HXl.out; omega
          rw [hxl] at hcell wA HR5 r2
          have HG2 : Hid (wr.heap[g]? = some (.cells (vals (midC L k)).toArray 5 (0, 0))) := by
            unfold Hid
            have h1 := HMC.out
            rw [hx0, List.nil_append, List.length_nil, Nat.add_zero, List.take_append_drop] at h1
            rw [← h1]
            exact HG.out
          have HSTr := Lib.hid (HST.out wr HG2.out HBl.out)
          have hcl : S = A ∨ ¬ S = A := Decidable.em _
          clear hx0 hxl HMC HG hAA HXl
          subst hAA2
          rcases hcl with rfl | hcl
          all_goals
            go_wp2_with (refine wpList_copy_nothing rfl (.tmp 40) (.tmp 41) 22 22 rfl 5 Try.underlying22 (by kernel_rfl) _ _ _ _ _ _ rfl rfl (Nat.zero_min _) ?_)
            refine (HA2.out _).mono ?_
            rintro e w' ⟨rfl, rfl⟩
            go_wp2_with fail
            refine HSTr.out.mono ?_
            rintro e w2 ⟨G, rfl, hG2, hGw, hB2⟩
            go_wp2
            go_roundw
            case rel => exact ⟨k + 1, G, _, by omega, by go_num, rfl, rfl, rfl, HCK, hG2, hGw, hB2⟩
            case measure => simp [intOf]; omega
        · obtain ⟨bx, ox, rfl, hlx, hcx⟩ := HR5.out hx0
          have hpos : 0 < x.length := List.length_pos_iff.2 hx0
          have hcl : ¬ S = A := by have := HXl.out; omega
          have hmin : Hid ((vals x).length = Nat.min x.length (S - A)) := by
            unfold Hid; rw [vals_length]; have := HXl.out
            have h1 : x.length ≤ S - A := by omega
            exact (Nat.min_eq_left h1).symm
          have HSC : Hid (∀ j u, (vals x)[j]? = some u → wr.cell? ((⟨bx, ox, none⟩ : Addr).add j) = some u) := by
            intro j u hj
            obtain ⟨hj2, -⟩ := List.getElem?_eq_some_iff.1 hj
            rw [vals_length] at hj2
            rw [vals_get _ _ hj2] at hj
            rw [Addr_add, ← hj]
            exact hcx j hj2
          have hml : (mid L k).length = S := by rw [mid_length L k (by omega), HSE.out]
          have HFT : Hid (A + (vals x).length ≤ (vals (mid L k)).toArray.size) := by
            unfold Hid; rw [vals_length, List.size_toArray, vals_length, hml]; have := HXl.out; omega
          have HRW : Hid (((vals (mid L k)).toArray.toList.take A ++ (vals x ++ (vals (mid L k)).toArray.toList.drop (A + (vals x).length))).toArray = (vals (midC L k)).toArray) := by
            unfold Hid
            rw [← HMC.out, vals_length]
            simp [vals]
          obtain ⟨W1, hW1⟩ : ∃ W1, wr.setRow g (vals (midC L k)).toArray = W1 := ⟨_, rfl⟩
          have HW1 := Lib.hid hW1
          have HSTr := Lib.hid (HST.out W1 (by rw [← hW1]; exact setRow_heap _ _ _ _ _ _ HG.out) (by rw [← hW1]; exact below_setRow HBl.out hgw _))
          have HVL : Hid ((vals x).length = x.length) := vals_length x
          clear hml hcx hx0 HMC HR5 hW1
          go_wp2_with (refine wpList_copy_row rfl (.tmp 40) (.tmp 41) 22 22 rfl 5 Try.underlying22 (by kernel_rfl) g A (S - A) (S - A) ⟨bx, ox, none⟩ x.length cx rfl rfl (vals (mid L k)).toArray 5 HG.out (vals x) hmin.out HSC.out HFT.out (vals_one x) (vals (midC L k)).toArray HRW.out W1 HW1.out ?_; rw [HVL.out])
          refine (HA2.out _).mono ?_
          rintro e w' ⟨rfl, rfl⟩
          go_wp2_with fail
          refine HSTr.out.mono ?_
          rintro e w2 ⟨G, rfl, hG2, hGw, hB2⟩
          go_wp2
          go_roundw
          case rel => exact ⟨k + 1, G, _, by omega, by go_num, rfl, rfl, rfl, HCK, hG2, hGw, hB2⟩
          case measure => simp [intOf]; omega
      · have hkn : k = L.length := by omega
        subst hkn
        have hg := HG.out
        rw [mid_full] at hg
        have HEnd : Hid (POwn w L (.returned (.tuple #[.slice (some ⟨g, 0, none⟩) S S, .int .i64 0])) wr) := by
          refine ⟨_, by rw [H0.out], HBl.out, .inl ⟨H0.out, g, hgw, by rw [HSE.out], hg⟩⟩
        clear hg
        go_wp2
        go_ret2
        exact HEnd.out
  · have HE : Hid (POwn w L (.returned (.tuple #[.slice none 0 0, .int .i64 (szE L)])) w) := ⟨_, rfl, Below.refl _ _, .inr ⟨h0, rfl⟩⟩
    have hne : (szE L != 0) = true := by simpa using h0
    obtain ⟨c, hc⟩ : ∃ c, c = szE L := ⟨_, rfl⟩
    obtain ⟨z, hz⟩ : ∃ z, z = szN L := ⟨_, rfl⟩
    rw [← hc] at HE hne HSz
    rw [← hz] at HSz
    clear h0 hc hz
    go_enter Try.func18, Try.ntmps18
    go_wp2_with fail
    refine HSz.out.mono ?_
    rintro e w' ⟨rfl, rfl⟩
    go_wp2
    go_ret2
    exact HE.out
end Go.Proofs.Ytbjdlfeipidlbaa.Rec
