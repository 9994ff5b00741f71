/- The statement ProbeKeeps. -/
import Derived.Test.YtjikikiconhlaaaProW
import Derived.Test.YtjikikiconhlaaaProY
namespace Go.Proofs.Ytjikikiconhlaaa.Pro
open Go.RowKit
set_option linter.unusedVariables false

def acts (A : List Cel) : List Ac := A.map fun c => (false, c)
theorem acts_length (A : List Cel) : (acts A).length = A.length := by simp [acts]
theorem ga_acts {A : List Cel} {i : Nat} (hi : i < A.length) : ga (acts A) i = (false, gt A i) := by simp [ga, acts, gt, List.getD, hi]
theorem infoA : (Try.prog.info? 45).map (fun i => (i.zero, i.size, i.bytes)) = some (some (.agg #[.bool false, .int .u32 0, .int .i64 0]), 3, 16) := by kernel_rfl
set_option maxRecDepth 100000 in
theorem finds_any (u : Value) (A : List Cel) (x : Int) (w : World) (hr : IRow w u (acts A)) (hn : A.length ≤ 1000) :
    Calls Try.prog 23 #[u, .int .u32 x] w fun e w' => e = .returned (.int .i64 (fnd A x)) ∧ w = w' := by
  have hl := acts_length A
  by_cases h0 : 0 < A.length
  · obtain ⟨b, off, c, rfl, q1, q2, hblt, hc⟩ := hr.open (by omega)
    rw [hl] at hc q1 ⊢
    have HC := Lib.hid hc
    have HY := Lib.hid (fun i hi h1 h2 => fnd_here (A := A) (x := x) (i := i) hi h1 h2)
    have HN := Lib.hid (fnd_none (A := A) (x := x))
    clear hc hr
    go_enter Try.func23, Try.ntmps23
    go_wp2
    go_loopw [5] (fun i wr => ∃ k : Nat, k ≤ A.length ∧ i = .int .i64 k ∧ w = wr ∧ Hid (∀ j, j < k → (gt A j).1 ≠ x)) (fun i _ => A.length - (intOf i).toNat)
    case atStart => exact ⟨0, Nat.zero_le _, rfl, rfl, fun j hj => by omega⟩
    case round =>
      obtain ⟨k, hk, rfl, rfl, HK⟩ := hrel
      by_cases hlt : k < A.length
      · have hlt1 : (k : Int) < (A.length : Int) := by omega
        obtain ⟨-, c1, -⟩ := HC.out k hlt
        rw [ga_acts hlt] at c1
        simp only at c1
        have HYk := Lib.hid (HY.out k hlt HK.out)
        have HKn : Hid ((gt A k).1 ≠ x → ∀ j, j < k + 1 → (gt A j).1 ≠ x) := fun q j hj => by
          by_cases e : j = k
          · subst e; exact q
          · exact HK.out j (by omega)
        generalize (gt A k).1 = z at *
        by_cases hz : z = x
        · have HF := Lib.hid (HYk.out hz)
          have hz1 : (z == x) = true := by simp [hz]
          clear HKn HYk hz
          go_wp2
          go_ret
          exact ⟨ret_int HF.out.symm, rfl⟩
        · have hz1 : (z == x) = false := by simp [hz]
          have HK2 := Lib.hid (HKn.out hz)
          clear HKn HYk hz
          go_wp2
          go_roundw
          case rel => exact ⟨k + 1, by omega, by go_num, by first | rfl | trivial, HK2⟩
          case measure => simp [intOf]; omega
      · obtain rfl : k = A.length := by omega
        have HF := Lib.hid (HN.out HK.out)
        go_wp2
        go_ret
        exact ⟨ret_int HF.out.symm, rfl⟩
  · obtain rfl : A = [] := List.length_eq_zero_iff.1 (by omega)
    obtain ⟨a, c, rfl, -, -⟩ := hr.slice
    clear hr
    go_enter Try.func23, Try.ntmps23
    go_wp2
    go_loopw [5] (fun i wr => i = .int .i64 0 ∧ w = wr) (fun i _ => 0)
    case atStart => exact ⟨rfl, rfl⟩
    case round =>
      obtain ⟨rfl, rfl⟩ := hrel
      go_wp2
      go_ret
      exact ⟨rfl, rfl⟩
theorem own_below {w w' : World} {base k n : Nat} {t : TypeId} {v : Value} {l : List Value} (h : w.ownsRow base t k v n l) (hb : Below w.heap.size w w') : w'.ownsRow base t k v n l := by
  obtain ⟨h1, h2 | ⟨g, cap, cur, e, hg, hh, h3, h4, h5, h6⟩⟩ := h
  · exact ⟨h1, .inl h2⟩
  · exact ⟨h1, .inr ⟨g, cap, cur, e, hg, (hb.block g (Array.getElem?_eq_some_iff.1 hh).1).trans hh, h3, h4, h5, h6⟩⟩
/-- What is known behind k acts. -/
structure KS (w : World) (N k : Nat) (T A : List Cel) (t v : Value) (wr : World) : Prop where
  ki : KI N T A
  few : A.length ≤ k
  row : CRow wr t T
  own : wr.ownsRow w.heap.size 45 3 v A.length (valsA encA (acts A))
  bel : Below w.heap.size w wr
theorem KS.below {w : World} {N k : Nat} {T A : List Cel} {t v : Value} {wr wr' : World} (h : KS w N k T A t v wr) (hb : Below wr.heap.size wr wr') : KS w N k T A t v wr' :=
  ⟨h.ki, h.few, h.row.mono hb (Nat.le_refl _), own_below h.own hb, h.bel.trans (hb.mono h.bel.size)⟩
theorem KS.irow {w : World} {N k : Nat} {T A : List Cel} {t v : Value} {wr : World} (h : KS w N k T A t v wr) : IRow wr v (acts A) := arow_of_owns encA_len (false, 0, 0) h.own (acts_length A)
/-- An act's box. -/
theorem act_box {w V : World} {o : Bool} {x y : Int} (h : Below (w.alloc (.cells #[.bool o, .int .u32 x, .int .i64 y] 45)).heap.size (w.alloc (.cells #[.bool o, .int .u32 x, .int .i64 y] 45)) V) :
    V.cell? ⟨w.heap.size, 0, none⟩ = some (.bool o) ∧ V.cell? ⟨w.heap.size, 1, none⟩ = some (.int .u32 x) ∧ V.cell? ⟨w.heap.size, 2, none⟩ = some (.int .i64 y) := by
  have e0 : V.heap[w.heap.size]? = some (.cells #[.bool o, .int .u32 x, .int .i64 y] 45 (0, 0)) := by
    rw [h.block _ (by rw [size_alloc]; omega)]
    exact heap_alloc_new _ _
  exact ⟨by rw [cell_block e0]; rfl, by rw [cell_block e0]; rfl, by rw [cell_block e0]; rfl⟩

theorem del_cases {n : Nat} {T A : List Cel} (K : KI n T A) (x y : Int) :
    (∃ i, i < A.length ∧ fnd A x = (i : Int) ∧ gt A i = (x, y) ∧ eD T (x, y) = 0) ∨ (eD T (x, y) ≠ 0 ∧ (fnd A x = -1 ∨ ∃ i, i < A.length ∧ fnd A x = (i : Int) ∧ (gt A i).2 ≠ y)) := by
  rcases fnd_cases A x with ⟨i, hi, e, hx⟩ | ⟨e, hx⟩
  · by_cases hy : (gt A i).2 = y
    · have hg : gt A i = (x, y) := Prod.ext hx hy
      exact .inl ⟨i, hi, e, hg, (K.del_iff x y).2 (by rw [← hg]; exact gt_mem hi)⟩
    · refine .inr ⟨fun h => hy ?_, .inr ⟨i, hi, e, hy⟩⟩
      obtain ⟨j, hj, ej⟩ := mem_gt ((K.del_iff x y).1 h)
      have := nd_inj K.nd hi hj (by rw [hx, ej])
      rw [this, ej]
  · refine .inr ⟨fun h => ?_, .inl e⟩
    obtain ⟨j, hj, ej⟩ := mem_gt ((K.del_iff x y).1 h)
    exact hx j hj (by rw [ej])
/-- The rows that an entry's going comes to. -/
theorem vals_erase (A : List Cel) (i : Nat) : valsA encA ((acts A).take i) ++ valsA encA ((acts A).drop (i + 1)) = valsA encA (acts (A.eraseIdx i)) := by
  rw [List.eraseIdx_eq_take_drop_succ]
  simp [valsA, acts, List.map_take, List.map_drop]

theorem cells_part {w : World} {g off c lo m : Nat} {L : List Ac} (h : IRow w (.slice (some ⟨g, off, none⟩) L.length c) L) (hlo : lo + m ≤ L.length) :
    ∀ j u, (valsA encA ((L.drop lo).take m))[j]? = some u → w.cell? ((⟨g, off + lo * 3, none⟩ : Addr).add j) = some u := by
  intro j u hj
  have hl : ((L.drop lo).take m).length = m := by rw [List.length_take, List.length_drop]; omega
  have hj2 := (List.getElem?_eq_some_iff.1 hj).1
  rw [valsA_length encA_len, hl] at hj2
  obtain ⟨a, cap, e, -, -, h5⟩ := h
  injection e with e1 e2 e3
  obtain ⟨b, o, e4, -, hc⟩ := h5 (by rintro rfl; simp at hlo; omega)
  rw [← e1] at e4
  injection e4 with e4
  injection e4 with e5 e6
  subst e5 e6
  have hi : j / 3 < m := by omega
  have hg := valsA_get encA_len (false, 0, 0) ((L.drop lo).take m) (j / 3) (by omega) (j % 3) (by omega)
  rw [show j / 3 * 3 + j % 3 = j by omega, hj] at hg
  have hd : ((L.drop lo).take m).getD (j / 3) (false, 0, 0) = L.getD (lo + j / 3) (false, 0, 0) := by
    simp [List.getD, hi]
  rw [hd] at hg
  have := hc (lo + j / 3) (by omega) (j % 3) u hg.symm
  rw [Addr_add, ← this]
  congr 2
  omega
theorem valsA_one (L : List Ac) : ∀ u ∈ valsA encA L, u.oneCell' = true := by
  intro u hu
  unfold valsA at hu
  obtain ⟨c, hc, hu⟩ := List.mem_flatMap.1 hu
  simp [encA] at hu
  rcases hu with rfl | rfl | rfl <;> rfl
/-- An append of a part of one row onto another one of the call's own. -/
theorem app_part {w0 W : World} {base g off c lo m n cp : Nat} {L X : List Ac} {v : Value} {ty : TypeId} {i0 : TypeInfo} (hi : Try.prog.info? 45 = some i0) (hz0 : i0.zero = some (.agg #[.bool false, .int .u32 0, .int .i64 0])) (hz1 : i0.size = 3) (hz2 : i0.bytes = 16)
    (h : IRow w0 (.slice (some ⟨g, off, none⟩) L.length c) L) (hlo : lo + m ≤ L.length) (hL : L.length ≤ 1000) (hn : n ≤ 1000) (hX : X.length = n) (hb : Below w0.heap.size w0 W) (hbase : base ≤ w0.heap.size)
    (ho : W.ownsRow w0.heap.size 45 3 v n (valsA encA X)) (ad : Addr) (had : m = 0 ∨ ad = ⟨g, off + lo * 3, none⟩) :
    ∃ v' W', (Builtin.append_ #[43, 43] ty #[v, .slice (some ad) m cp]).run Try.prog W = .ok v' W' ∧
      W'.ownsRow w0.heap.size 45 3 v' (n + m) (valsA encA (X ++ (L.drop lo).take m)) ∧ Below w0.heap.size w0 W' := by
  have hl : ((L.drop lo).take m).length = m := by rw [List.length_take, List.length_drop]; omega
  have hc := cells_part (h.mono hb (Nat.le_refl _)) hlo
  have hnews : ∀ j u, (valsA encA ((L.drop lo).take m))[j]? = some u → W.cell? (ad.add j) = some u := by
    intro j u hj
    rcases had with q | q
    · have hj2 := (List.getElem?_eq_some_iff.1 hj).1
      rw [valsA_length encA_len, hl] at hj2
      omega
    · rw [q]; exact hc j u hj
  obtain ⟨v', W', h1, h2, h3, -, -⟩ := run_append_own_at (P := Try.prog) (w := W) w0.heap.size 43 ty 45 i0 (.agg #[.bool false, .int .u32 0, .int .i64 0]) 3 16 Try.underlying43 hi hz0 hz1 hz2 rfl (by decide) v n (valsA encA X) ho ad m cp (valsA encA ((L.drop lo).take m)) (by rw [valsA_length encA_len, hl]) hnews (valsA_one _) (by unfold maxLen; omega) (by omega) hb.size
  refine ⟨v', W', h1, ?_, hb.grown h3 hb.size (fun r hr => (ho.lt r hr).1)⟩
  rw [show valsA encA (X ++ (L.drop lo).take m) = valsA encA X ++ valsA encA ((L.drop lo).take m) by simp [valsA]]
  exact h2
theorem slice_from (g n c r : Nat) (W : World) (h0 : 0 < r) (h1 : r ≤ n) (h2 : c ≠ r) :
    (Instr.slice 43 (.slice (some ⟨g, 0, none⟩) n c) (some (.int .i64 (r : Int))) none none).run Try.prog W = .ok (.slice (some ⟨g, r * 3, none⟩) (n - r) (c - r)) W := by
  have hs : (sizeOf (Try.prog.elem 43)).run Try.prog W = .ok 3 W := by
    rw [show Try.prog.elem 43 = 45 by kernel_rfl]
    obtain ⟨i0, hi, -, hz1, -⟩ := info_parts infoA
    simp [sizeOf, typeInfo, hi, hz1]
  rw [run_slice_l W _ _ _ _ (by kernel_rfl) .i64 r (by omega) (by omega), hs]
  simp only [Result.andThen, sliced, Int.toNat_natCast, if_neg h2, Option.map_some, Addr_add, Nat.zero_add]
theorem own_base {w : World} {b b' k n : Nat} {t : TypeId} {v : Value} {l : List Value} (h : w.ownsRow b t k v n l) (hb : b' ≤ b) : w.ownsRow b' t k v n l := by
  obtain ⟨h1, h2 | ⟨g, cap, cur, e, hg, hh, h3, h4, h5, h6⟩⟩ := h
  · exact ⟨h1, .inl h2⟩
  · exact ⟨h1, .inr ⟨g, cap, cur, e, by omega, hh, h3, h4, h5, h6⟩⟩

theorem own_erase {W : World} {b : Nat} {v : Value} {A : List Cel} {i : Nat} {t : TypeId} (hi : i < A.length) (h : W.ownsRow b t 3 v (0 + i + (A.length - (i + 1))) (valsA encA ([] ++ ((acts A).drop 0).take i ++ ((acts A).drop (i + 1)).take (A.length - (i + 1))))) : W.ownsRow b t 3 v (A.eraseIdx i).length (valsA encA (acts (A.eraseIdx i))) := by
  have h1 : 0 + i + (A.length - (i + 1)) = (A.eraseIdx i).length := by rw [List.length_eraseIdx_of_lt hi]; omega
  have h2 : [] ++ ((acts A).drop 0).take i ++ ((acts A).drop (i + 1)).take (A.length - (i + 1)) = acts (A.eraseIdx i) := by
    have e : ((acts A).drop (i + 1)).take (A.length - (i + 1)) = (acts A).drop (i + 1) := List.take_of_length_le (by rw [List.length_drop, acts_length]; omega)
    rw [e, List.eraseIdx_eq_take_drop_succ]
    simp [acts, List.map_take, List.map_drop]
  rw [h1, h2] at h
  exact h
theorem KS.next {w : World} {N k : Nat} {T A : List Cel} {t v : Value} {wr : World} (h : KS w N k T A t v wr) : KS w N (k + 1) T A t v wr := ⟨h.ki, by have := h.few; omega, h.row, h.own, h.bel⟩
theorem ins_cases {n : Nat} {T A : List Cel} (K : KI n T A) (x y : Int) : eI T (x, y) ≠ 0 → ¬ fnd A x < 0 ∨ ¬ A.length < n ∨ x = 0 ∨ y < 0 ∨ (n : Int) ≤ y := by
  intro h
  rw [Ne, K.ins_iff] at h
  by_cases a : fnd A x < 0 <;> by_cases b : A.length < n <;> by_cases c : x = 0 <;> by_cases d : y < 0 <;> by_cases e : (n : Int) ≤ y <;> simp_all <;> omega
theorem acts_snoc (A : List Cel) (c : Cel) : valsA encA (acts (A ++ [c])) = valsA encA (acts A) ++ [.bool false, .int .u32 c.1, .int .i64 c.2] := by
  simp [acts, valsA, encA]
/-- How many of the first k cells aren't empty. -/
def cnt (T : List Cel) (k : Nat) : Nat := ((T.take k).filter fun c => decide (c.1 ≠ 0)).length
theorem cnt_succ {T : List Cel} {k : Nat} (h : k < T.length) : cnt T (k + 1) = cnt T k + if (gt T k).1 ≠ 0 then 1 else 0 := by
  unfold cnt
  rw [List.take_succ_eq_append_getElem h, List.filter_append, List.length_append]
  have : gt T k = T[k] := by simp [gt, List.getD, h]
  rw [this]
  by_cases e : T[k].1 ≠ 0 <;> simp [e]
theorem cnt_le (T : List Cel) (k : Nat) : cnt T k ≤ T.length := by
  unfold cnt
  exact Nat.le_trans (List.length_filter_le _ _) (by rw [List.length_take]; omega)

set_option maxRecDepth 100000 in
set_option maxHeartbeats 4000000 in
theorem probeKeeps_walk (n : Int) (u : Value) (L : List Ac) (w : World) (hr : AArg w u L) : Calls Try.prog 5 #[.int .i64 n, u] w fun e w' => e = .returned (.bool true) ∧ Below w.heap.size w w' := by
  have HPr := Lib.hid probes_any
  obtain ⟨hrow, hwu⟩ := hr
  obtain ⟨a, c, rfl, q1, q2⟩ := id hrow.slice
  by_cases g1 : n < 1
  · clear hrow
    go_enter Try.func5, Try.ntmps5
    go_wp2_with fail
    refine (HPr.out _).mono ?_
    rintro e w1 ⟨rfl, hb⟩
    go_wp2
    go_ret
    exact ⟨rfl, hb⟩
  by_cases g2 : n > 60
  · clear hrow
    go_enter Try.func5, Try.ntmps5
    go_wp2_with fail
    refine (HPr.out _).mono ?_
    rintro e w1 ⟨rfl, hb⟩
    go_wp2
    go_ret
    exact ⟨rfl, hb⟩
  by_cases g3 : (L.length : Int) > 120
  · clear hrow
    go_enter Try.func5, Try.ntmps5
    go_wp2_with fail
    refine (HPr.out _).mono ?_
    rintro e w1 ⟨rfl, hb⟩
    go_wp2
    go_ret
    exact ⟨rfl, hb⟩
  obtain ⟨N, rfl⟩ : ∃ N : Nat, n = N := ⟨n.toNat, by omega⟩
  have hN0 : 0 < N := by omega
  have hN6 : N ≤ 60 := by omega
  have hL : L.length ≤ 120 := by omega
  obtain ⟨i0, hi, hz0, hz1, hz2⟩ := info_parts infoA
  have hm := fun W => run_make_c N (by omega) W
  have HMk := Lib.hid (row_make N (by omega) w)
  have HBm := Lib.hid (below_made w (.cells (madeCells #[.int .u32 0, .int .i64 0] (N * 2)) 48))
  generalize madeCells #[.int .u32 0, .int .i64 0] (N * 2) = M at hm HMk HBm
  have HLr := Lib.hid (fun W (hW : Below w.heap.size w W) => hrow.mono hW (Nat.le_refl _))
  have HWu := Lib.hid (fun k (hk : k < L.length) => show wu (ga L k).2.1 from hwu (ga L k) (by simp [ga, List.getD, hk]))
  clear hrow hwu
  go_enter Try.func5, Try.ntmps5
  go_wp2
  clear hm
  go_loopw [5, 6, 7] (fun t v i wr => ∃ k : Nat, k ≤ L.length ∧ i = .int .i64 k ∧ Hid (∃ T A, KS w N k T A t v wr)) (fun _ _ i _ => L.length - (intOf i).toNat)
  case atStart => exact ⟨0, Nat.zero_le _, rfl, List.replicate N (0, 0), [], KI.new hN0, Nat.le_refl _, HMk.out, World.ownsRow_nil _ _ _ _, HBm.out⟩
  case round =>
    obtain ⟨k, hk, rfl, HK⟩ := hrel
    obtain ⟨T, A, K⟩ := HK.out
    clear HMk HBm HK
    have hTl := K.ki.len
    have hAk := K.few
    by_cases hlt : k < L.length
    · have hlt1 : (k : Int) < (L.length : Int) := by omega
      obtain ⟨b, off, c', e0, -, -, hblt, hc⟩ := (HLr.out _ K.bel).open (by omega)
      injection e0 with e0 e1 e2
      subst e0 e2
      obtain ⟨c1, c2, c3⟩ := hc k hlt
      have HWk := Lib.hid (HWu.out k hlt)
      generalize (ga L k).1 = o at *
      generalize (ga L k).2.1 = x at *
      generalize (ga L k).2.2 = y at *
      clear hc e1
      have hrs := K.bel.size
      have hts := K.row.slice
      rw [hTl] at hts
      obtain ⟨ta, tc, rfl, ht1, ht2⟩ := hts
      have hvs := K.irow.slice
      rw [acts_length] at hvs
      obtain ⟨va, vc, rfl, hv1, hv2⟩ := hvs
      have HX := Lib.hid (fun V hV => @act_box wr V o x y hV)
      obtain ⟨wa, hwa⟩ : ∃ wa, wa = wr.alloc (.cells #[.bool o, .int .u32 x, .int .i64 y] 45) := ⟨_, rfl⟩
      have K1 := Lib.hid (K.below (below_made wr (.cells #[.bool o, .int .u32 x, .int .i64 y] 45)))
      rw [← hwa] at HX K1
      have HKI := Lib.hid K.ki
      have HFi := Lib.hid (finds_any _ A x wa K1.out.irow (by omega))
      have hwsz : wa.heap.size = wr.heap.size + 1 := by rw [hwa, size_alloc]
      clear K
      go_upto_region 9 with fail
      rw [← hwa]
      clear hwa c1 c2 c3
      obtain ⟨c1, c2, c3⟩ := HX.out _ (Below.refl _ _)
      have HRt := Lib.hid (fun (T' : List Cel) v W (h : CRow W v T') (hl : T'.length = N) (hw : WU T') => right_any v T' W h (by omega) hw)
      cases o with
      | true =>
        have HDe := Lib.hid (delete_any _ T x y wa K1.out.row (by omega) HKI.out.wuT)
        rcases del_cases HKI.out x y with ⟨i, hiA, hf, hg, he⟩ | ⟨he, hf⟩
        · rw [hf] at HFi
          rw [he] at HDe
          have HK' := Lib.hid (HKI.out.del hiA hg)
          have hlen' : (A.eraseIdx i).length = A.length - 1 := List.length_eraseIdx_of_lt hiA
          go_wp2_with fail
          refine HFi.out.mono ?_
          rintro e w1 ⟨rfl, rfl⟩
          go_wp2_with fail
          refine HDe.out.mono ?_
          rintro e w2 ⟨vx, rfl, hb2, hx2⟩
          have K2 := Lib.hid (K1.out.below hb2)
          obtain ⟨d1, d2, d3⟩ := HX.out _ hb2
          have HR2 := Lib.hid hx2
          have hxs := hx2.slice
          rw [HK'.out.len] at hxs
          obtain ⟨xa, xc, rfl, -, -⟩ := hxs
          obtain ⟨h1, ⟨-, h2⟩ | ⟨g, cap, cur, e3, hgb, hh, hh1, hh2, hh3, hh4⟩⟩ := id K2.out.own
          · omega
          injection e3 with e3 e4 e5
          subst e3 e5
          have hi1 : (i : Int) < (A.length : Int) := by omega
          have d4 : w2.cell? ⟨g, i * 3 + 2, none⟩ = some (.int .i64 y) := by
            obtain ⟨b', o', c', e6, -, -, -, hcc⟩ := K2.out.irow.open (by rw [acts_length]; omega)
            injection e6 with e6 e7 e8
            injection e6 with e6
            injection e6 with e6 e9
            subst e6 e9
            have := (hcc i (by rw [acts_length]; exact hiA)).2.2
            rw [ga_acts hiA, hg, Nat.zero_add] at this
            exact this
          have hmx : max (i : Int) 0 = (i : Int) := by omega
          have hge : (i : Int) ≥ 0 := by omega
          clear c1 c2 c3 hb2 hx2 h1 hh hh1 hh2 hh3 hh4 e4
          have hyy : (y == y) = true := by simp
          have hgd : decide ((i : Int) ≥ 0) = true := by simp
          go_wp2_with fail
          go_quiet (fail)
          have K3 := Lib.hid (K2.out.below (below_drewN (Below.refl w2.heap.size w2) nq))
          have HR3 := Lib.hid (HR2.out.mono (below_drewN (Below.refl w2.heap.size w2) nq) (Nat.le_refl _))
          generalize w2.drewN nq = w3 at K3 HR3 ⊢
          clear d1 d2 d3 d4 K2 HR2
          have hI : IRow w3 (.slice (some ⟨g, 0, none⟩) (acts A).length vc) (acts A) := by rw [acts_length]; exact K3.out.irow
          have h3s := K3.out.bel.size
          have HE0 : Hid ((w3.alloc (.cells #[] 45)).ownsRow w3.heap.size 45 3 (.slice (some ⟨w3.heap.size, 0, none⟩) 0 0) 0 (valsA encA [])) :=
            ⟨rfl, .inr ⟨w3.heap.size, 0, #[], rfl, Nat.le_refl _, heap_alloc_new _ _, by omega, by unfold maxLen; omega, rfl, rfl⟩⟩
          have HBe := Lib.hid (below_made w3 (.cells #[] 45))
          have HA1 := Lib.hid (fun W (hb : Below w3.heap.size w3 W) ho => app_part (w0 := w3) (W := W) (base := w.heap.size) (lo := 0) (m := i) (n := 0) (cp := vc) (L := acts A) (X := []) (v := .slice (some ⟨w3.heap.size, 0, none⟩) 0 0) (ty := 43) hi hz0 hz1 hz2 hI (by rw [acts_length]; omega) (by rw [acts_length]; omega) (by omega) rfl hb (by omega) ho ⟨g, 0, none⟩ (.inr rfl))
          have HA2 := Lib.hid (fun W v1 cp ad (hb : Below w3.heap.size w3 W) ho had => app_part (w0 := w3) (W := W) (base := w.heap.size) (lo := i + 1) (m := A.length - (i + 1)) (n := 0 + i) (cp := cp) (L := acts A) (X := [] ++ ((acts A).drop 0).take i) (v := v1) (ty := 43) hi hz0 hz1 hz2 hI (by rw [acts_length]; omega) (by rw [acts_length]; omega) (by omega) (by rw [List.nil_append, List.length_take, List.drop_zero, acts_length]; omega) hb (by omega) ho ad had)
          have j1 : (0 : Int) ≤ (i : Int) := by omega
          have j2 : (i : Int) ≤ (vc : Int) := by omega
          have j5 : (A.length : Int) ≤ (vc : Int) := by omega
          have hw1 : IntKind.i64.wrap ((i : Int) + 1) = (i : Int) + 1 := wrap_id (by omega) (by omega)
          have j3 : (0 : Int) ≤ (i : Int) + 1 := by omega
          have j4 : (i : Int) + 1 ≤ (A.length : Int) := by omega
          clear hI
          by_cases hvc : vc = i + 1
          · have hal : A.length = i + 1 := by omega
            have hz : A.length - (i + 1) = 0 := by omega
            subst hvc
            rw [hz] at HA2
            have j2' : (i : Int) ≤ (i : Int) + 1 := by omega
            clear j2 j4 j5
            go_wp2_with fail
            go_region_held3 (fun _ => True) (exact trivial) ((first
              | (obtain ⟨v1, W1, hrun1, ho1, hb1⟩ := HA1.out (w3.alloc (.cells #[] 45)).drew HBe.out.drew HE0.out; refine step_append_run (by rfl) (.tmp 77) (.tmp 80) 43 _ (by rfl) (by rfl) _ _ v1 W1 (by rfl) (by rfl) hrun1 ?_)
              | (obtain ⟨v2, W2, hrun2, ho2, hb2⟩ := HA2.out W1 v1 0 ⟨g, 0, none⟩ hb1 ho1 (.inl (by first | rfl | trivial)); refine step_append_run (by rfl) (.tmp 81) (.tmp 85) 43 _ (by rfl) (by rfl) _ _ v2 W2 (by rfl) (by rfl) hrun2 ?_)))
            have K4 : Hid (KS w N (k + 1) (rD T (x, y)) (A.eraseIdx i) (.slice xa N xc) v2 W2) := ⟨HK'.out, by omega, HR3.out.mono hb2 (Nat.le_refl _), own_base (own_erase hiA (by rw [hz]; exact ho2)) (by omega), K3.out.bel.trans (hb2.mono (by omega))⟩
            clear hrun1 ho1 hb1 hrun2 ho2 hb2 HA1 HA2 HE0 HBe K3 HR3
            have HRq := Lib.hid (right_any _ (rD T (x, y)) _ K4.out.row (by rw [K4.out.ki.len]; omega) K4.out.ki.wuT)
            rw [K4.out.ki.rc] at HRq
            go_wp2_with fail
            refine HRq.out.mono ?_
            rintro e w9 ⟨rfl, hb9⟩
            have K9 := K4.out.below hb9
            go_wp2
            go_roundw
            case rel => exact ⟨k + 1, by omega, by go_num, _, _, K9⟩
            case measure => simp [intOf]; omega
          · have hvc2 : ¬ ((vc : Int) = (i : Int) + 1) := by omega
            go_wp2_with fail
            go_region_held3 (fun _ => True) (exact trivial) ((first
              | (obtain ⟨v1, W1, hrun1, ho1, hb1⟩ := HA1.out (w3.alloc (.cells #[] 45)).drew HBe.out.drew HE0.out; refine step_append_run (by rfl) (.tmp 77) (.tmp 80) 43 _ (by rfl) (by rfl) _ _ v1 W1 (by rfl) (by rfl) hrun1 ?_)
              | (obtain ⟨v2, W2, hrun2, ho2, hb2⟩ := HA2.out W1 v1 (vc - (i + 1)) ⟨g, (i + 1) * 3, none⟩ hb1 ho1 (.inr (by rw [Nat.zero_add])); refine step_append_run (by rfl) (.tmp 81) (.tmp 85) 43 _ (by rfl) (by rfl) _ _ v2 W2 (by rfl) (by rfl) hrun2 ?_)))
            have K4 : Hid (KS w N (k + 1) (rD T (x, y)) (A.eraseIdx i) (.slice xa N xc) v2 W2) := ⟨HK'.out, by omega, HR3.out.mono hb2 (Nat.le_refl _), own_base (own_erase hiA ho2) (by omega), K3.out.bel.trans (hb2.mono (by omega))⟩
            clear hrun1 ho1 hb1 hrun2 ho2 hb2 HA1 HA2 HE0 HBe K3 HR3
            have HRq := Lib.hid (right_any _ (rD T (x, y)) _ K4.out.row (by rw [K4.out.ki.len]; omega) K4.out.ki.wuT)
            rw [K4.out.ki.rc] at HRq
            go_wp2_with fail
            refine HRq.out.mono ?_
            rintro e w9 ⟨rfl, hb9⟩
            have K9 := K4.out.below hb9
            go_wp2
            go_roundw
            case rel => exact ⟨k + 1, by omega, by go_num, _, _, K9⟩
            case measure => simp [intOf]; omega
        · have he1 : (eD T (x, y) == 0) = false := by simp [he]
          generalize eD T (x, y) = ee at *
          rcases hf with hf | ⟨i, hiA, hf, hy⟩
          · rw [hf] at HFi
            go_wp2_with fail
            refine HFi.out.mono ?_
            rintro e w1 ⟨rfl, rfl⟩
            go_wp2_with fail
            refine HDe.out.mono ?_
            rintro e w2 ⟨vx, rfl, hb2, hx2⟩
            have K2 := Lib.hid (K1.out.below hb2)
            obtain ⟨d1, d2, d3⟩ := HX.out _ hb2
            clear c1 c2 c3 hb2 hx2
            go_wp2_with fail
            go_quiet (fail)
            have K3 := Lib.hid (K2.out.below (below_drewN (Below.refl w2.heap.size w2) nq)).next
            generalize w2.drewN nq = w3 at K3 ⊢
            clear d1 d2 d3 K2
            have HRq := Lib.hid (right_any _ (T) _ K3.out.row (by rw [K3.out.ki.len]; omega) K3.out.ki.wuT)
            rw [K3.out.ki.rc] at HRq
            go_wp2_with fail
            refine HRq.out.mono ?_
            rintro e w9 ⟨rfl, hb9⟩
            have K9 := K3.out.below hb9
            go_wp2
            go_roundw
            case rel => exact ⟨k + 1, by omega, by go_num, _, _, K9⟩
            case measure => simp [intOf]; omega
          · rw [hf] at HFi
            go_wp2_with fail
            refine HFi.out.mono ?_
            rintro e w1 ⟨rfl, rfl⟩
            go_wp2_with fail
            refine HDe.out.mono ?_
            rintro e w2 ⟨vx, rfl, hb2, hx2⟩
            have K2 := Lib.hid (K1.out.below hb2)
            obtain ⟨d1, d2, d3⟩ := HX.out _ hb2
            obtain ⟨h1, ⟨-, h2⟩ | ⟨g, cap, cur, e3, hgb, hh, hh1, hh2, hh3, hh4⟩⟩ := id K2.out.own
            · omega
            injection e3 with e3 e4 e5
            subst e3 e5
            have hi1 : (i : Int) < (A.length : Int) := by omega
            have d4 : w2.cell? ⟨g, i * 3 + 2, none⟩ = some (.int .i64 (gt A i).2) := by
              obtain ⟨b', o', c', e6, -, -, -, hcc⟩ := K2.out.irow.open (by rw [acts_length]; omega)
              injection e6 with e6 e7 e8
              injection e6 with e6
              injection e6 with e6 e9
              subst e6 e9
              have := (hcc i (by rw [acts_length]; exact hiA)).2.2
              rw [ga_acts hiA, Nat.zero_add] at this
              exact this
            have hy1 : ((gt A i).2 == y) = false := by simp [hy]
            generalize (gt A i).2 = z at *
            have hmx : max (i : Int) 0 = (i : Int) := by omega
            have hge : (i : Int) ≥ 0 := by omega
            have hgd : decide ((i : Int) ≥ 0) = true := by simp
            clear c1 c2 c3 hb2 hx2 h1 hh hh1 hh2 hh3 hh4 e4
            go_wp2_with fail
            go_quiet (fail)
            have K3 := Lib.hid (K2.out.below (below_drewN (Below.refl w2.heap.size w2) nq)).next
            generalize w2.drewN nq = w3 at K3 ⊢
            clear d1 d2 d3 d4 K2
            have HRq := Lib.hid (right_any _ (T) _ K3.out.row (by rw [K3.out.ki.len]; omega) K3.out.ki.wuT)
            rw [K3.out.ki.rc] at HRq
            go_wp2_with fail
            refine HRq.out.mono ?_
            rintro e w9 ⟨rfl, hb9⟩
            have K9 := K3.out.below hb9
            go_wp2
            go_roundw
            case rel => exact ⟨k + 1, by omega, by go_num, _, _, K9⟩
            case measure => simp [intOf]; omega
      | false =>
        by_cases he : eI T (x, y) = 0
        · have HK' := Lib.hid (HKI.out.ins he HWk.out)
          have HIn : Hid (Calls Try.prog 12 #[.slice ta N tc, .int .u32 x, .int .i64 y] wa (InsF wa N (rI T (x, y)))) := by
            obtain ⟨h1, h2, h3⟩ := ei_zero he
            obtain ⟨h4, -⟩ := ck_ok h1
            obtain ⟨h, rfl, hh⟩ := na_home h4
            have hri : rI T (x, (h : Int)) = insT T (x, (h : Int)) h := by unfold rI; rw [if_pos he]; simp
            have := insert_okF _ T x h wa K1.out.row (by omega) HKI.out.wuT hh h1 h2 h3
            unfold Hid
            rw [hri]
            rwa [hTl] at this
          obtain ⟨f1, f2, f3, f4, f5⟩ := (HKI.out.ins_iff x y).1 he
          have g4 : (x != 0) = true := by simp [f3]
          have g5 : y ≥ 0 := f4
          have g6 : (A.length : Int) < (N : Int) := by omega
          generalize fnd A x = f at *
          have hAl : (A ++ [(x, y)]).length = A.length + 1 := by simp
          go_wp2_with fail
          refine HFi.out.mono ?_
          rintro e w1 ⟨rfl, rfl⟩
          go_wp2_with fail
          refine HIn.out.mono ?_
          rintro e w2 ⟨gx, xc, rfl, hgx, hb2, hx2⟩
          have K2 := Lib.hid (K1.out.below hb2)
          obtain ⟨d1, d2, d3⟩ := HX.out _ hb2
          have HR2 := Lib.hid hx2
          have h2s := K2.out.bel.size
          have HOw := Lib.hid (K2.out.own)
          clear c1 c2 c3 hb2 hx2
          go_wp2_with (at_builtin; refine wpList_append_own _ rfl (.tmp 126) (.tmp 128) 43 rfl w.heap.size 45 i0 (.agg #[.bool false, .int .u32 0, .int .i64 0]) 3 16 Try.underlying43 hi hz0 hz1 hz2 rfl (by decide) _ A.length _ rfl (HOw.out.alloc _) ⟨w2.heap.size, 0, none⟩ 1 1 [.bool false, .int .u32 x, .int .i64 y] rfl rfl (World.news_of_block (cs := #[.bool false, .int .u32 x, .int .i64 y]) (t := 45) (fr := (0, 0)) (heap_alloc_new w2 _)) (by simp [Value.oneCell']) (by unfold maxLen; omega) (by omega) (by rw [size_alloc]; omega) ?_)
          intro v2 w3 hown' hgrow _
          have HB3 : Hid (Below w.heap.size w w3) := (K2.out.bel.alloc h2s _).grown hgrow (by rw [size_alloc]; omega) (fun r hr => (HOw.out.lt r hr).1)
          have hne : some gx ≠ (Value.slice va A.length vc).ownBlock := by
            intro q
            have := (K1.out.own.lt gx q.symm).2
            omega
          have hown2 : w3.ownsRow w.heap.size 45 3 v2 (A ++ [(x, y)]).length (valsA encA (acts (A ++ [(x, y)]))) := by rw [acts_snoc, hAl]; exact hown'
          have hrow3 := crow_grown (HR2.out.mono (below_made w2 (.cells #[.bool false, .int .u32 x, .int .i64 y] 45)) (Nat.le_refl _)) hgrow hne
          have K4 : Hid (KS w N (k + 1) (rI T (x, y)) (A ++ [(x, y)]) (.slice (some ⟨gx, 0, none⟩) N xc) v2 w3) := ⟨HK'.out, by omega, hrow3, hown2, HB3.out⟩
          clear hown' hgrow hown2 hrow3 d1 d2 d3 HOw HR2 K2
          have HRq := Lib.hid (right_any _ (rI T (x, y)) _ K4.out.row (by rw [K4.out.ki.len]; omega) K4.out.ki.wuT)
          rw [K4.out.ki.rc] at HRq
          go_wp2_with fail
          refine HRq.out.mono ?_
          rintro e w9 ⟨rfl, hb9⟩
          have K9 := K4.out.below hb9
          go_wp2
          go_roundw
          case rel => exact ⟨k + 1, by omega, by go_num, _, _, K9⟩
          case measure => simp [intOf]; omega
        · have HIn := Lib.hid (insert_any _ T x y wa K1.out.row (by omega) HKI.out.wuT)
          have hcs := ins_cases HKI.out x y he
          have he1 : (eI T (x, y) == 0) = false := by simp [he]
          generalize eI T (x, y) = ee at *
          generalize fnd A x = f at *
          go_wp2_with fail
          refine HFi.out.mono ?_
          rintro e w1 ⟨rfl, rfl⟩
          go_wp2_with fail
          refine HIn.out.mono ?_
          rintro e w2 ⟨vx, rfl, hb2, hx2⟩
          have K3 := Lib.hid (K1.out.below hb2).next
          obtain ⟨d1, d2, d3⟩ := HX.out _ hb2
          clear c1 c2 c3 hb2 hx2
          by_cases z1 : f < 0
          · by_cases z2 : (A.length : Int) < (N : Int)
            · by_cases z3 : x = 0
              · have z4 : (x != 0) = false := by simp [z3]
                clear hcs z3
                have HRq := Lib.hid (right_any _ (T) _ K3.out.row (by rw [K3.out.ki.len]; omega) K3.out.ki.wuT)
                rw [K3.out.ki.rc] at HRq
                go_wp2_with fail
                refine HRq.out.mono ?_
                rintro e w9 ⟨rfl, hb9⟩
                have K9 := K3.out.below hb9
                go_wp2
                go_roundw
                case rel => exact ⟨k + 1, by omega, by go_num, _, _, K9⟩
                case measure => simp [intOf]; omega
              · have z4 : (x != 0) = true := by simp [z3]
                by_cases z5 : y < 0
                · have z6 : ¬ y ≥ 0 := by omega
                  clear hcs z3
                  have HRq := Lib.hid (right_any _ (T) _ K3.out.row (by rw [K3.out.ki.len]; omega) K3.out.ki.wuT)
                  rw [K3.out.ki.rc] at HRq
                  go_wp2_with fail
                  refine HRq.out.mono ?_
                  rintro e w9 ⟨rfl, hb9⟩
                  have K9 := K3.out.below hb9
                  go_wp2
                  go_roundw
                  case rel => exact ⟨k + 1, by omega, by go_num, _, _, K9⟩
                  case measure => simp [intOf]; omega
                · have z6 : y ≥ 0 := by omega
                  have z7 : ¬ y < (N : Int) := by
                    rcases hcs with q | q | q | q | q
                    · omega
                    · omega
                    · exact absurd q z3
                    · exact absurd q z5
                    · omega
                  clear hcs z3
                  have HRq := Lib.hid (right_any _ (T) _ K3.out.row (by rw [K3.out.ki.len]; omega) K3.out.ki.wuT)
                  rw [K3.out.ki.rc] at HRq
                  go_wp2_with fail
                  refine HRq.out.mono ?_
                  rintro e w9 ⟨rfl, hb9⟩
                  have K9 := K3.out.below hb9
                  go_wp2
                  go_roundw
                  case rel => exact ⟨k + 1, by omega, by go_num, _, _, K9⟩
                  case measure => simp [intOf]; omega
            · clear hcs
              have HRq := Lib.hid (right_any _ (T) _ K3.out.row (by rw [K3.out.ki.len]; omega) K3.out.ki.wuT)
              rw [K3.out.ki.rc] at HRq
              go_wp2_with fail
              refine HRq.out.mono ?_
              rintro e w9 ⟨rfl, hb9⟩
              have K9 := K3.out.below hb9
              go_wp2
              go_roundw
              case rel => exact ⟨k + 1, by omega, by go_num, _, _, K9⟩
              case measure => simp [intOf]; omega
          · clear hcs
            have HRq := Lib.hid (right_any _ (T) _ K3.out.row (by rw [K3.out.ki.len]; omega) K3.out.ki.wuT)
            rw [K3.out.ki.rc] at HRq
            go_wp2_with fail
            refine HRq.out.mono ?_
            rintro e w9 ⟨rfl, hb9⟩
            have K9 := K3.out.below hb9
            go_wp2
            go_roundw
            case rel => exact ⟨k + 1, by omega, by go_num, _, _, K9⟩
            case measure => simp [intOf]; omega
    · obtain rfl : k = L.length := by omega
      have hts := K.row.slice
      rw [hTl] at hts
      obtain ⟨ta, tc, rfl, ht1, ht2⟩ := hts
      have hvs := K.irow.slice
      rw [acts_length] at hvs
      obtain ⟨va, vc, rfl, hv1, hv2⟩ := hvs
      obtain ⟨bt, ot, ct, e0, -, -, hbt, hct⟩ := K.row.open (by omega)
      injection e0 with e0 e1 e2
      subst e0 e2
      have HCt := Lib.hid hct
      have HK := Lib.hid K
      have HCn := Lib.hid (fun j hj => cnt_succ (T := T) (k := j) hj)
      have HCl := Lib.hid (cnt_le T)
      have HCN : Hid (cnt T N = A.length) := by
        have := K.ki.count
        unfold Hid cnt
        rw [← hTl, List.take_length]
        exact this
      clear hct K e1
      go_wp2
      go_loopw [14, 15] (fun sm i wq => ∃ j : Nat, j ≤ N ∧ i = .int .i64 j ∧ Hid (sm = .int .i64 (cnt T j : Nat)) ∧ wr = wq) (fun _ i _ => N - (intOf i).toNat)
      case atStart => exact ⟨0, Nat.zero_le _, rfl, rfl, rfl⟩
      case round =>
        obtain ⟨j, hj, rfl, hsm, rfl⟩ := hrel
        have hsm2 := hsm.out
        subst hsm2
        clear hsm
        by_cases hjl : j < N
        · have hjl1 : (j : Int) < (N : Int) := by omega
          obtain ⟨c1, -⟩ := HCt.out j (by omega)
          have hcn := HCn.out j (by omega)
          have hcl := HCl.out j
          generalize (gt T j).1 = z at *
          by_cases hz : z = 0
          · have hz1 : (z != 0) = false := by simp [hz]
            have hc2 : Hid (cnt T (j + 1) = cnt T j) := by unfold Hid; rw [hcn]; simp [hz]
            clear hz hcn
            go_wp2
            go_roundw
            case rel => exact ⟨j + 1, by omega, by go_num, by unfold Hid; rw [hc2.out], by first | rfl | trivial⟩
            case measure => simp [intOf]; omega
          · have hz1 : (z != 0) = true := by simp [hz]
            have hc2 : Hid (cnt T (j + 1) = cnt T j + 1) := by unfold Hid; rw [hcn]; simp [hz]
            clear hz hcn
            generalize hq : cnt T j = q at *
            have HQ := Lib.hid hq
            clear hq
            go_wp2
            go_roundw
            case rel => exact ⟨j + 1, by omega, by go_num, by unfold Hid; rw [hc2.out]; first | rfl | go_num, by first | rfl | trivial⟩
            case measure => simp [intOf]; omega
        · obtain rfl : N = j := by omega
          have hcN := HCN.out
          generalize cnt T N = q at *
          subst hcN
          clear HCn HCl HCN
          go_wp2
          go_loopw [16] (fun i wq => ∃ j : Nat, j ≤ A.length ∧ i = .int .i64 j ∧ Hid (KS w N (L.length) T A (.slice (some ⟨bt, ot, none⟩) N tc) (.slice va A.length vc) wq)) (fun i _ => A.length - (intOf i).toNat)
          case atStart => exact ⟨0, Nat.zero_le _, rfl, HK⟩
          case round =>
            obtain ⟨j, hj, rfl, HKq⟩ := hrel
            by_cases hjl : j < A.length
            · have hjl1 : (j : Int) < (A.length : Int) := by omega
              obtain ⟨q, hq, hf, hg⟩ := HKq.out.ki.found hjl
              obtain ⟨bi, oi, ci, e0, -, -, hbi, hci⟩ := HKq.out.irow.open (by rw [acts_length]; omega)
              injection e0 with e0 e1 e2
              subst e0 e2
              obtain ⟨-, c1, c2⟩ := hci j (by rw [acts_length]; exact hjl)
              rw [ga_acts hjl] at c1 c2
              simp only at c1 c2
              have HFd : Hid (∀ kk : Kept wr.heap.size wr, Calls Try.prog 10 #[.slice (some ⟨bt, ot, none⟩) N tc, .int .u32 (gt A j).1, .int .i64 (gt A j).2] kk.w fun e w' => e = .returned (.tuple #[.int .i64 (q : Int), .bool true]) ∧ Below kk.w.heap.size kk.w w') := fun kk => by
                have := Find_any _ T (gt A j).1 (gt A j).2 kk.w (HKq.out.row.mono kk.below (Nat.le_refl _)) (by omega) HKq.out.ki.wuT
                rwa [show ((gt A j).1, (gt A j).2) = gt A j from rfl, hf] at this
              have HQt : Hid (∀ V, Below wr.heap.size wr V → V.cell? ⟨bt, ot + q * 2, none⟩ = some (.int .u32 (gt A j).1)) := fun V hV => by
                obtain ⟨b', o', c', e3, -, -, -, hcc⟩ := (HKq.out.row.mono hV (Nat.le_refl _)).open (by omega)
                injection e3 with e3 e4 e5
                injection e3 with e3
                injection e3 with e3 e6
                subst e3 e6
                have := (hcc q (by rw [hTl]; exact hq)).1
                rw [this, hg]
              have HQi : Hid (∀ V, Below wr.heap.size wr V → V.cell? ⟨bi, oi + j * 3 + 1, none⟩ = some (.int .u32 (gt A j).1)) := fun V hV => (hV.cell (p := ⟨bi, oi + j * 3 + 1, none⟩) hbi).trans c1
              have k1 := Kept.cell c1 hbi
              have k2 := Kept.cell c2 hbi
              generalize (gt A j).1 = x at *
              generalize (gt A j).2 = y at *
              have hqi : (q : Int) < (N : Int) := by omega
              clear c1 c2 hci e1 hf hg
              go_wp2_with fail
              refine wp_region_kept (by kernel_rfl) (by kernel_rfl) ?_
              repeat (go_big_quiet_step ((go_at_call 10; exact Calls.kept_of (HFd.out _) (Nat.le_refl _))))
              refine wpQuiet_nil ?_
              intro _ hw'
              obtain ⟨kk, rfl⟩ := hw'
              have d1 := HQt.out _ kk.below
              have d2 := HQi.out _ kk.below
              have K5 := Lib.hid (HKq.out.below kk.below)
              generalize kk.w = w5 at d1 d2 K5 ⊢
              have hxx : (x != x) = false := by simp
              clear k1 k2
              go_wp2_with fail
              go_quiet (fail)
              have K6 := Lib.hid (K5.out.below (below_drewN (Below.refl w5.heap.size w5) nq))
              go_wp2
              go_roundw
              case rel => exact ⟨j + 1, by omega, by go_num, K6⟩
              case measure => simp [intOf]; omega
            · obtain rfl : A.length = j := by omega
              have hqq : ((A.length : Int) == (A.length : Int)) = true := by simp
              go_wp2_with fail
              refine (HPr.out _).mono ?_
              rintro e w3 ⟨rfl, hb3⟩
              go_wp2
              go_ret
              exact ⟨rfl, HKq.out.bel.trans (hb3.mono HKq.out.bel.size)⟩
end Go.Proofs.Ytjikikiconhlaaa.Pro
