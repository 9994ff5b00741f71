/- Contracts of layout's landed functions: what they read of the parts. -/
import Derived.Test.YtemkmkkpamhfoaaDoorLayW
namespace Go.Proofs.YtemkmkkpamhfoaaDoor.Lay
open Go.RowKit
set_option linter.unusedVariables false

theorem extract_three (R : List (Nat × Nat × Nat)) (k : Nat) (hR : k < R.length) :
    (valsA encR R).toArray.extract (k * 3) (k * 3 + 3) = #[Value.int .i64 ((R.getD k (0, 0, 0)).1 : Int), .int .i64 ((R.getD k (0, 0, 0)).2.1 : Int), .int .i64 ((R.getD k (0, 0, 0)).2.2 : Int)] := by
  have hl := valsA_length encR_length R
  have hg := fun j hj => valsA_get encR_length (0, 0, 0) R k hR j hj
  have h0 := hg 0 (by omega)
  have h1 := hg 1 (by omega)
  have h2 := hg 2 (by omega)
  rw [Nat.add_zero] at h0
  apply Array.ext_getElem?
  intro i
  rw [Array.getElem?_extract]
  rcases i with _ | _ | _ | i
  · rw [if_pos (by simp; omega)]
    simpa [encR] using h0
  · rw [if_pos (by simp; omega)]
    simpa [encR] using h1
  · rw [if_pos (by simp; omega)]
    simpa [encR] using h2
  · rw [if_neg (by simp; omega)]
    simp

theorem run_index_three {P : Program} {xt et : TypeId} {len : Nat} {d : TypeDesc} (h1 : P.underlying xt = some (.array len et)) (h2 : P.underlying et = some d) (hd : d.isRow = true) (h3 : (P.info? et).map (·.size) = some 3)
    (R : List (Nat × Nat × Nat)) (i : Int) (k : Nat) (hi : i = k) (hk : k < len) (hR : k < R.length) (x1 x2 x3 : Nat) (he : R.getD k (0, 0, 0) = (x1, x2, x3)) (w : World) :
    (Instr.index xt (.agg (valsA encR R).toArray) (.int .i64 i)).run P w = .ok (.agg #[.int .i64 (x1 : Int), .int .i64 (x2 : Int), .int .i64 (x3 : Int)]) w := by
  subst hi
  have hagg : (isAgg et).run P w = .ok true w := by
    unfold isAgg
    rw [Sem.run_bind, run_underlying h2 w]
    cases d <;> simp_all
  have hsz : (sizeOf et).run P w = .ok 3 w := by
    cases hq : P.info? et with
    | none => simp [hq] at h3
    | some i =>
      have hs : i.size = 3 := by simpa [hq] using h3
      simp [sizeOf, typeInfo, hq, hs]
  have hex := extract_three R k hR
  rw [he] at hex
  have hki : (0 : Int) ≤ (k : Int) ∧ (k : Int) < (len : Int) := by omega
  unfold Instr.index
  simp [asIntOf, run_underlying h1 w, Sem.run_bind, hki, hk, hsz, part, hagg, Result.andThen, ← hex]
theorem under_run : (Tryd.prog.underlying 35).map (·.isRow) = some true := by kernel_rfl
/-- The k-th part, read. -/
theorem index_part (P : List (Nat × Nat × Nat)) (hl : P.length = 6) (i : Int) (k : Nat) (hi : i = k) (hk : k < 6) (x1 x2 x3 : Nat) (he : P.getD k (0, 0, 0) = (x1, x2, x3)) (w : World) :
    (Instr.index 37 (.agg (valsA encR P).toArray) (.int .i64 i)).run Tryd.prog w = .ok (.agg #[.int .i64 (x1 : Int), .int .i64 (x2 : Int), .int .i64 (x3 : Int)]) w := by
  obtain ⟨d, h2, hd⟩ := Option.map_eq_some_iff.1 under_run
  exact run_index_three (et := 35) (len := 6) (by kernel_rfl) h2 hd (by kernel_rfl) P i k hi hk (by omega) x1 x2 x3 he w
theorem field_zero (x1 x2 x3 : Int) (w : World) : (Instr.field 35 (.agg #[.int .i64 x1, .int .i64 x2, .int .i64 x3]) 0).run Tryd.prog w = .ok (.int .i64 x1) w := by
  kernel_rfl

theorem partC_len (s n : Int) : (partC s n).length = 6 := by unfold partC; split <;> rfl
theorem part_two (s n : Int) : (partC s n).getD 2 (0, 0, 0) = if rightC s n = true then (128, 16 * s.toNat, 3) else (0, 0, 0) := by unfold partC; split <;> rfl
theorem part_three (s n : Int) : (partC s n).getD 3 (0, 0, 0) = if rightC s n = true then (slT s.toNat, 4 * n.toNat, 4) else (0, 0, 0) := by unfold partC; split <;> rfl
theorem part_five (s n : Int) : (partC s n).getD 5 (0, 0, 0) = if rightC s n = true then (baseT s.toNat n.toNat, 1024 * s.toNat, 7) else (0, 0, 0) := by unfold partC; split <;> rfl

/-- What the functions need of the parts, behind a config's box. -/
theorem parts_on (s n : Int) (w : World) (ht : Cls.Tab w) (s1 : -9223372036854775808 ≤ s) (s2 : s ≤ 9223372036854775807) (n1 : -9223372036854775808 ≤ n) (n2 : n ≤ 9223372036854775807) :
    ∃ P, P = partC s n ∧ P.length = 6 ∧ Hid (∀ u, Below w.heap.size w u → Calls Tryd.prog 29 #[.agg #[.int .i64 s, .int .i64 n]] u fun e w' => e = .returned (.agg (valsA encR P).toArray) ∧ Below w.heap.size w w') :=
  ⟨_, rfl, partC_len s n, fun u hu => (parts_any s n u (tab_keep hu ht) s1 s2 n1 n2).mono fun e w' ⟨h1, h2⟩ => ⟨h1, hu.trans (h2.mono hu.size)⟩⟩

theorem five_bd (s n : Int) : ∃ a m K : Nat, (partC s n).getD 5 (0, 0, 0) = (a, m, K) ∧ a = baseC s n ∧ a + m = sizeC s n ∧ a ≤ 100000 ∧ m ≤ 100000 := by
  by_cases h : rightC s n = true
  · refine ⟨_, _, _, (part_five s n).trans (if_pos h), by rw [baseC, if_pos h], by rw [sizeC, if_pos h]; rfl, ?_⟩
    obtain ⟨S, N, rfl, rfl, b1, b2, b3, b4, b5⟩ := right_nat h
    have := base_sixteen (s := S) b3
    have he : endT S N = 128 + 16 * S + 4 * N := rfl
    rw [Int.toNat_natCast, Int.toNat_natCast]
    omega
  · exact ⟨_, _, _, (part_five s n).trans (if_neg h), by rw [baseC, if_neg h], by rw [sizeC, if_neg h], by omega, by omega⟩

set_option maxRecDepth 100000 in
theorem base_any (s n : Int) (w : World) (ht : Cls.Tab w) (s1 : -9223372036854775808 ≤ s) (s2 : s ≤ 9223372036854775807) (n1 : -9223372036854775808 ≤ n) (n2 : n ≤ 9223372036854775807) :
    Calls Tryd.prog 12 #[.agg #[.int .i64 s, .int .i64 n]] w fun e w' => e = .returned (.int .i64 (baseC s n)) ∧ Below w.heap.size w w' := by
  obtain ⟨P, hP, hl, HP⟩ := parts_on s n w ht s1 s2 n1 n2
  obtain ⟨a, m, K, h5, ha, -, ha2, hm2⟩ := five_bd s n
  rw [← hP] at h5
  rw [← ha]
  obtain ⟨c1, c2, hlt1, hb⟩ := one_box (Below.refl (W1 w s n).heap.size (W1 w s n))
  unfold W1 at c1 c2 hlt1 hb
  clear ht s1 s2 n1 n2 hP ha
  have hix := fun u => index_part P hl 5 5 rfl (by decide) a m K h5 u
  have hfz := fun u => field_zero (a : Int) (m : Int) (K : Int) u
  clear h5 hl
  go_enter Tryd.func12, Tryd.ntmps12
  go_wp2_with (go_at_call 29; refine (HP.out _ hb).mono ?_; rintro e w1 ⟨rfl, hw1⟩)
  go_ret
  exact ⟨rfl, hw1⟩
set_option maxRecDepth 100000 in
theorem size_any (s n : Int) (w : World) (ht : Cls.Tab w) (s1 : -9223372036854775808 ≤ s) (s2 : s ≤ 9223372036854775807) (n1 : -9223372036854775808 ≤ n) (n2 : n ≤ 9223372036854775807) :
    Calls Tryd.prog 10 #[.agg #[.int .i64 s, .int .i64 n]] w fun e w' => e = .returned (.int .i64 (sizeC s n)) ∧ Below w.heap.size w w' := by
  obtain ⟨P, hP, hl, HP⟩ := parts_on s n w ht s1 s2 n1 n2
  obtain ⟨a, m, K, h5, -, hs, ha2, hm2⟩ := five_bd s n
  rw [← hP] at h5
  rw [← hs]
  obtain ⟨c1, c2, hlt1, hb⟩ := one_box (Below.refl (W1 w s n).heap.size (W1 w s n))
  unfold W1 at c1 c2 hlt1 hb
  have hix := fun u => index_part P hl 5 5 rfl (by decide) a m K h5 u
  have ha3 : (a : Int) ≤ 100000 := by omega
  have hm3 : (m : Int) ≤ 100000 := by omega
  clear ht s1 s2 n1 n2 hP hs h5 hl ha2 hm2
  go_enter Tryd.func10, Tryd.ntmps10
  go_wp2_with (go_at_call 29; refine (HP.out _ hb).mono ?_; rintro e w1 ⟨rfl, hw1⟩)
  go_ret
  exact ⟨ret_int (by omega), hw1.alloc hw1.size _⟩

set_option maxRecDepth 100000 in
theorem most_any (s n : Int) (w : World) (ht : Cls.Tab w) (s1 : -9223372036854775808 ≤ s) (s2 : s ≤ 9223372036854775807) (n1 : -9223372036854775808 ≤ n) (n2 : n ≤ 9223372036854775807) :
    Calls Tryd.prog 14 #[.agg #[.int .i64 s, .int .i64 n]] w fun e w' => e = .returned (.int .i64 (mostC s n)) ∧ Below w.heap.size w w' := by
  have hR := fun u (hu : Below w.heap.size w u) => right_any s n u (tab_keep hu ht)
  obtain ⟨c1, c2, hlt1, hb⟩ := one_box (Below.refl (W1 w s n).heap.size (W1 w s n))
  unfold W1 at c1 c2 hlt1 hb
  cases hr : rightC s n with
  | false =>
    rw [hr] at hR
    have HR := Lib.hid hR
    rw [show mostC s n = 0 by rw [mostC, hr]; rfl]
    clear hR ht hr
    go_enter Tryd.func14, Tryd.ntmps14
    go_wp2_with (go_at_call 8; refine (HR.out _ hb).mono ?_; rintro e w1 ⟨rfl, hw1⟩; have hb1 := hb.trans (hw1.mono hb.size))
    go_ret
    exact ⟨rfl, hb1⟩
  | true =>
    rw [hr] at hR
    have HR := Lib.hid hR
    rw [show mostC s n = 32 * s.toNat by rw [mostC, hr]; rfl]
    have h0 := right_out hr
    have HM := Lib.hid (fun u (hu : Below w.heap.size w u) => cmost_any s u (tab_keep hu ht) (by omega) (by omega))
    have hk : (32 * s.toNat : Nat) = s * 32 := by omega
    have HK := Lib.hid hk
    clear hR ht hr h0 hk
    go_enter Tryd.func14, Tryd.ntmps14
    go_wp2_with (first | (go_at_call 8; refine (HR.out _ hb).mono ?_; rintro e w1 ⟨rfl, hw1⟩; replace c1 := (hw1.cell (p := ⟨w.heap.size, 0, none⟩) hlt1).trans c1; have hb1 := hb.trans (hw1.mono hb.size)) | (go_at_call 30; refine (HM.out _ hb1).mono ?_; rintro e w2 ⟨rfl, rfl⟩))
    go_ret
    exact ⟨ret_int HK.out.symm, hb1⟩

theorem headAt_bd (s n i : Int) : ∃ a m K : Nat, (partC s n).getD 2 (0, 0, 0) = (a, m, K) ∧ a ≤ 100000 ∧ m ≤ 100000 ∧ ((headC s n i : Nat) : Int) = if 0 ≤ i ∧ i < (m : Int) / 16 then (a : Int) + i * 16 else 0 := by
  by_cases h : rightC s n = true
  · refine ⟨_, _, _, (part_two s n).trans (if_pos h), ?_⟩
    obtain ⟨S, N, rfl, rfl, b1, b2, b3, b4, b5⟩ := right_nat h
    have hb := base_sixteen (s := S) b3
    have he : endT S N = 128 + 16 * S + 4 * N := rfl
    have hs : slT S = 128 + 16 * S := rfl
    unfold headC
    simp only [Int.toNat_natCast]
    refine ⟨by omega, by omega, ?_⟩
    split
    · rename_i hc
      rw [if_pos (by omega)]
      omega
    · rename_i hc
      rw [if_neg (fun hh => hc ⟨h, hh.1, by omega⟩)]
      rfl
  · refine ⟨_, _, _, (part_two s n).trans (if_neg h), by omega, by omega, ?_⟩
    rw [headC, if_neg (fun hh => h hh.1), if_neg (by omega)]
    rfl
set_option maxRecDepth 100000 in
theorem headAt_any (s n i : Int) (w : World) (ht : Cls.Tab w) (s1 : -9223372036854775808 ≤ s) (s2 : s ≤ 9223372036854775807) (n1 : -9223372036854775808 ≤ n) (n2 : n ≤ 9223372036854775807) (i1 : -9223372036854775808 ≤ i) (i2 : i ≤ 9223372036854775807) :
    Calls Tryd.prog 22 #[.agg #[.int .i64 s, .int .i64 n], .int .i64 i] w fun e w' => e = .returned (.int .i64 (headC s n i)) ∧ Below w.heap.size w w' := by
  obtain ⟨P, hP, hl, HP⟩ := parts_on s n w ht s1 s2 n1 n2
  obtain ⟨a, m, K, h5, ha2, hm2, hr⟩ := headAt_bd s n i
  rw [← hP] at h5
  obtain ⟨c1, c2, hlt1, hb⟩ := one_box (Below.refl (W1 w s n).heap.size (W1 w s n))
  unfold W1 at c1 c2 hlt1 hb
  have hix := fun u => index_part P hl 2 2 rfl (by decide) a m K h5 u
  have HL := Lib.hid (fun u => place_any (a : Int) (m : Int) (K : Int) 16 i (headC s n i) u i1 i2 (by decide) (by decide) (by omega) (by omega) (by omega) (by omega) hr)
  generalize headC s n i = r at HL ⊢
  clear ht s1 s2 n1 n2 hP hr h5 hl ha2 hm2
  go_enter Tryd.func22, Tryd.ntmps22
  go_wp2_with (first | (go_at_call 29; refine (HP.out _ hb).mono ?_; rintro e w1 ⟨rfl, hw1⟩) | (go_at_call 31; refine (HL.out _).mono ?_; rintro e w2 ⟨rfl, hw2⟩))
  go_ret
  exact ⟨rfl, hw1.trans (hw2.mono hw1.size)⟩

theorem slotAt_bd (s n i : Int) : ∃ a m K : Nat, (partC s n).getD 3 (0, 0, 0) = (a, m, K) ∧ a ≤ 100000 ∧ m ≤ 100000 ∧ ((slotC s n i : Nat) : Int) = if 0 ≤ i ∧ i < (m : Int) / 4 then (a : Int) + i * 4 else 0 := by
  by_cases h : rightC s n = true
  · refine ⟨_, _, _, (part_three s n).trans (if_pos h), ?_⟩
    obtain ⟨S, N, rfl, rfl, b1, b2, b3, b4, b5⟩ := right_nat h
    have hb := base_sixteen (s := S) b3
    have he : endT S N = 128 + 16 * S + 4 * N := rfl
    have hs : slT S = 128 + 16 * S := rfl
    unfold slotC
    simp only [Int.toNat_natCast]
    refine ⟨by omega, by omega, ?_⟩
    split
    · rename_i hc
      rw [if_pos (by omega)]
      omega
    · rename_i hc
      rw [if_neg (fun hh => hc ⟨h, hh.1, by omega⟩)]
      rfl
  · refine ⟨_, _, _, (part_three s n).trans (if_neg h), by omega, by omega, ?_⟩
    rw [slotC, if_neg (fun hh => h hh.1), if_neg (by omega)]
    rfl
set_option maxRecDepth 100000 in
theorem slotAt_any (s n i : Int) (w : World) (ht : Cls.Tab w) (s1 : -9223372036854775808 ≤ s) (s2 : s ≤ 9223372036854775807) (n1 : -9223372036854775808 ≤ n) (n2 : n ≤ 9223372036854775807) (i1 : -9223372036854775808 ≤ i) (i2 : i ≤ 9223372036854775807) :
    Calls Tryd.prog 24 #[.agg #[.int .i64 s, .int .i64 n], .int .i64 i] w fun e w' => e = .returned (.int .i64 (slotC s n i)) ∧ Below w.heap.size w w' := by
  obtain ⟨P, hP, hl, HP⟩ := parts_on s n w ht s1 s2 n1 n2
  obtain ⟨a, m, K, h5, ha2, hm2, hr⟩ := slotAt_bd s n i
  rw [← hP] at h5
  obtain ⟨c1, c2, hlt1, hb⟩ := one_box (Below.refl (W1 w s n).heap.size (W1 w s n))
  unfold W1 at c1 c2 hlt1 hb
  have hix := fun u => index_part P hl 3 3 rfl (by decide) a m K h5 u
  have HL := Lib.hid (fun u => place_any (a : Int) (m : Int) (K : Int) 4 i (slotC s n i) u i1 i2 (by decide) (by decide) (by omega) (by omega) (by omega) (by omega) hr)
  generalize slotC s n i = r at HL ⊢
  clear ht s1 s2 n1 n2 hP hr h5 hl ha2 hm2
  go_enter Tryd.func24, Tryd.ntmps24
  go_wp2_with (first | (go_at_call 29; refine (HP.out _ hb).mono ?_; rintro e w1 ⟨rfl, hw1⟩) | (go_at_call 31; refine (HL.out _).mono ?_; rintro e w2 ⟨rfl, hw2⟩))
  go_ret
  exact ⟨rfl, hw1.trans (hw2.mono hw1.size)⟩

theorem slabAt_bd (s n i : Int) : ∃ a m K : Nat, (partC s n).getD 5 (0, 0, 0) = (a, m, K) ∧ a ≤ 100000 ∧ m ≤ 100000 ∧ ((slabC s n i : Nat) : Int) = if 0 ≤ i ∧ i < (m : Int) / 1024 then (a : Int) + i * 1024 else 0 := by
  by_cases h : rightC s n = true
  · refine ⟨_, _, _, (part_five s n).trans (if_pos h), ?_⟩
    obtain ⟨S, N, rfl, rfl, b1, b2, b3, b4, b5⟩ := right_nat h
    have hb := base_sixteen (s := S) b3
    have he : endT S N = 128 + 16 * S + 4 * N := rfl
    have hs : slT S = 128 + 16 * S := rfl
    unfold slabC
    simp only [Int.toNat_natCast]
    refine ⟨by omega, by omega, ?_⟩
    split
    · rename_i hc
      rw [if_pos (by omega)]
      omega
    · rename_i hc
      rw [if_neg (fun hh => hc ⟨h, hh.1, by omega⟩)]
      rfl
  · refine ⟨_, _, _, (part_five s n).trans (if_neg h), by omega, by omega, ?_⟩
    rw [slabC, if_neg (fun hh => h hh.1), if_neg (by omega)]
    rfl
set_option maxRecDepth 100000 in
theorem slabAt_any (s n i : Int) (w : World) (ht : Cls.Tab w) (s1 : -9223372036854775808 ≤ s) (s2 : s ≤ 9223372036854775807) (n1 : -9223372036854775808 ≤ n) (n2 : n ≤ 9223372036854775807) (i1 : -9223372036854775808 ≤ i) (i2 : i ≤ 9223372036854775807) :
    Calls Tryd.prog 26 #[.agg #[.int .i64 s, .int .i64 n], .int .i64 i] w fun e w' => e = .returned (.int .i64 (slabC s n i)) ∧ Below w.heap.size w w' := by
  obtain ⟨P, hP, hl, HP⟩ := parts_on s n w ht s1 s2 n1 n2
  obtain ⟨a, m, K, h5, ha2, hm2, hr⟩ := slabAt_bd s n i
  rw [← hP] at h5
  obtain ⟨c1, c2, hlt1, hb⟩ := one_box (Below.refl (W1 w s n).heap.size (W1 w s n))
  unfold W1 at c1 c2 hlt1 hb
  have hix := fun u => index_part P hl 5 5 rfl (by decide) a m K h5 u
  have HL := Lib.hid (fun u => place_any (a : Int) (m : Int) (K : Int) 1024 i (slabC s n i) u i1 i2 (by decide) (by decide) (by omega) (by omega) (by omega) (by omega) hr)
  generalize slabC s n i = r at HL ⊢
  clear ht s1 s2 n1 n2 hP hr h5 hl ha2 hm2
  go_enter Tryd.func26, Tryd.ntmps26
  go_wp2_with (first | (go_at_call 29; refine (HP.out _ hb).mono ?_; rintro e w1 ⟨rfl, hw1⟩) | (go_at_call 31; refine (HL.out _).mono ?_; rintro e w2 ⟨rfl, hw2⟩))
  go_ret
  exact ⟨rfl, hw1.trans (hw2.mono hw1.size)⟩

theorem slab_bd (s n i : Int) : ∃ a m K : Nat, (partC s n).getD 5 (0, 0, 0) = (a, m, K) ∧ a ≤ 100000 ∧ m ≤ 100000 ∧ inC s n i = if (a : Int) ≤ i ∧ i < (a : Int) + (m : Int) then (((i - a) / 1024).toNat, true) else (0, false) := by
  by_cases h : rightC s n = true
  · refine ⟨_, _, _, (part_five s n).trans (if_pos h), ?_⟩
    obtain ⟨S, N, rfl, rfl, b1, b2, b3, b4, b5⟩ := right_nat h
    have hb := base_sixteen (s := S) b3
    have he : endT S N = 128 + 16 * S + 4 * N := rfl
    have hs : sizeT S N = baseT S N + 1024 * S := rfl
    unfold inC
    simp only [Int.toNat_natCast]
    refine ⟨by omega, by omega, ?_⟩
    split
    · rename_i hc
      rw [if_pos (by omega)]
    · rename_i hc
      rw [if_neg (fun hh => hc ⟨h, by omega, by omega⟩)]
  · refine ⟨_, _, _, (part_five s n).trans (if_neg h), by omega, by omega, ?_⟩
    rw [inC, if_neg (fun hh => h hh.1), if_neg (by omega)]
set_option maxRecDepth 100000 in
theorem slab_any (s n i : Int) (w : World) (ht : Cls.Tab w) (s1 : -9223372036854775808 ≤ s) (s2 : s ≤ 9223372036854775807) (n1 : -9223372036854775808 ≤ n) (n2 : n ≤ 9223372036854775807) (i1 : -9223372036854775808 ≤ i) (i2 : i ≤ 9223372036854775807) :
    Calls Tryd.prog 20 #[.agg #[.int .i64 s, .int .i64 n], .int .i64 i] w fun e w' => e = .returned (.tuple #[.int .i64 (inC s n i).1, .bool (inC s n i).2]) ∧ Below w.heap.size w w' := by
  obtain ⟨P, hP, hl, HP⟩ := parts_on s n w ht s1 s2 n1 n2
  obtain ⟨a, m, K, h5, ha2, hm2, hr⟩ := slab_bd s n i
  rw [← hP] at h5
  obtain ⟨c1, c2, hlt1, hb⟩ := one_box (Below.refl (W1 w s n).heap.size (W1 w s n))
  unfold W1 at c1 c2 hlt1 hb
  have hix := fun u => index_part P hl 5 5 rfl (by decide) a m K h5 u
  have ha3 : (a : Int) ≤ 100000 := by omega
  have hm3 : (m : Int) ≤ 100000 := by omega
  by_cases h1 : i < (a : Int)
  · rw [hr, if_neg (by omega)]
    clear ht s1 s2 n1 n2 hP hr h5 hl ha2 hm2
    go_enter Tryd.func20, Tryd.ntmps20
    go_wp2_with (go_at_call 29; refine (HP.out _ hb).mono ?_; rintro e w1 ⟨rfl, hw1⟩)
    go_ret2
    exact ⟨rfl, hw1.alloc hw1.size _⟩
  · by_cases h2 : (a : Int) + (m : Int) ≤ i
    · rw [hr, if_neg (by omega)]
      clear ht s1 s2 n1 n2 hP hr h5 hl ha2 hm2
      go_enter Tryd.func20, Tryd.ntmps20
      go_wp2_with (go_at_call 29; refine (HP.out _ hb).mono ?_; rintro e w1 ⟨rfl, hw1⟩)
      go_ret2
      exact ⟨rfl, hw1.alloc hw1.size _⟩
    · rw [hr, if_pos (by omega)]
      obtain ⟨q, hq⟩ : ∃ q : Nat, (q : Int) = i - a := ⟨(i - a).toNat, by omega⟩
      rw [← hq]
      have hq1 := hq.symm
      have hqw : IntKind.i64.wrap (i - (a : Int)) = (q : Int) := (wrap_id (by omega) (by omega)).trans hq1
      have hq2 : (q : Int) ≤ 100000 := by omega
      obtain ⟨d, hd⟩ : ∃ d : Nat, (d : Int) = (q : Int) / 1024 := ⟨((q : Int) / 1024).toNat, by omega⟩
      rw [← hd, Int.toNat_natCast]
      have hd1 := hd.symm
      have hd2 : (d : Int) ≤ 100000 := by omega
      clear ht s1 s2 n1 n2 hP hr h5 hl ha2 hm2 hq hd
      go_enter Tryd.func20, Tryd.ntmps20
      go_wp2_with (go_at_call 29; refine (HP.out _ hb).mono ?_; rintro e w1 ⟨rfl, hw1⟩)
      go_ret2
      exact ⟨rfl, hw1.alloc hw1.size _⟩
end Go.Proofs.YtemkmkkpamhfoaaDoor.Lay
