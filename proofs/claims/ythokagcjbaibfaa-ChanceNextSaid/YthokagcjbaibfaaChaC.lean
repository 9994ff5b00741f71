/- Contracts of chance: Turns, Next. -/
import Derived.Test.YthokagcjbaibfaaChaB
import Derived.Deep.RegionLaw
import Derived.Deep.RegionHeld3
import Derived.Shelf.Abstract
namespace Go.Proofs.Ythokagcjbaibfaa.Cha
open Go.RowKit
set_option linter.unusedVariables false

theorem enters_st : ∀ args w, (callFunc 30 args).run Try.prog w = .ok (.enter 30 args) w := enters_of Try.func30 (by kernel_rfl) rfl
theorem enters_br : ∀ args w, (callFunc 28 args).run Try.prog w = .ok (.enter 28 args) w := enters_of Try.func28 (by kernel_rfl) rfl
theorem enters_or : ∀ args w, (callFunc 26 args).run Try.prog w = .ok (.enter 26 args) w := enters_of Try.func26 (by kernel_rfl) rfl

theorem brow_slice {w : World} {v : Value} {L : List Bool} (h : BRow w v L) : ∃ a c, v = .slice a L.length c ∧ L.length ≤ c ∧ c ≤ 9223372036854775807 ∧ BRow w (.slice a L.length c) L := by
  obtain ⟨a, c, h1, h2, h3, h4⟩ := id h
  exact ⟨a, c, h1, h2, h3, by rw [← h1]; exact h⟩

theorem wrap_in {x : Int} (h1 : -9223372036854775808 ≤ x) (h2 : x ≤ 9223372036854775807) : IntKind.i64.wrap x = x := by
  rw [IntWalk.i64_left]
  unfold wrap64
  omega
theorem run_make_n {P : Program} (t e : TypeId) (i : TypeInfo) (z : Value) (ht : P.underlying t = some (.slice e)) (hi : P.info? e = some i) (hz : i.zero = some z) (n : Nat) (hb : i.bytes ≤ 40) (hn : n ≤ 1000) (w : World) :
    (Instr.makeSlice t (.int .i64 (n : Int)) (.int .i64 (n : Int))).run P w = .ok (.slice (some ⟨w.heap.size, 0, none⟩) n n) (w.alloc (.cells (madeCells z.cells (n * i.size)) e)) := by
  have hbb : (i.bytes : Int) * (n : Int) ≤ 281474976710656 := by
    have h : ((i.bytes * n : Nat) : Int) ≤ 281474976710656 := by
      have := Nat.mul_le_mul hb hn
      omega
    rwa [Int.natCast_mul] at h
  have hr := run_make (P := P) w t e i z ht hi hz .i64 .i64 n n (by omega) (by omega) hbb (by omega)
  simp only [Int.toNat_natCast] at hr
  exact hr

/-- Two boxes that staying makes. -/
theorem boxes (w : World) (x y : Value) : let W := (w.alloc (.cells #[x] 22)).alloc (.cells #[y] 22)
    W.heap[w.heap.size]? = some (.cells #[x] 22 (0, 0)) ∧ W.heap[w.heap.size + 1]? = some (.cells #[y] 22 (0, 0)) ∧ Below w.heap.size w W := by
  intro W
  have h1 : (w.alloc (.cells #[x] 22)).heap.size = w.heap.size + 1 := Array.size_push _
  refine ⟨?_, ?_, ?_⟩
  · exact (Below.heap_alloc _ _ _ (by omega)).trans (heap_alloc_new w _)
  · have := heap_alloc_new (w.alloc (.cells #[x] 22)) (.cells #[y] 22)
    rw [h1] at this
    exact this
  · exact (below_made w _).trans ((below_made _ _).mono (by omega))

set_option maxRecDepth 100000 in
theorem turns_bad (u v : Value) (U V : List Bool) (x : Int) (w : World) (hu : BRow w u U) (hv : BRow w v V) (hn : U.length ≤ 1000) (hb : ¬ ckU U.length V.length x = 0) :
    Calls Try.prog 12 #[u, v, .int .i64 x] w fun e w' => e = .returned (.int .i64 0) ∧ w = w' := by
  have HC := Lib.hid (check_any u v U V x w hu hv (by omega))
  obtain ⟨a, c, rfl, -, -, -⟩ := hu
  obtain ⟨a2, c2, rfl, -, -, -⟩ := hv
  obtain ⟨n, hn⟩ : ∃ n, n = U.length := ⟨_, rfl⟩
  obtain ⟨m, hm⟩ : ∃ m, m = V.length := ⟨_, rfl⟩
  rw [← hn, ← hm] at HC hb ⊢
  obtain ⟨z, hz⟩ : ∃ z, z = ckU n m x := ⟨_, rfl⟩
  rw [← hz] at HC hb
  clear hn hm hz
  have hz2 : (z != 0) = true := by simp [hb]
  have hz3 : (z == 0) = false := by simp [hb]
  clear hb
  go_enter Try.func12, Try.ntmps12
  go_wp2_with (go_at_call 19; refine HC.out.mono ?_; rintro e w' ⟨rfl, rfl⟩)
  go_ret
  exact ⟨rfl, rfl⟩

set_option maxRecDepth 100000 in
theorem turns_ok (u v : Value) (U V : List Bool) (h : Nat) (w : World) (hu : BRow w u U) (hv : BRow w v V) (hn : U.length ≤ 1000) (hl : U.length = V.length) (hh : h < U.length) :
    Calls Try.prog 12 #[u, v, .int .i64 (h : Int)] w fun e w' => e = .returned (.int .i64 (trn U V h : Int)) ∧ Below w.heap.size w w' := by
  have hck : ckU U.length V.length (h : Int) = 0 := by rw [ckU, if_pos hl, ck, if_neg (by omega), if_neg (by omega)]
  have HC := Lib.hid (check_any u v U V h w hu hv (by omega))
  rw [hck] at HC
  have HRd := Lib.hid (fun W => round_any U.length h W hh (by omega))
  obtain ⟨a, c, rfl, hc1, hc2, -⟩ := id hu
  obtain ⟨a2, c2, rfl, hc3, hc4, -⟩ := id hv
  have HU := Lib.hid hu
  have HV := Lib.hid hv
  clear hck hu hv
  have HP : Hid (∀ w1 u1, Row .i64 w1 u1 (ints (rnd U.length h)) → Below w.heap.size w w1 →
      Calls Try.prog 22 #[u1, stF w1.heap.size (w1.heap.size + 1)] ((w1.alloc (.cells #[.slice a U.length c] 22)).alloc (.cells #[.slice a2 V.length c2] 22)) fun e w' => e = .returned (.int .i64 (trn U V h : Int)) ∧ ((w1.alloc (.cells #[.slice a U.length c] 22)).alloc (.cells #[.slice a2 V.length c2] 22)) = w') := by
    intro w1 u1 hr hb
    obtain ⟨b1, b2, b3⟩ := boxes w1 (.slice a U.length c) (.slice a2 V.length c2)
    exact passed_any _ _ (rnd U.length h) (st U V) u1 _ (hr.mono b3 (Nat.le_refl _)) (by rw [rnd_length]; omega) enters_st (fun i hi =>
      staying1_any _ _ U V i _ _ _ b1 b2 (HU.out.mono (hb.trans (b3.mono hb.size)) (Nat.le_refl _)) (HV.out.mono (hb.trans (b3.mono hb.size)) (Nat.le_refl _)) (rnd_lt (by omega) hi) hl (by omega))
  obtain ⟨n, hN⟩ : ∃ n, n = U.length := ⟨_, rfl⟩
  obtain ⟨m, hM⟩ : ∃ m, m = V.length := ⟨_, rfl⟩
  obtain ⟨T, hT⟩ : ∃ T, T = trn U V h := ⟨_, rfl⟩
  rw [← hT] at HP ⊢
  rw [← hN] at HC HRd HP ⊢
  rw [← hM] at HC HP ⊢
  clear hN hM hT HU HV hl hn hh hc1 hc3
  go_enter Try.func12, Try.ntmps12
  go_wp2_with (go_at_call 19; refine HC.out.mono ?_; rintro e w' ⟨rfl, rfl⟩)
  refine (HRd.out _).mono ?_
  rintro e w1 ⟨u1, rfl, hb1, hr1⟩
  have HB1 := Lib.hid hb1
  have HR1 := Lib.hid hr1
  clear hb1 hr1
  go_wp2_with fail
  refine (staying_any _ _ _ _ _ _ _).mono ?_
  rintro e w2 ⟨rfl, rfl⟩
  have HB2 := Lib.hid (boxes w1 (.slice a n c) (.slice a2 m c2)).2.2
  have HP2 := Lib.hid (HP.out w1 u1 HR1.out HB1.out)
  go_wp2_with fail
  refine HP2.out.mono ?_
  rintro e w3 ⟨rfl, rfl⟩
  go_wp2
  go_ret
  exact ⟨rfl, HB1.out.trans (HB2.out.mono HB1.out.size)⟩

theorem next_bad (u v : Value) (U V : List Bool) (x : Int) (w : World) (hu : BRow w u U) (hv : BRow w v V) (hn : U.length ≤ 1000) (hb : ¬ ckU U.length V.length x = 0) :
    Calls Try.prog 9 #[u, v, .int .i64 x] w fun e w' => e = .returned (.tuple #[.int .i64 0, .slice none 0 0, .int .i64 (ckU U.length V.length x)]) ∧ w = w' := by
  have HC := Lib.hid (check_any u v U V x w hu hv (by omega))
  obtain ⟨a, c, rfl, -, -, -⟩ := hu
  obtain ⟨a2, c2, rfl, -, -, -⟩ := hv
  obtain ⟨n, hn⟩ : ∃ n, n = U.length := ⟨_, rfl⟩
  obtain ⟨m, hm⟩ : ∃ m, m = V.length := ⟨_, rfl⟩
  rw [← hn, ← hm] at HC hb ⊢
  obtain ⟨z, hz⟩ : ∃ z, z = ckU n m x := ⟨_, rfl⟩
  rw [← hz] at HC hb ⊢
  have hz2 : (z != 0) = true := by simp [hb]
  have hz3 : (z == 0) = false := by simp [hb]
  clear hn hm hz hb
  go_enter Try.func9, Try.ntmps9
  go_wp2_with (go_at_call 19; refine HC.out.mono ?_; rintro e w' ⟨rfl, rfl⟩)
  go_ret3
  exact ⟨rfl, rfl⟩

theorem own_drew {w : World} {base : Nat} {e : TypeId} {v : Value} {n : Nat} {l : List Value} (h : w.ownsRow base e 1 v n l) : w.drew.ownsRow base e 1 v n l := h
theorem cutB_slice (v : Value) (l : List Bool) (k T : Nat) (w : World) (hr : BRow w v l) (hk : k ≤ l.length) (h0 : 0 < l.length) (hn : l.length ≤ 1000000) (hT : T ≤ l.length) :
    Calls Try.prog 20 #[v, .int .i64 (k : Int)] w fun e w' => ∃ a c, e = .returned (.slice a l.length c) ∧ Below w.heap.size w w' ∧ l.length ≤ c ∧
      BRow w' (.slice (if c = T then a else a.map (·.add T)) (l.length - T) (c - T)) ((l.drop k ++ l.take k).drop T) :=
  (cutB_any v l k w hr hk h0 hn).mono fun e w' ⟨u, h1, h2, h3⟩ => by
    obtain ⟨a, c, q1, q2, q3, q4⟩ := brow_slice h3
    have hL : (l.drop k ++ l.take k).length = l.length := by simp; omega
    have q5 := BRow.from_ q4 (n := T) (by omega)
    rw [hL] at q1 q2 q5
    subst q1
    exact ⟨a, c, h1, h2, q2, q5⟩
theorem slice_from {a : Option Addr} {n c T : Nat} : (Value.slice (if c = T then a else a.map (·.add T)) (n - T) (c - T)) = if c = T then .slice a (n - T) (c - T) else .slice (a.map (·.add T)) (n - T) (c - T) := by split <;> rfl

set_option maxRecDepth 100000 in
set_option maxHeartbeats 2000000 in
theorem next_ok (u v : Value) (U V : List Bool) (h : Nat) (w : World) (hu : BRow w u U) (hv : BRow w v V) (hn : U.length ≤ 1000) (hl : U.length = V.length) (hh : h < U.length) :
    Calls Try.prog 9 #[u, v, .int .i64 (h : Int)] w fun e w' => ∃ y, e = .returned (.tuple #[.int .i64 (el U.length h (trn U V h) : Int), y, .int .i64 0]) ∧ Below w.heap.size w w' ∧ BRow w' y (aft U h (trn U V h)) := by
  obtain ⟨i0, hi, hz0, hz1, hz2⟩ := info_parts infoBool
  have hck : ckU U.length V.length (h : Int) = 0 := by rw [ckU, if_pos hl, ck, if_neg (by omega), if_neg (by omega)]
  have HC := Lib.hid (check_any u v U V h w hu hv (by omega))
  rw [hck] at HC
  have HT := Lib.hid (turns_ok u v U V h w hu hv hn hl hh)
  have hT := trn_le U V h
  have HCut := Lib.hid (fun (w1 W : World) (b : Below w.heap.size w w1) (b1 : Below w1.heap.size w1 W) => cutB_slice u U h (trn U V h) W (hu.mono (b.trans (b1.mono b.size)) (Nat.le_refl _)) (by omega) (by omega) (by omega) hT)
  have HA := Lib.hid (aft_cut (U := U) hh hT)
  have hel : Int.tmod ((h + trn U V h : Nat) : Int) (U.length : Int) = ((el U.length h (trn U V h) : Nat) : Int) := by
    rw [Int.tmod_eq_emod_of_nonneg (by omega)]; rfl
  have hrl : (U.drop h ++ U.take h).length = U.length := by simp; omega
  have hAl := aft_length U h (trn U V h)
  obtain ⟨a, c, rfl, hc1, hc2, -⟩ := id hu
  obtain ⟨a2, c2, rfl, hc3, hc4, -⟩ := id hv
  clear hck hu hv
  obtain ⟨R, hR⟩ : ∃ R, R = U.drop h ++ U.take h := ⟨_, rfl⟩
  obtain ⟨n, hN⟩ : ∃ n, n = U.length := ⟨_, rfl⟩
  obtain ⟨m, hM⟩ : ∃ m, m = V.length := ⟨_, rfl⟩
  obtain ⟨T, hT2⟩ : ∃ T, T = trn U V h := ⟨_, rfl⟩
  rw [← hT2] at HT HA hel hT hAl HCut ⊢
  rw [← hN] at HC HT HCut HA hel hrl hh hn hT ⊢
  rw [← hM] at HC HT ⊢
  rw [← hR] at HCut HA hrl
  obtain ⟨k, hk⟩ : ∃ k, k = el n h T := ⟨_, rfl⟩
  rw [← hk] at hel ⊢
  obtain ⟨s, hs⟩ : ∃ s, s = h + T := ⟨_, rfl⟩
  rw [← hs] at hel
  have hw1 : IntKind.i64.wrap ((h : Int) + (T : Int)) = (s : Int) := (wrap_in (by omega) (by omega)).trans (by omega)
  obtain ⟨d, hd⟩ : ∃ d, d = n - h := ⟨_, rfl⟩
  rw [← hd] at HA
  have hw2 : IntKind.i64.wrap ((n : Int) - (h : Int)) = (d : Int) := (wrap_in (by omega) (by omega)).trans (by omega)
  have hdn : d ≤ n := by omega
  have hn0 : ¬ n = 0 := by omega
  have hmk : ∀ W : World, (Instr.makeSlice 22 (.int .i64 (T : Int)) (.int .i64 (T : Int))).run Try.prog W = .ok (.slice (some ⟨W.heap.size, 0, none⟩) T T) (W.alloc (.cells (madeCells #[.bool false] T) 4)) := fun W => by
    have := run_make_n 22 4 i0 (.bool false) Try.underlying22 hi hz0 T (by omega) (by omega) W
    rw [hz1, Nat.mul_one] at this
    exact this
  have hs1 : (T : Int) ≤ (n : Int) := by omega
  have hT0 : (0 : Int) ≤ (T : Int) := by omega
  rw [← hN] at hAl
  clear hN hM hT2 hR hk hs hd hl hc3
  go_enter Try.func9, Try.ntmps9
  go_wp2_with (go_at_call 19; refine HC.out.mono ?_; rintro e w' ⟨rfl, rfl⟩)
  refine HT.out.mono ?_
  rintro e w1 ⟨rfl, hb1⟩
  have HB1 := Lib.hid hb1
  clear hb1
  go_wp2_with fail
  have HAp : Hid (∀ (W : World) (b : Nat) (base : Nat) (X : Option Addr) (c5 : Nat), W.ownsRow base 4 1 (.slice (some ⟨b, 0, none⟩) T T) T (valsB (List.replicate T false)) → BRow W (.slice X (n - T) c5) (R.drop T) → base ≤ W.heap.size → w1.heap.size ≤ base →
      ∃ v' w', (Builtin.append_ #[22, 22] 22 #[.slice (some ⟨b, 0, none⟩) T T, .slice X (n - T) c5]).run Try.prog W = .ok v' w' ∧ BRow w' v' (List.replicate T false ++ R.drop T) ∧ (Below w1.heap.size w1 W → Below w1.heap.size w1 w')) := by
    intro W b base X c5 ho hr hbs hw
    obtain ⟨v', w', h1, h2, h3, h4⟩ := run_append_bools (P := Try.prog) W base 22 22 4 i0 (.bool false) Try.underlying22 hi hz0 hz1 hz2 rfl _ T _ ho (by simp) _ (R.drop T) hr (by simp; omega) hbs
    refine ⟨v', w', h1, brow_of_owns h2 (by simp), fun hb => hb.grown h3 hb.size (fun r hr => ?_)⟩
    have := (ho.lt r hr).1
    omega
  go_region_law ((first
    | (go_simp; go_at_call 20; refine (HCut.out w1 _ HB1.out (by first | exact (Below.refl _ _).drew | exact ((Below.refl _ _).alloc (Nat.le_refl _) _).drew)).mono ?_; rintro e w5 ⟨a5, c5, rfl, hb5, hc5, hr6⟩; have k5 : (n : Int) ≤ (c5 : Int) := by omega)
    | (have ho := ownsRow_stays (own_drew (own_falses w1 T 4 (by omega))) hb5; obtain ⟨v', w6, hrun, hr7, hb7⟩ := HAp.out w5 _ _ _ _ ho hr6 (by have := hb5.size; simp at this ⊢; omega) (Nat.le_refl _); replace hb7 := hb7 (((Below.refl _ _).alloc (Nat.le_refl _) _).drew.trans (hb5.mono (by simp))); refine step_append_run rfl (.tmp 27) (.tmp 32) 22 22 rfl rfl _ _ _ _ (by simp [Act.eval, Act.put]) (by simp [Act.eval, Act.put]) hrun ?_)
    | (have ho := own_falses w5 T 4 (by omega); obtain ⟨v', w6, hrun, hr7, hb7⟩ := HAp.out _ _ _ _ _ ho (hr6.mono (below_made _ _) (Nat.le_refl _)) (by simp) (by have := hb5.size; simp at this ⊢; omega); replace hb7 := hb7 (((Below.refl _ _).drew.trans hb5).alloc (by have := hb5.size; simp at this ⊢; omega) _); refine step_append_run rfl (.tmp 27) (.tmp 32) 22 22 rfl rfl _ _ _ _ (by simp [Act.eval, Act.put]) (by simp [Act.eval, Act.put]) hrun ?_)))
  all_goals
    have HR7 := Lib.hid hr7
    have HB7 := Lib.hid hb7
    have hAl2 : (List.replicate T false ++ R.drop T).length = n := by simp [hrl]; omega
    have HL7 := Lib.hid (fun W (b : Below w6.heap.size w6 W) => cutB_any v' (List.replicate T false ++ R.drop T) d W (hr7.mono b (Nat.le_refl _)) (by omega) (by omega) (by omega))
    clear hr7 hb7 hrun ho hr6 hb5 HAp hAl2
    generalize (if c5 = T then a5 else Option.map (fun x => x.add T) a5) = X5
    go_wp2_with fail
    go_region_law (go_simp; go_at_call 20; refine (HL7.out _ (Below.refl _ _).drew).mono ?_; rintro e w8 ⟨u8, rfl, hb8, hr8⟩)
    all_goals go_wp2
    all_goals go_ret3
    all_goals
      refine ⟨_, rfl, ?_, ?_⟩
      · exact HB1.out.trans ((HB7.out.trans ((show Below w6.heap.size w6 _ from (Below.refl _ _).drew.trans hb8).mono HB7.out.size)).mono HB1.out.size)
      · have := HA.out
        rw [this] at hr8
        exact hr8
end Go.Proofs.Ythokagcjbaibfaa.Cha
