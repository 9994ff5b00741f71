/- Contracts of chance: Broom. -/
import Derived.Test.YthokagcjbaibfaaChaD
namespace Go.Proofs.Ythokagcjbaibfaa.Cha
open Go.RowKit
set_option linter.unusedVariables false

set_option maxRecDepth 100000 in
set_option maxHeartbeats 1000000 in
theorem broom_few (u : Value) (V : List Bool) (h m : Nat) (w : World) (hv : BRow w u V) (hn : V.length ≤ 1000) (hh : h < V.length) (hm : m ≤ V.length) :
    Calls Try.prog 17 #[u, .int .i64 (h : Int), .int .i64 (m : Int)] w fun e w' => ∃ y, e = .returned (.tuple #[y, .int .i64 (el V.length h m : Int), .int .i64 0]) ∧ Below w.heap.size w w' ∧ Row .i64 w' y (ints (((rnd V.length h).take m).filter (fun i => V.getD i false))) := by
  have hck : ck V.length (h : Int) = 0 := by rw [ck, if_neg (by omega), if_neg (by omega)]
  have HCk := Lib.hid (fun W => checkRing_any V.length (h : Int) W (by omega))
  rw [hck] at HCk
  have HRd := Lib.hid (fun W => round_any V.length h W hh (by omega))
  obtain ⟨a, c, rfl, hc1, hc2, -⟩ := id hv
  have HV := Lib.hid hv
  clear hck hv
  have HP1 : Hid (∀ b1 d W, Row .i64 W (.slice b1 V.length d) (ints (rnd V.length h)) → Below w.heap.size w W → W.heap[w.heap.size]? = some (.cells #[.slice a V.length c] 22 (0, 0)) →
      Calls Try.prog 25 #[.slice b1 m d, .func (.func 28) #[] #[.pointer (some ⟨w.heap.size, 0, none⟩)]] W fun e w' => ∃ y, e = .returned y ∧ Below W.heap.size W w' ∧ Row .i64 w' y (ints (((rnd V.length h).take m).filter (fun i => V.getD i false)))) := by
    intro b1 d W hr hb h1
    have hr2 : Row .i64 W (.slice b1 m d) (ints ((rnd V.length h).take m)) := by
      have hl : (ints (rnd V.length h)).length = V.length := by rw [ints_length, rnd_length]
      have := Row.take (n := m) (k := .i64) (w := W) (a := b1) (cap := d) (l := ints (rnd V.length h)) (by rw [hl]; exact hr) (by rw [hl]; omega)
      rw [ints_take] at this
      exact this
    refine (chosen_any _ _ ((rnd V.length h).take m) (fun i => V.getD i false) _ _ hr2 (by rw [List.length_take, rnd_length]; omega) (fun x hx => by have := rnd_lt (by omega) (List.mem_of_mem_take hx); omega) enters_br (fun i hi W2 hW2 => by
      have l1 := (Array.getElem?_eq_some_iff.1 h1).1
      exact broom1_any _ V i _ _ ((hW2.block _ l1).trans h1) (HV.out.mono (hb.trans (hW2.mono hb.size)) (Nat.le_refl _)) (rnd_lt (by omega) (List.mem_of_mem_take hi)) (by omega))).mono fun e w' ⟨y, q1, q2, q3⟩ => ⟨y, q1, q2, row64_of_owns q3 (ints_length _) (ints_wf (fun x hx => ?_))⟩
    have := rnd_lt (by omega) (List.mem_of_mem_take (List.mem_filter.1 hx).1)
    omega
  have hrl : (ints (rnd V.length h)).length = V.length := by rw [ints_length, rnd_length]
  have hel : Int.tmod ((h + m : Nat) : Int) (V.length : Int) = ((el V.length h m : Nat) : Int) := by
    rw [Int.tmod_eq_emod_of_nonneg (by omega)]; rfl
  obtain ⟨k, hk⟩ : ∃ k, k = el V.length h m := ⟨_, rfl⟩
  rw [← hk] at hel ⊢
  obtain ⟨s, hs⟩ : ∃ s, s = h + m := ⟨_, rfl⟩
  rw [← hs] at hel
  have hw1 : IntKind.i64.wrap ((h : Int) + (m : Int)) = (s : Int) := (wrap_in (by omega) (by omega)).trans (by omega)
  obtain ⟨X, hX⟩ : ∃ X, X = ints (((rnd V.length h).take m).filter (fun i => V.getD i false)) := ⟨_, rfl⟩
  rw [← hX] at HP1 ⊢
  obtain ⟨R, hR⟩ : ∃ R, R = ints (rnd V.length h) := ⟨_, rfl⟩
  rw [← hR] at HP1 HRd hrl
  have HL := Lib.hid hrl
  have b0 := heap_alloc_new w (.cells #[.slice a V.length c] 22)
  have B0 := Lib.hid b0
  have BB := Lib.hid (below_made w (.cells #[.slice a V.length c] 22))
  have c0 := cell_of_one b0
  have k0 : ¬ V.length = 0 := by omega
  have k1 : (m : Int) ≤ (V.length : Int) := by omega
  have k2 : ¬ (m : Int) < 0 := by omega
  clear HV
  obtain ⟨n, hN⟩ : ∃ n, n = V.length := ⟨_, rfl⟩
  rw [← hN] at HCk HRd HP1 hel HL c0 b0 B0 BB k0 k1 hn ⊢
  try rw [← hN] at hw1
  clear hk hs hX hR hrl hh hc1 hN b0 hm
  go_enter Try.func17, Try.ntmps17
  go_wp2_with (go_at_call 27; refine (HCk.out _).mono ?_; rintro e w' ⟨rfl, rfl⟩)
  refine (HRd.out _).mono ?_
  rintro e w1 ⟨u1, rfl, hb1, hr1⟩
  obtain ⟨b1, d, rfl, hd1, hd2⟩ := row_slice hr1
  rw [HL.out] at hd1 hr1
  have hb2 : Below w.heap.size w w1 := BB.out.trans (hb1.mono (by simp))
  have HB1 := Lib.hid hb2
  have HQ := Lib.hid (HP1.out b1 d w1 hr1 hb2 ((hb1.block _ (by simp)).trans B0.out))
  rw [HL.out]
  clear hb1 hr1 hb2
  have k3 : (m : Int) ≤ (d : Int) := by omega
  have k4 : (0 : Int) ≤ (m : Int) := by omega
  go_wp2_with fail
  refine HQ.out.mono ?_
  rintro e w2 ⟨y, rfl, hb2, hr2⟩
  have HB2 := Lib.hid hb2
  have HR2 := Lib.hid hr2
  clear hb2 hr2
  go_wp2_with fail
  go_region
  go_wp2
  go_ret3
  exact ⟨_, rfl, HB1.out.trans ((HB2.out.drew).mono HB1.out.size), HR2.out.mono (Below.refl _ _).drew (Nat.le_refl _)⟩

set_option maxRecDepth 100000 in
set_option maxHeartbeats 1000000 in
theorem broom_all (u : Value) (V : List Bool) (h m : Nat) (w : World) (hv : BRow w u V) (hn : V.length ≤ 1000) (hh : h < V.length) (hm : V.length < m) :
    Calls Try.prog 17 #[u, .int .i64 (h : Int), .int .i64 (m : Int)] w fun e w' => ∃ y, e = .returned (.tuple #[y, .int .i64 (el V.length h V.length : Int), .int .i64 0]) ∧ Below w.heap.size w w' ∧ Row .i64 w' y (ints (((rnd V.length h).take V.length).filter (fun i => V.getD i false))) := by
  have hck : ck V.length (h : Int) = 0 := by rw [ck, if_neg (by omega), if_neg (by omega)]
  have HCk := Lib.hid (fun W => checkRing_any V.length (h : Int) W (by omega))
  rw [hck] at HCk
  have HRd := Lib.hid (fun W => round_any V.length h W hh (by omega))
  obtain ⟨a, c, rfl, hc1, hc2, -⟩ := id hv
  have HV := Lib.hid hv
  clear hck hv
  have HP1 : Hid (∀ b1 d W, Row .i64 W (.slice b1 V.length d) (ints (rnd V.length h)) → Below w.heap.size w W → W.heap[w.heap.size]? = some (.cells #[.slice a V.length c] 22 (0, 0)) →
      Calls Try.prog 25 #[.slice b1 V.length d, .func (.func 28) #[] #[.pointer (some ⟨w.heap.size, 0, none⟩)]] W fun e w' => ∃ y, e = .returned y ∧ Below W.heap.size W w' ∧ Row .i64 w' y (ints (((rnd V.length h).take V.length).filter (fun i => V.getD i false)))) := by
    intro b1 d W hr hb h1
    have hr2 : Row .i64 W (.slice b1 V.length d) (ints ((rnd V.length h).take V.length)) := by
      have hl : (ints (rnd V.length h)).length = V.length := by rw [ints_length, rnd_length]
      have := Row.take (n := V.length) (k := .i64) (w := W) (a := b1) (cap := d) (l := ints (rnd V.length h)) (by rw [hl]; exact hr) (by rw [hl]; omega)
      rw [ints_take] at this
      exact this
    refine (chosen_any _ _ ((rnd V.length h).take V.length) (fun i => V.getD i false) _ _ hr2 (by rw [List.length_take, rnd_length]; omega) (fun x hx => by have := rnd_lt (by omega) (List.mem_of_mem_take hx); omega) enters_br (fun i hi W2 hW2 => by
      have l1 := (Array.getElem?_eq_some_iff.1 h1).1
      exact broom1_any _ V i _ _ ((hW2.block _ l1).trans h1) (HV.out.mono (hb.trans (hW2.mono hb.size)) (Nat.le_refl _)) (rnd_lt (by omega) (List.mem_of_mem_take hi)) (by omega))).mono fun e w' ⟨y, q1, q2, q3⟩ => ⟨y, q1, q2, row64_of_owns q3 (ints_length _) (ints_wf (fun x hx => ?_))⟩
    have := rnd_lt (by omega) (List.mem_of_mem_take (List.mem_filter.1 hx).1)
    omega
  have hrl : (ints (rnd V.length h)).length = V.length := by rw [ints_length, rnd_length]
  have hel : Int.tmod ((h + V.length : Nat) : Int) (V.length : Int) = ((el V.length h V.length : Nat) : Int) := by
    rw [Int.tmod_eq_emod_of_nonneg (by omega)]; rfl
  obtain ⟨k, hk⟩ : ∃ k, k = el V.length h V.length := ⟨_, rfl⟩
  rw [← hk] at hel ⊢
  obtain ⟨s, hs⟩ : ∃ s, s = h + V.length := ⟨_, rfl⟩
  rw [← hs] at hel
  have hw1 : IntKind.i64.wrap ((h : Int) + (V.length : Int)) = (s : Int) := (wrap_in (by omega) (by omega)).trans (by omega)
  obtain ⟨X, hX⟩ : ∃ X, X = ints (((rnd V.length h).take V.length).filter (fun i => V.getD i false)) := ⟨_, rfl⟩
  rw [← hX] at HP1 ⊢
  obtain ⟨R, hR⟩ : ∃ R, R = ints (rnd V.length h) := ⟨_, rfl⟩
  rw [← hR] at HP1 HRd hrl
  have HL := Lib.hid hrl
  have b0 := heap_alloc_new w (.cells #[.slice a V.length c] 22)
  have B0 := Lib.hid b0
  have BB := Lib.hid (below_made w (.cells #[.slice a V.length c] 22))
  have c0 := cell_of_one b0
  have k0 : ¬ V.length = 0 := by omega
  have k1 : (V.length : Int) < (m : Int) := by omega
  have k2 : ¬ (m : Int) < 0 := by omega
  clear HV
  obtain ⟨n, hN⟩ : ∃ n, n = V.length := ⟨_, rfl⟩
  rw [← hN] at HCk HRd HP1 hel HL c0 b0 B0 BB k0 k1 hn ⊢
  try rw [← hN] at hw1
  clear hk hs hX hR hrl hh hc1 hN b0 hm
  go_enter Try.func17, Try.ntmps17
  go_wp2_with (go_at_call 27; refine (HCk.out _).mono ?_; rintro e w' ⟨rfl, rfl⟩)
  refine (HRd.out _).mono ?_
  rintro e w1 ⟨u1, rfl, hb1, hr1⟩
  obtain ⟨b1, d, rfl, hd1, hd2⟩ := row_slice hr1
  rw [HL.out] at hd1 hr1
  have hb2 : Below w.heap.size w w1 := BB.out.trans (hb1.mono (by simp))
  have HB1 := Lib.hid hb2
  have HQ := Lib.hid (HP1.out b1 d w1 hr1 hb2 ((hb1.block _ (by simp)).trans B0.out))
  rw [HL.out]
  clear hb1 hr1 hb2
  have k3 : (n : Int) ≤ (d : Int) := by omega
  have k4 : (0 : Int) ≤ (n : Int) := by omega
  go_wp2_with fail
  refine HQ.out.mono ?_
  rintro e w2 ⟨y, rfl, hb2, hr2⟩
  have HB2 := Lib.hid hb2
  have HR2 := Lib.hid hr2
  clear hb2 hr2
  go_wp2_with fail
  go_region
  go_wp2
  go_ret3
  exact ⟨_, rfl, HB1.out.trans ((HB2.out.drew).mono HB1.out.size), HR2.out.mono (Below.refl _ _).drew (Nat.le_refl _)⟩

/-- What Broom says of its arguments. -/
def bk (n : Nat) (x m : Int) : Int := if ck n x = 0 then (if m < 0 then 2 else 0) else ck n x
theorem broom_bad (u : Value) (V : List Bool) (x m : Int) (w : World) (hv : BRow w u V) (hn : V.length ≤ 1000) (hb : ¬ bk V.length x m = 0) :
    Calls Try.prog 17 #[u, .int .i64 x, .int .i64 m] w fun e w' => e = .returned (.tuple #[.slice none 0 0, .int .i64 0, .int .i64 (bk V.length x m)]) ∧ Below w.heap.size w w' := by
  have HCk := Lib.hid (fun W => checkRing_any V.length x W (by omega))
  obtain ⟨a, c, rfl, -, -, -⟩ := hv
  have BB := Lib.hid (below_made w (.cells #[.slice a V.length c] 22))
  have c0 := cell_of_one (heap_alloc_new w (.cells #[.slice a V.length c] 22))
  obtain ⟨n, hN⟩ : ∃ n, n = V.length := ⟨_, rfl⟩
  rw [← hN] at HCk BB c0 hb ⊢
  clear hN hn
  by_cases hc : ck n x = 0
  · have hm : m < 0 := by
      apply Decidable.byContradiction
      intro h
      exact hb (by rw [bk, if_pos hc, if_neg h])
    have E := Lib.hid (show bk n x m = 2 by rw [bk, if_pos hc, if_pos hm])
    rw [hc] at HCk
    clear hc hb
    rw [E.out]
    go_enter Try.func17, Try.ntmps17
    go_wp2_with (go_at_call 27; refine (HCk.out _).mono ?_; rintro e w' ⟨rfl, rfl⟩)
    go_ret3
    exact ⟨rfl, BB.out⟩
  · have E := Lib.hid (show bk n x m = ck n x by rw [bk, if_neg hc])
    rw [E.out]
    obtain ⟨z, hz⟩ : ∃ z, z = ck n x := ⟨_, rfl⟩
    rw [← hz] at hc HCk ⊢
    have hz2 : (z != 0) = true := by simp [hc]
    have hz3 : (z == 0) = false := by simp [hc]
    clear hc hb hz E
    go_enter Try.func17, Try.ntmps17
    go_wp2_with (go_at_call 27; refine (HCk.out _).mono ?_; rintro e w' ⟨rfl, rfl⟩)
    go_ret3
    exact ⟨rfl, BB.out⟩
end Go.Proofs.Ythokagcjbaibfaa.Cha
