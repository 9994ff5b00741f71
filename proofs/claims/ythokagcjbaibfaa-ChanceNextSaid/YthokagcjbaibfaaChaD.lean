/- Contracts of chance: Order, Broom. -/
import Derived.Test.YthokagcjbaibfaaChaC
import Derived.Laws.EntriesVeiled
namespace Go.Proofs.Ythokagcjbaibfaa.Cha
open Go.RowKit
set_option linter.unusedVariables false

theorem order1_any (u v : Value) (U V : List Bool) (i b1 b2 b3 : Nat) (w : World) (h1 : w.heap[b1]? = some (.cells #[u] 22 (0, 0))) (h2 : w.heap[b2]? = some (.cells #[v] 22 (0, 0)))
    (h3 : w.heap[b3]? = some (.cells #[stF b1 b2] 48 (0, 0))) (hu : BRow w u U) (hv : BRow w v V) (hi : i < U.length) (hl : U.length = V.length) (hn : U.length ≤ 100000) :
    Calls Try.prog 26 #[.int .i64 (i : Int), .pointer (some ⟨b3, 0, none⟩)] w fun e w' => e = .returned (.bool (!st U V i)) ∧ w = w' := by
  have HS := Lib.hid (staying1_any u v U V i b1 b2 w h1 h2 hu hv hi hl hn)
  have c3 := cell_of_one h3
  unfold stF at c3
  obtain ⟨x, hx⟩ : ∃ x, x = st U V i := ⟨_, rfl⟩
  rw [← hx] at HS ⊢
  clear hx h1 h2 h3 hu hv
  go_enter Try.func26, Try.ntmps26
  go_wp2_with (refine HS.out.mono ?_; rintro e w' ⟨rfl, rfl⟩)
  go_ret
  exact ⟨rfl, rfl⟩

theorem order_bad (u v : Value) (U V : List Bool) (x : Int) (w : World) (hu : BRow w u U) (hv : BRow w v V) (hn : U.length ≤ 1000) (hb : ¬ ckU U.length V.length x = 0) :
    Calls Try.prog 14 #[u, v, .int .i64 x] w fun e w' => e = .returned (.tuple #[.slice none 0 0, .int .i64 (ckU U.length V.length x)]) ∧ w = w' := by
  have HC := Lib.hid (check_any u v U V x w hu hv (by omega))
  obtain ⟨a, c, rfl, -, -, -⟩ := hu
  obtain ⟨a2, c2, rfl, -, -, -⟩ := hv
  obtain ⟨n, hn⟩ : ∃ n, n = U.length := ⟨_, rfl⟩
  obtain ⟨m, hm⟩ : ∃ m, m = V.length := ⟨_, rfl⟩
  rw [← hn, ← hm] at HC hb ⊢
  obtain ⟨z, hz⟩ : ∃ z, z = ckU n m x := ⟨_, rfl⟩
  rw [← hz] at HC hb ⊢
  have hz2 : (z != 0) = true := by simp [hb]
  have hz3 : (z == 0) = false := by simp [hb]
  clear hn hm hz hb
  go_enter Try.func14, Try.ntmps14
  go_wp2_with (go_at_call 19; refine HC.out.mono ?_; rintro e w' ⟨rfl, rfl⟩)
  go_ret2
  exact ⟨rfl, rfl⟩

theorem boxes3 (w : World) (x y z : Value) :
    let W := ((w.alloc (.cells #[x] 22)).alloc (.cells #[y] 22)).alloc (.cells #[z] 48)
    W.heap[w.heap.size]? = some (.cells #[x] 22 (0, 0)) ∧ W.heap[w.heap.size + 1]? = some (.cells #[y] 22 (0, 0)) ∧ W.heap[w.heap.size + 2]? = some (.cells #[z] 48 (0, 0)) ∧ Below w.heap.size w W := by
  obtain ⟨b1, b2, b3⟩ := boxes w x y
  have hs1 : (w.alloc (.cells #[x] 22)).heap.size = w.heap.size + 1 := Array.size_push _
  have hs : ((w.alloc (.cells #[x] 22)).alloc (.cells #[y] 22)).heap.size = w.heap.size + 1 + 1 := (Array.size_push _).trans (congrArg (· + 1) hs1)
  have h3 := heap_alloc_new ((w.alloc (.cells #[x] 22)).alloc (.cells #[y] 22)) (.cells #[z] 48)
  rw [hs] at h3
  intro W
  exact ⟨(Below.heap_alloc _ _ _ (by omega)).trans b1, (Below.heap_alloc _ _ _ (by omega)).trans b2, h3, b3.alloc (by omega) _⟩

set_option maxRecDepth 100000 in
set_option maxHeartbeats 1000000 in
theorem order_ok (u v : Value) (U V : List Bool) (h : Nat) (w : World) (hu : BRow w u U) (hv : BRow w v V) (hn : U.length ≤ 1000) (hl : U.length = V.length) (hh : h < U.length) :
    Calls Try.prog 14 #[u, v, .int .i64 (h : Int)] w fun e w' => ∃ y, e = .returned (.tuple #[y, .int .i64 0]) ∧ Below w.heap.size w w' ∧ Row .i64 w' y (ints (ord U V h)) := by
  obtain ⟨i0, hi, hz0, hz1, hz2⟩ := info_parts infoI64
  have hck : ckU U.length V.length (h : Int) = 0 := by rw [ckU, if_pos hl, ck, if_neg (by omega), if_neg (by omega)]
  have HC := Lib.hid (check_any u v U V h w hu hv (by omega))
  rw [hck] at HC
  have HRd := Lib.hid (fun W => round_any U.length h W hh (by omega))
  obtain ⟨a, c, rfl, hc1, hc2, -⟩ := id hu
  obtain ⟨a2, c2, rfl, hc3, hc4, -⟩ := id hv
  have HU := Lib.hid hu
  have HV := Lib.hid hv
  clear hck hu hv
  have HP1 : Hid (∀ w1 u1 W, Row .i64 w1 u1 (ints (rnd U.length h)) → Below w.heap.size w w1 → Below w1.heap.size w1 W → W.heap[w1.heap.size]? = some (.cells #[.slice a U.length c] 22 (0, 0)) → W.heap[w1.heap.size + 1]? = some (.cells #[.slice a2 V.length c2] 22 (0, 0)) → W.heap[w1.heap.size + 2]? = some (.cells #[stF w1.heap.size (w1.heap.size + 1)] 48 (0, 0)) →
      Calls Try.prog 25 #[u1, .func (.func 26) #[] #[.pointer (some ⟨w1.heap.size + 2, 0, none⟩)]] W fun e w' => ∃ y, e = .returned y ∧ Below W.heap.size W w' ∧
        w'.ownsRow W.heap.size 3 1 y ((rnd U.length h).filter (fun i => !st U V i)).length (vals64 (ints ((rnd U.length h).filter (fun i => !st U V i))))) := by
    intro w1 u1 W hr hb hb2 h1 h2 h3
    exact chosen_any _ _ (rnd U.length h) (fun i => !st U V i) u1 _ (hr.mono hb2 (Nat.le_refl _)) (by rw [rnd_length]; omega) (fun x hx => by have := rnd_lt (by omega) hx; omega) enters_or (fun i hi W2 hW2 => by
      have l1 := (Array.getElem?_eq_some_iff.1 h1).1
      have l2 := (Array.getElem?_eq_some_iff.1 h2).1
      have l3 := (Array.getElem?_eq_some_iff.1 h3).1
      exact order1_any _ _ U V i _ _ _ _ ((hW2.block _ l1).trans h1) ((hW2.block _ l2).trans h2) ((hW2.block _ l3).trans h3) (HU.out.mono (hb.trans ((hb2.trans (hW2.mono hb2.size)).mono hb.size)) (Nat.le_refl _)) (HV.out.mono (hb.trans ((hb2.trans (hW2.mono hb2.size)).mono hb.size)) (Nat.le_refl _)) (rnd_lt (by omega) hi) hl (by omega))
  have HP2 : Hid (∀ w1 u1 W, Row .i64 w1 u1 (ints (rnd U.length h)) → Below w.heap.size w w1 → Below w1.heap.size w1 W → W.heap[w1.heap.size]? = some (.cells #[.slice a U.length c] 22 (0, 0)) → W.heap[w1.heap.size + 1]? = some (.cells #[.slice a2 V.length c2] 22 (0, 0)) →
      Calls Try.prog 25 #[u1, stF w1.heap.size (w1.heap.size + 1)] W fun e w' => ∃ y, e = .returned y ∧ Below W.heap.size W w' ∧ Row .i64 w' y (ints ((rnd U.length h).filter (st U V)))) := by
    intro w1 u1 W hr hb hb2 h1 h2
    refine (chosen_any _ _ (rnd U.length h) (st U V) u1 _ (hr.mono hb2 (Nat.le_refl _)) (by rw [rnd_length]; omega) (fun x hx => by have := rnd_lt (by omega) hx; omega) enters_st (fun i hi W2 hW2 => by
      have l1 := (Array.getElem?_eq_some_iff.1 h1).1
      have l2 := (Array.getElem?_eq_some_iff.1 h2).1
      exact staying1_any _ _ U V i _ _ _ ((hW2.block _ l1).trans h1) ((hW2.block _ l2).trans h2) (HU.out.mono (hb.trans ((hb2.trans (hW2.mono hb2.size)).mono hb.size)) (Nat.le_refl _)) (HV.out.mono (hb.trans ((hb2.trans (hW2.mono hb2.size)).mono hb.size)) (Nat.le_refl _)) (rnd_lt (by omega) hi) hl (by omega))).mono fun e w' ⟨y, q1, q2, q3⟩ => ⟨y, q1, q2, row64_of_owns q3 (ints_length _) (ints_wf (fun x hx => ?_))⟩
    have := rnd_lt (by omega) (List.mem_filter.1 hx).1
    omega
  have HL : Hid (((rnd U.length h).filter (fun i => !st U V i)).length + ((rnd U.length h).filter (st U V)).length = U.length) := by
    have := filter_parts (st U V) (rnd U.length h)
    rw [rnd_length] at this
    exact this
  have HO : Hid (ints ((rnd U.length h).filter (fun i => !st U V i)) ++ ints ((rnd U.length h).filter (st U V)) = ints (ord U V h)) := by rw [← ints_app]; rfl
  have HOl := Lib.hid (ord_length U V h)
  have HOb : Hid (∀ x ∈ ord U V h, x ≤ 1000000) := fun x hx => by have := ord_lt hh hx; omega
  obtain ⟨X, hX⟩ : ∃ X, X = (rnd U.length h).filter (fun i => !st U V i) := ⟨_, rfl⟩
  obtain ⟨Y, hY⟩ : ∃ Y, Y = (rnd U.length h).filter (st U V) := ⟨_, rfl⟩
  rw [← hX] at HP1 HL HO
  rw [← hY] at HP2 HL HO
  obtain ⟨R, hR⟩ : ∃ R, R = rnd U.length h := ⟨_, rfl⟩
  rw [← hR] at HP1 HP2 HRd
  obtain ⟨Z, hZ⟩ : ∃ Z, Z = ord U V h := ⟨_, rfl⟩
  rw [← hZ] at HO HOl HOb ⊢
  obtain ⟨n, hN⟩ : ∃ n, n = U.length := ⟨_, rfl⟩
  obtain ⟨m, hM⟩ : ∃ m, m = V.length := ⟨_, rfl⟩
  rw [← hN] at HC HRd HP1 HP2 HL HOl hn ⊢
  rw [← hM] at HC HP1 HP2 ⊢
  clear hX hY hZ hR hN hM HU HV hl hh hc1 hc3
  go_enter Try.func14, Try.ntmps14
  go_wp2_with (go_at_call 19; refine HC.out.mono ?_; rintro e w' ⟨rfl, rfl⟩)
  refine (HRd.out _).mono ?_
  rintro e w1 ⟨u1, rfl, hb1, hr1⟩
  have HB1 := Lib.hid hb1
  have HR1 := Lib.hid hr1
  clear hb1 hr1
  go_wp2_with fail
  refine (staying_any _ _ _ _ _ _ _).mono ?_
  rintro e w2 ⟨rfl, rfl⟩
  rw [stF]
  obtain ⟨s1, s2, s3, s4⟩ := boxes3 w1 (.slice a n c) (.slice a2 m c2) (stF w1.heap.size (w1.heap.size + 1))
  rw [stF] at s1 s2 s3 s4
  have S1 := Lib.hid s1
  have S2 := Lib.hid s2
  have S3 := Lib.hid s3
  have S4 := Lib.hid s4
  clear s1 s2 s3 s4
  go_wp2_with fail
  obtain ⟨W3, hW3⟩ : ∃ W3, W3 = ((w1.alloc (.cells #[.slice a n c] 22)).alloc (.cells #[.slice a2 m c2] 22)).alloc (.cells #[.func (.func 30) #[] #[.pointer (some ⟨w1.heap.size, 0, none⟩), .pointer (some ⟨w1.heap.size + 1, 0, none⟩)]] 48) := ⟨_, rfl⟩
  rw [← hW3] at S1 S2 S3 S4 ⊢
  clear hW3
  refine (HP1.out w1 u1 W3 HR1.out HB1.out S4.out S1.out S2.out S3.out).mono ?_
  rintro e w4 ⟨y4, rfl, hb4, ho4⟩
  have HB4 := Lib.hid hb4
  have HO4 := Lib.hid ho4
  have HB14 : Hid (Below w1.heap.size w1 w4) := S4.out.trans (hb4.mono S4.out.size)
  have l1 := (Array.getElem?_eq_some_iff.1 S1.out).1
  have l2 := (Array.getElem?_eq_some_iff.1 S2.out).1
  have l3 := (Array.getElem?_eq_some_iff.1 S3.out).1
  have T1 := Lib.hid ((hb4.block _ l1).trans S1.out)
  have T2 := Lib.hid ((hb4.block _ l2).trans S2.out)
  have c3 := cell_of_one ((hb4.block _ l3).trans S3.out)
  have HQ := Lib.hid (HP2.out w1 u1 w4 HR1.out HB1.out HB14.out T1.out T2.out)
  rw [stF] at HQ
  clear hb4 ho4 l1 l2 l3
  go_wp2_with fail
  refine HQ.out.mono ?_
  rintro e w5 ⟨y5, rfl, hb5, hr5⟩
  have HB5 := Lib.hid hb5
  have HR5 := Lib.hid hr5
  have HO5 := Lib.hid (ownsRow_stays HO4.out hb5)
  have hsz : W3.heap.size ≤ w5.heap.size := Nat.le_trans HB4.out.size hb5.size
  clear hb5 hr5
  go_wp2_with (refine wpList_append_ints _ rfl (.tmp 29) (.tmp 32) 32 rfl W3.heap.size 3 i0 (.int .i64 0) Try.underlying32 hi hz0 hz1 hz2 rfl y4 X.length (ints X) rfl HO5.out y5 (ints Y) rfl HR5.out (by rw [ints_length]; have := HL.out; omega) hsz ?_)
  intro v6 w6 ho6 hg6 _
  have HB6 : Hid (Below w.heap.size w w6) := (HB1.out.trans ((HB14.out.trans (HB5.out.mono HB14.out.size)).mono HB1.out.size)).grown hg6 (Nat.le_trans HB1.out.size (Nat.le_trans HB14.out.size HB5.out.size)) (fun r hr => by have := (HO5.out.lt r hr).1; have := S4.out.size; have := HB1.out.size; omega)
  rw [HO.out, ints_length, HL.out] at ho6
  have HR6 := Lib.hid (row64_of_owns ho6 (by rw [ints_length, HOl.out]) (ints_wf HOb.out))
  clear ho6 hg6
  go_wp2
  go_ret2
  exact ⟨_, rfl, HB6.out, HR6.out⟩
end Go.Proofs.Ythokagcjbaibfaa.Cha
