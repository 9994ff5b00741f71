/- A watch in the middle of a walk; looks, byte by byte. -/
import Derived.Test.YtnpnigeghhcncaaWatQ
import Derived.Deep.RegionHeld3
namespace Go.Proofs.Ytnpnigeghhcncaa.Wat
open Go.RowKit Num Arn
set_option linter.unusedVariables false

/-- The watch stands, and what lay before the walk lies as it lay. -/
structure MidW (w W : World) (h : Hw) (x : List Int) (lk ft : Nat) : Prop where
  wa : WaC h W (.pointer (some ⟨h.g, 0, none⟩)) x lk ft
  bel : Below w.heap.size w W
theorem MidW.below {w W W' : World} {h : Hw} {x : List Int} {lk ft : Nat} (m : MidW w W h x lk ft) (hb : Below W.heap.size W W') : MidW w W' h x lk ft := ⟨m.wa.below hb, m.bel.trans (hb.mono m.bel.size)⟩
theorem MidW.fr {w W W' : World} {h : Hw} {x x' : List Int} {lk ft lk' ft' : Nat} (m : MidW w W h x lk ft) (K : ∀ k, blkW h k → w.heap.size ≤ k) (hw : WaC h W' (.pointer (some ⟨h.g, 0, none⟩)) x' lk' ft') (hf : Fr W.heap.size (blkW h) W W') : MidW w W' h x' lk' ft' :=
  ⟨hw, m.bel.trans (hf.toBelow m.bel.size (fun k hk hh => by have := K k hh; omega))⟩
theorem MidW.mark {w W : World} {h : Hw} {x : List Int} {lk ft : Nat} (m : MidW w W h x lk ft) (K : ∀ k, blkW h k → w.heap.size ≤ k) (a n k : Int) (h64 : is64 a) :
    Calls Try.prog 17 #[.pointer (some ⟨h.g, 0, none⟩), .int .i64 a, .int .i64 n, .int .i64 k] W fun e w' => e = .returned (.int .i64 (mrkA x a n k).2) ∧ MidW w w' h (mrkA x a n k).1 lk ft := by
  refine (mark_any h _ x lk ft a n k W m.wa h64).mono ?_
  rintro e w' ⟨rfl, hw, hf⟩
  exact ⟨rfl, m.fr K hw hf⟩
theorem MidW.look {w W : World} {h : Hw} {x : List Int} {lk ft : Nat} (m : MidW w W h x lk ft) (K : ∀ k, blkW h k → w.heap.size ≤ k) (a n k : Int) (h64 : is64 a) (h1 : lk ≤ 1000000) (h2 : ft ≤ 1000000) :
    Calls Try.prog 11 #[.pointer (some ⟨h.g, 0, none⟩), .int .i64 a, .int .i64 n, .int .i64 k] W fun e w' => e = .returned (.bool (lookA x a n k)) ∧ MidW w w' h x (lk + 1) (if lookA x a n k then ft else ft + 1) := by
  refine (look_any h _ x lk ft a n k W m.wa h64 h1 h2).mono ?_
  rintro e w' ⟨rfl, hw, hf⟩
  exact ⟨rfl, m.fr K hw hf⟩
theorem MidW.kind {w W : World} {h : Hw} {x : List Int} {lk ft : Nat} (m : MidW w W h x lk ft) (a n : Int) (h64 : is64 a) :
    Calls Try.prog 13 #[.pointer (some ⟨h.g, 0, none⟩), .int .i64 a, .int .i64 n] W fun e w' => e = .returned (.int .i64 (kndA x a n)) ∧ MidW w w' h x lk ft := by
  refine (kind_any h _ x lk ft a n W m.wa h64).mono ?_
  rintro e w' ⟨rfl, hb⟩
  exact ⟨rfl, m.below hb⟩
theorem MidW.sum {w W : World} {h : Hw} {x : List Int} {lk ft : Nat} (m : MidW w W h x lk ft) (k : Int) :
    Calls Try.prog 15 #[.pointer (some ⟨h.g, 0, none⟩), .int .i64 k] W fun e w' => e = .returned (.int .i64 (cntA x k : Int)) ∧ MidW w w' h x lk ft := by
  refine (sum_any h _ x lk ft k W m.wa).mono ?_
  rintro e w' ⟨rfl, hb⟩
  exact ⟨rfl, m.below hb⟩
theorem MidW.looks {w W : World} {h : Hw} {x : List Int} {lk ft : Nat} (m : MidW w W h x lk ft) : Calls Try.prog 19 #[.pointer (some ⟨h.g, 0, none⟩)] W fun e w' => e = .returned (.int .i64 (lk : Int)) ∧ W = w' := looks_any h _ x lk ft W m.wa
theorem MidW.faults {w W : World} {h : Hw} {x : List Int} {lk ft : Nat} (m : MidW w W h x lk ft) : Calls Try.prog 20 #[.pointer (some ⟨h.g, 0, none⟩)] W fun e w' => e = .returned (.int .i64 (ft : Int)) ∧ W = w' := faults_any h _ x lk ft W m.wa

theorem look_iff (x : List Int) (a n k : Int) (hk : k ≠ 0) (hw : isW n = true) (ha : 0 ≤ a) : lookA x a n k = true ↔ a % n = 0 ∧ ∀ j : Nat, (j : Int) < n → kndA x (a + (j : Int)) 1 = k := by
  obtain ⟨p, rfl⟩ := Int.eq_ofNat_of_zero_le ha
  obtain ⟨b1, b2⟩ := isW_bd hw
  obtain ⟨q, rfl⟩ := Int.eq_ofNat_of_zero_le (show 0 ≤ n by omega)
  have hq : 0 < q := by omega
  have hl : lookA x p q k = true ↔ (fitB x.length p q = true ∧ (p : Int) % q = 0 ∧ kndA x p q = k) := by
    unfold lookA
    rw [hw]
    simp [hk]
  rw [hl]
  constructor
  · rintro ⟨hf, hd, hkn⟩
    refine ⟨hd, fun j hj => ?_⟩
    obtain ⟨p', q', e1, e2, hpq⟩ := fitB_nat hf
    have hpq2 : p + q ≤ x.length := by omega
    rw [kndA, if_pos hf, Int.toNat_natCast, Int.toNat_natCast] at hkn
    unfold kndS at hkn
    split at hkn
    · rename_i hs
      obtain ⟨-, hs⟩ := hs
      have hyl : ((x.drop p).take q).length = q := by rw [List.length_take, List.length_drop]; omega
      have h1 := hs j (by rw [hyl]; omega)
      rw [hkn, part_get x p q j (by omega)] at h1
      rw [kndA_one, if_pos (by omega), show ((p : Int) + (j : Int)).toNat = p + j by omega]
      exact h1
    · exact absurd hkn.symm hk
  · rintro ⟨hd, hall⟩
    have hfit : p + q ≤ x.length := by
      have h1 := hall (q - 1) (by omega)
      rw [kndA_one] at h1
      split at h1
      · omega
      · exact absurd h1.symm hk
    have hall2 : ∀ j, j < q → x.getD (p + j) 0 = k := fun j hj => by
      have h1 := hall j (by omega)
      rw [kndA_one, if_pos (by omega), show ((p : Int) + (j : Int)).toNat = p + j by omega] at h1
      exact h1
    refine ⟨fitB_of hfit, hd, ?_⟩
    have hyl : ((x.drop p).take q).length = q := by rw [List.length_take, List.length_drop]; omega
    rw [kndA, if_pos (fitB_of hfit), Int.toNat_natCast, Int.toNat_natCast]
    have h0 : ((x.drop p).take q).getD 0 0 = k := by
      rw [part_get x p q 0 hq]
      exact hall2 0 hq
    rw [kndS, if_pos, h0]
    refine ⟨fun e => by rw [e] at hyl; simp at hyl; omega, fun j hj => ?_⟩
    rw [hyl] at hj
    rw [h0, part_get x p q j hj, hall2 j hj]
theorem look_out {x : List Int} {a n k : Int} (h : a < 0 ∨ (x.length : Int) ≤ a) (hn : 1 ≤ n) : lookA x a n k = false := by
  have : fitB x.length a n = false := by
    simp [fitB]
    omega
  simp [lookA, this]
end Go.Proofs.Ytnpnigeghhcncaa.Wat
