/- The landed slab.Block. Contracts of slab: Live, Room; how many blocks are live; places of acts. Contracts of slab's free blocks: what is loaded of them, their heads. Places of acts. -/
import Derived.Test.YthnjpmgfikhemaaGreatDoorJ18
import Derived.Test.YthnjpmgfikhemaaGreatDoorJ14
import Derived.Lib.IndexMore
import Derived.Lib.IndexBytes
namespace Go.Proofs.YthnjpmgfikhemaaGreatDoor.Sla
open Go.RowKit Num
open Mem (Mm MemC MRet Hm rd blkM)
open Lis (Cf LM LR Tb at_ Nx Pv Rep Hx valsN)
open Cls (szC blC pdC)
open Arn (wrL is64)
set_option linter.unusedVariables false

section
variable {h : Hm} {S N : Nat} {l0 l l' : List Int} {H H' : List Hx} {L L' : List Int} {T T' : List Sl} {w W W' : World} {r : Value} {e : Ending}
/-! ### The landed Block -/
end
end Go.Proofs.YthnjpmgfikhemaaGreatDoor.Sla

namespace Go.Proofs.YthnjpmgfikhemaaGreatDoor.Sla
open Go.RowKit Num
open Mem (Mm MemC MRet Hm rd blkM)
open Lis (Cf LM LR Tb at_ Nx Pv Rep Hx valsN)
open Cls (szC blC pdC)
open Arn (wrL is64)
set_option linter.unusedVariables false

theorem wrap_ok {n : Int} (h1 : -9223372036854775808 ≤ n) (h2 : n ≤ 9223372036854775807) : IntKind.i64.wrap n = n := by simp [IntKind.wrap, IntKind.bits, IntKind.signed]; omega
section
variable {h : Hm} {S N : Nat} {l0 l l' : List Int} {T T' : List Sl} {w W W' : World}
theorem sl_live (d : St h S N l0 l T W) {j : Nat} (hj : j < S) : Calls Tryz.prog 17 #[pV h, .int .i64 (j : Int)] W fun e W' => ∃ u, e = .returned u ∧ St h S N l0 l T W' ∧ Fr W.heap.size (blkM h) W W' ∧ Row .i64 W' u (Lis.ints (kpA S N j (T.getD j Sl.zero) 5)) ∧ ∀ b, u.ownBlock = some b → W.heap.size ≤ b := by
  obtain ⟨H, L, d1, d2⟩ := d
  have HA := Lib.hid (d1.having hj (d2.hc j hj) 5)
  unfold pV at *
  go_enter Tryz.func17, Tryz.ntmps17
  go_wp2_with fail
  refine HA.out.mono ?_
  rintro e w1 ⟨u, ⟨rfl, q1, q2⟩, q3, q4⟩
  have HQ := Lib.hid (show St h S N l0 l T w1 from ⟨H, L, q1, d2⟩)
  have HQ2 := Lib.hid q2
  have HQ3 := Lib.hid q3
  clear q1 q2 q3 d1 d2 HA
  go_wp2
  go_ret
  exact ⟨u, rfl, HQ.out, HQ2.out, HQ3.out, q4⟩
/-- How many free blocks the first slabs have of a class. -/
def rmF (T : List Sl) (c : Int) : Nat → Nat
  | 0 => 0
  | k + 1 => rmF T c k + if ((T.getD k Sl.zero).c : Int) = c then (T.getD k Sl.zero).f.length else 0
theorem v_le (s : Sl) (h : s.Ok) : s.v.length ≤ 32 ∧ s.f.length ≤ 32 := by
  have h1 := h.len
  have h2 : blC (s.c : Int) ≤ 32 := by
    rcases Nat.eq_zero_or_pos (blC (s.c : Int)) with e | e
    · omega
    · obtain ⟨-, g2, g3⟩ := bl_in e
      have g4 := Nat.mul_le_mul_left (blC (s.c : Int)) g3
      omega
  omega
theorem rmF_le (hT : ∀ j, j < S → (T.getD j Sl.zero).Ok) (c : Int) : ∀ k, k ≤ S → rmF T c k ≤ 32 * k
  | 0, _ => Nat.le_refl _
  | k + 1, h => by
    have := rmF_le hT c k (by omega)
    have := (v_le _ (hT k (by omega))).2
    rw [rmF]
    split <;> omega
set_option maxRecDepth 100000 in
set_option maxHeartbeats 1000000 in
theorem room_any (d : St h S N l0 l T w) (c : Int) : Calls Tryz.prog 18 #[pV h, .int .i64 c] w fun e W' => e = .returned (.int .i64 (rmF T c S : Int)) ∧ St h S N l0 l T W' ∧ Fr w.heap.size (blkM h) w W' := by
  have htl := d.tl
  have HLe := Lib.hid (rmF_le (S := S) (T := T) (fun j hj => d.ok hj) c)
  have HOk : Hid (∀ j, j < S → (T.getD j Sl.zero).f.length ≤ 32) := fun j hj => (v_le _ (d.ok hj)).2
  have hCf : ∀ W, St h S N l0 l T W → Calls Tryz.prog 54 #[pV h] W fun e W' => e = .returned (.agg #[.int .i64 (S : Int), .int .i64 (N : Int)]) ∧ Below W.heap.size W W' := fun W d => by
    obtain ⟨H, L, d1, d2⟩ := d
    exact d1.config
  have hCo : ∀ W (j : Nat), St h S N l0 l T W → j < S → Calls Tryz.prog 55 #[pV h, .int .i64 (j : Int)] W fun e W' => e = .returned (.int .i64 ((T.getD j Sl.zero).c : Int)) ∧ St h S N l0 l T W' ∧ Fr W.heap.size (blkM h) W W' := fun W j d hj => by
    obtain ⟨H, L, d1, d2⟩ := d
    refine (d1.classOf hj).mono ?_
    rintro e W' ⟨rfl, q1, q2⟩
    rw [d2.hc j hj]
    exact ⟨rfl, ⟨H, L, q1, d2⟩, q2⟩
  have hHv : ∀ W (j : Nat), St h S N l0 l T W → j < S → Calls Tryz.prog 53 #[pV h, .int .i64 (j : Int), .int .i64 6] W fun e W' => ∃ p c, e = .returned (.slice p (T.getD j Sl.zero).f.length c) ∧ St h S N l0 l T W' ∧ Fr W.heap.size (blkM h) W W' := fun W j d hj => by
    have hok := d.ok hj
    obtain ⟨H, L, d1, d2⟩ := d
    refine (d1.having hj (d2.hc j hj) 6).mono ?_
    rintro e W' ⟨u, ⟨rfl, q1, q2⟩, q3, -⟩
    obtain ⟨p, c, rfl, -⟩ := q3
    have e6 : (Lis.ints (kpA S N j (T.getD j Sl.zero) 6)).length = (T.getD j Sl.zero).f.length := by
      rw [Lis.ints_length, ← kp6_len hok]
      unfold kpA
      rw [List.length_map]
    rw [e6]
    exact ⟨p, c, rfl, ⟨H, L, q1, d2⟩, q2⟩
  have HD := Lib.hid d
  unfold pV at *
  have HCf := Lib.hid hCf
  have HCo := Lib.hid hCo
  have HHv := Lib.hid hHv
  have hS : S ≤ 64 := htl.2.2
  have hfld := Lis.field_cfg S N
  clear d hCf hCo hHv htl
  go_enter Tryz.func18, Tryz.ntmps18
  go_wp2_with fail
  refine (HCf.out _ HD.out).mono ?_
  rintro e w1 ⟨rfl, hb1⟩
  have HD1 := Lib.hid (HD.out.below hb1)
  have HF1 : Hid (Fr w.heap.size (blkM h) w w1) := Fr.of_below hb1
  clear hb1 HD
  go_wp2
  go_loopw [5, 10] (fun n i wr => ∃ k : Nat, k ≤ S ∧ i = .int .i64 k ∧ n = .int .i64 (rmF T c k : Int) ∧ Hid (St h S N l0 l T wr) ∧ Hid (Fr w.heap.size (blkM h) w wr)) (fun _ i _ => S - (intOf i).toNat)
  case atStart => exact ⟨0, Nat.zero_le _, rfl, rfl, HD1.out, HF1.out⟩
  case round =>
    clear HD1 HF1
    obtain ⟨k, hk, rfl, rfl, HS, HF⟩ := hrel
    by_cases hlt : k < S
    · have hlt1 : (k : Int) < (S : Int) := by omega
      have hl := HLe.out k hk
      have he : Hid (rmF T c (k + 1) = rmF T c k + if ((T.getD k Sl.zero).c : Int) = c then (T.getD k Sl.zero).f.length else 0) := rfl
      have HC := Lib.hid (HCo.out wr k HS.out hlt)
      have HV := Lib.hid (fun W d => HHv.out W k d hlt)
      have hb32 := HOk.out k hlt
      obtain ⟨a, ha⟩ : ∃ a, a = rmF T c k := ⟨_, rfl⟩
      obtain ⟨b, hb⟩ : ∃ b, b = (T.getD k Sl.zero).f.length := ⟨_, rfl⟩
      obtain ⟨g, hg⟩ : ∃ g : Int, g = ((T.getD k Sl.zero).c : Int) := ⟨_, rfl⟩
      rw [← ha] at hl ⊢
      rw [← hb] at HV hb32
      rw [← ha, ← hb, ← hg] at he
      rw [← hg] at HC
      have hw : IntKind.i64.wrap ((a : Int) + (b : Int)) = ((a + b : Nat) : Int) := (wrap_ok (by omega) (by omega)).trans (by omega)
      clear ha hb hg
      go_wp2_with fail
      refine HC.out.mono ?_
      rintro e w1 ⟨rfl, q1, q2⟩
      have HS1 := Lib.hid q1
      have HF1 := Lib.hid (HF.out.trans (q2.mono HF.out.size (fun _ _ q => q)))
      clear q1 q2 HC HS HF
      by_cases hgc : g = c
      · subst hgc
        go_wp2_with fail
        refine (HV.out _ HS1.out).mono ?_
        rintro e w2 ⟨p, cc, rfl, q1, q2⟩
        have HS2 := Lib.hid q1
        have HF2 := Lib.hid (HF1.out.trans (q2.mono HF1.out.size (fun _ _ q => q)))
        clear q1 q2 HS1 HF1
        go_wp2
        go_roundw
        case rel => exact ⟨k + 1, by omega, by go_num, by rw [he.out, if_pos trivial]; first | rfl | go_num, HS2.out, HF2.out⟩
        case measure => simp [intOf]; omega
      · have hgc2 : (g == c) = false := by simp [hgc]
        go_wp2
        go_roundw
        case rel => exact ⟨k + 1, by omega, by go_num, by rw [he.out, if_neg hgc]; first | rfl | go_num, HS1.out, HF1.out⟩
        case measure => simp [intOf]; omega
    · obtain rfl : k = S := by omega
      go_wp2
      go_ret
      exact ⟨rfl, HS.out, HF.out⟩
end
end Go.Proofs.YthnjpmgfikhemaaGreatDoor.Sla

namespace Go.Proofs.YthnjpmgfikhemaaGreatDoor.Sla
open Go.RowKit Num
open Mem (Mm MemC MRet Hm rd blkM)
open Lis (Cf LM LR Tb at_ Nx Pv Rep Hx valsN)
open Cls (szC blC pdC)
open Arn (wrL is64)
set_option linter.unusedVariables false

theorem sz16 (c : Int) : szC c % 16 = 0 := by
  unfold szC
  split
  · rename_i h
    rcases (show c = 1 ∨ c = 2 ∨ c = 3 ∨ c = 4 ∨ c = 5 ∨ c = 6 ∨ c = 7 ∨ c = 8 ∨ c = 9 by omega) with rfl | rfl | rfl | rfl | rfl | rfl | rfl | rfl | rfl <;> decide
  · rfl
theorem mul16 {a b : Nat} (h : b % 16 = 0) : (a * b) % 16 = 0 := by rw [Nat.mul_mod, h, Nat.mul_zero]
/-- Each free block is told by some link. -/
theorem Lks.fb {l : List Int} {A : Nat} {c : Int} : ∀ {f : List Nat}, Lks l A c f → ∀ k ∈ f, ∃ r : List Nat, FB l (pl A c k) (szC c) (lk A c r) ∧ (∀ x ∈ r, x ∈ f)
  | [], _, k, hk => by cases hk
  | j :: r, h, k, hk => by
    rcases List.mem_cons.1 hk with rfl | hk
    · exact ⟨r, h.1, fun x hx => by simp [hx]⟩
    · obtain ⟨r2, h1, h2⟩ := Lks.fb h.2 k hk
      exact ⟨r2, h1, fun x hx => by simp [h2 x hx]⟩
section
variable {h : Hm} {S N : Nat} {l0 l l' : List Int} {T T' : List Sl} {w W W' : World}
/-- What lies in a free block. -/
theorem St.free_at (d : St h S N l0 l T w) {j k : Nat} (hj : j < S) (hk : k ∈ (T.getD j Sl.zero).f) : ∃ nx : Nat, nx < 4294967296 ∧ FB l (pl (aT S N j) (T.getD j Sl.zero).c k) (szC (T.getD j Sl.zero).c) nx ∧ k < blC (T.getD j Sl.zero).c ∧ pl (aT S N j) (T.getD j Sl.zero).c k % 16 = 0 ∧ pl (aT S N j) (T.getD j Sl.zero).c k + szC (T.getD j Sl.zero).c ≤ l.length ∧ l.length ≤ 100000 := by
  obtain ⟨H, L, ⟨C, rfl, rfl, h3, h4, h5⟩, d2⟩ := d
  have hbs := ok_base h5.ok
  have hsl := h5.sl j hj
  have hlt := hsl.ok.lt k hk
  have hin := bl_in hlt
  obtain ⟨r, h1, h2⟩ := Lks.fb hsl.f k hk
  have hlk : lk (aT C.s C.n j) (T.getD j Sl.zero).c r ≤ 200000 := by
    cases r with
    | nil => show 0 ≤ _; omega
    | cons i r =>
      have := bl_in (hsl.ok.lt i (h2 i (by simp)))
      show pl _ _ i ≤ _
      unfold pl aT
      omega
  have hm := mul16 (a := k) (sz16 ((T.getD j Sl.zero).c : Int))
  exact ⟨_, by omega, h1, hlt, by unfold pl aT; omega, by rw [h5.ll]; unfold pl aT; omega, by rw [h5.ll]; omega⟩
end
end Go.Proofs.YthnjpmgfikhemaaGreatDoor.Sla

namespace Go.Proofs.YthnjpmgfikhemaaGreatDoor.Sla
open Go.RowKit Num
open Mem (Mm MemC MRet Hm rd blkM)
open Lis (Cf LM LR Tb at_ Nx Pv Nxe Pve Rep Hx valsN)
open Cls (szC blC pdC)
open Arn (wrL is64)
set_option linter.unusedVariables false
theorem place_any (yk yn : Int) (u : Value) (A : List Nat) (w : World) (hu : Row .i64 w u (Lis.ints A)) (hA : A.length ≤ 200) (hb : ∀ x ∈ A, x ≤ 100000) (h64 : is64 yn) :
    Calls Tryz.prog 10 #[.agg #[.int .i64 yk, .int .i64 yn], u] w fun e w' => ∃ a, e = .returned (.int .i64 a) ∧ is64 a ∧ Below w.heap.size w w' := by
  obtain ⟨p, cap, rfl, r2, r3, r4, r5⟩ := hu
  rw [Lis.ints_length] at *
  have hbm : Below w.heap.size w (w.alloc (.cells #[.int .i64 yk, .int .i64 yn] 34)) := below_made _ _
  by_cases h5 : yk = 5
  · subst h5
    go_enter Tryz.func10, Tryz.ntmps10
    go_wp2
    go_ret
    exact ⟨_, rfl, h64, hbm⟩
  by_cases hn : A = []
  · subst hn
    go_enter Tryz.func10, Tryz.ntmps10
    go_wp2
    go_ret
    exact ⟨_, rfl, h64, hbm⟩
  have hpos : (0 : Int) < (A.length : Int) := by
    have := List.length_pos_iff.2 hn
    omega
  have hz : ¬ ((A.length : Int) = 0) := by omega
  obtain ⟨rm, hrm⟩ : ∃ rm, rm = yn.tmod (A.length : Int) := ⟨_, rfl⟩
  have hb1 : -(A.length : Int) < rm ∧ rm < A.length := by
    rw [hrm]
    exact ⟨Int.lt_tmod_of_pos yn hpos, Int.tmod_lt_of_pos yn hpos⟩
  have hnz : ((A.length : Int) == 0) = false := by simp; omega
  obtain ⟨ab, aoff, rfl, hlt2, hcell2⟩ := r5 (by intro q; exact hn (List.map_eq_nil_iff.1 q))
  obtain ⟨kk, hkk, hcase⟩ : ∃ kk : Nat, kk < A.length ∧ ((rm = (kk : Int)) ∨ (rm = -(kk : Int) ∧ rm < 0)) := by
    by_cases h0 : rm < 0
    · exact ⟨(-rm).toNat, by omega, .inr ⟨by omega, h0⟩⟩
    · exact ⟨rm.toNat, by omega, .inl (by omega)⟩
  have hck := hcell2 kk hkk
  rw [Lis.ints_get] at hck
  have hx : is64 ((A.getD kk 0 : Nat) : Int) := by
    have hm : A.getD kk 0 ∈ A := by
      rw [List.getD, List.getElem?_eq_getElem hkk]
      exact List.getElem_mem _
    have := hb _ hm
    unfold is64
    omega
  generalize A.getD kk 0 = P at hck hx
  have hk0 : (0 : Int) ≤ (kk : Int) := by omega
  have hk1 : (kk : Int) < (A.length : Int) := by omega
  have hk1000 : kk < 1000 := by omega
  have hck2 := (hbm.cell (p := ⟨ab, aoff + kk, none⟩) (World.block_lt_of_cell? w _ hck)).trans hck
  clear hcell2 r2 r3 r4 r5 hn
  rcases hcase with rfl | ⟨rfl, hng⟩
  · have hq : yn.tmod (A.length : Int) = (kk : Int) := hrm.symm
    have hw2 := w_neg kk hk1000
    have hmx : max (kk : Int) (-(kk : Int)) = (kk : Int) := by omega
    clear hrm hb1
    go_enter Tryz.func10, Tryz.ntmps10
    go_wp2
    go_ret
    exact ⟨_, rfl, hx, hbm⟩
  · have hq : yn.tmod (A.length : Int) = -(kk : Int) := hrm.symm
    have hw2 := w_in kk hk1000
    have hnn : - -(kk : Int) = (kk : Int) := Int.neg_neg _
    have hmx : max (-(kk : Int)) (kk : Int) = (kk : Int) := by omega
    have hkp : (0 : Int) < (kk : Int) := by omega
    have hkn : 0 < kk := by omega
    have hlt3 : -(kk : Int) < (kk : Int) := by omega
    have hle3 : -(kk : Int) ≤ (kk : Int) := by omega
    have hlt4 : ¬ (kk : Int) < -(kk : Int) := by omega
    have hle4 : ¬ (kk : Int) ≤ -(kk : Int) := by omega
    clear hrm hb1 hng
    go_enter Tryz.func10, Tryz.ntmps10
    go_wp2
    go_ret
    exact ⟨_, rfl, hx, hbm⟩
end Go.Proofs.YthnjpmgfikhemaaGreatDoor.Sla
