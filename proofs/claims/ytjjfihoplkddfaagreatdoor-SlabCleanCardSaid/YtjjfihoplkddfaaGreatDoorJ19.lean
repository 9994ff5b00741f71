/- Contracts of slab: Live, Room; how many blocks are live; places of acts. Contracts of slab's free blocks: what is loaded of them, their heads. The landed slab.Block. -/
import Derived.Test.YtjjfihoplkddfaaGreatDoorJ18
import Derived.Test.YtjjfihoplkddfaaGreatDoorJ14
namespace Go.Proofs.YtjjfihoplkddfaaGreatDoor.Sla
open Go.RowKit Num
open Mem (Mm MemC MRet Hm rd blkM)
open Lis (Cf LM LR Tb at_ Nx Pv Rep Hx valsN)
open Cls (szC blC pdC)
open Arn (wrL is64)
set_option linter.unusedVariables false

theorem wrap_ok {n : Int} (h1 : -9223372036854775808 ≤ n) (h2 : n ≤ 9223372036854775807) : IntKind.i64.wrap n = n := by simp [IntKind.wrap, IntKind.bits, IntKind.signed]; omega
section
variable {h : Hm} {S N : Nat} {l0 l l' : List Int} {T T' : List Sl} {w W W' : World}
theorem sl_live (d : St h S N l0 l T W) {j : Nat} (hj : j < S) : Calls Tryz.prog 21 #[pV h, .int .i64 (j : Int)] W fun e W' => ∃ u, e = .returned u ∧ St h S N l0 l T W' ∧ Fr W.heap.size (blkM h) W W' ∧ Row .i64 W' u (Lis.ints (kpA S N j (T.getD j Sl.zero) 5)) ∧ ∀ b, u.ownBlock = some b → W.heap.size ≤ b := by
  obtain ⟨H, L, d1, d2⟩ := d
  have HA := Lib.hid (d1.having hj (d2.hc j hj) 5)
  unfold pV at *
  go_enter Tryz.func21, Tryz.ntmps21
  go_wp2_with fail
  refine HA.out.mono ?_
  rintro e w1 ⟨u, ⟨rfl, q1, q2⟩, q3, q4⟩
  have HQ := Lib.hid (show St h S N l0 l T w1 from ⟨H, L, q1, d2⟩)
  have HQ2 := Lib.hid q2
  have HQ3 := Lib.hid q3
  clear q1 q2 q3 d1 d2 HA
  go_wp2
  go_ret
  exact ⟨u, rfl, HQ.out, HQ2.out, HQ3.out, q4⟩
/-- How many blocks of the first slabs are live. -/
def lvF (T : List Sl) : Nat → Nat
  | 0 => 0
  | k + 1 => lvF T k + (T.getD k Sl.zero).v.length
/-- How many free blocks the first slabs have of a class. -/
def rmF (T : List Sl) (c : Int) : Nat → Nat
  | 0 => 0
  | k + 1 => rmF T c k + if ((T.getD k Sl.zero).c : Int) = c then (T.getD k Sl.zero).f.length else 0
theorem v_le (s : Sl) (h : s.Ok) : s.v.length ≤ 32 ∧ s.f.length ≤ 32 := by
  have h1 := h.len
  have h2 : blC (s.c : Int) ≤ 32 := by
    rcases Nat.eq_zero_or_pos (blC (s.c : Int)) with e | e
    · omega
    · obtain ⟨-, g2, g3⟩ := bl_in e
      have g4 := Nat.mul_le_mul_left (blC (s.c : Int)) g3
      omega
  omega
theorem lvF_le (hT : ∀ j, j < S → (T.getD j Sl.zero).Ok) : ∀ k, k ≤ S → lvF T k ≤ 32 * k
  | 0, _ => Nat.le_refl _
  | k + 1, h => by
    have := lvF_le hT k (by omega)
    have := (v_le _ (hT k (by omega))).1
    rw [lvF]
    omega
theorem rmF_le (hT : ∀ j, j < S → (T.getD j Sl.zero).Ok) (c : Int) : ∀ k, k ≤ S → rmF T c k ≤ 32 * k
  | 0, _ => Nat.le_refl _
  | k + 1, h => by
    have := rmF_le hT c k (by omega)
    have := (v_le _ (hT k (by omega))).2
    rw [rmF]
    split <;> omega
set_option maxRecDepth 100000 in
set_option maxHeartbeats 1000000 in
theorem lives_any (d : St h 7 N l0 l T w) : Calls Tryz.prog 29 #[pV h] w fun e W' => e = .returned (.int .i64 (lvF T 7 : Int)) ∧ St h 7 N l0 l T W' ∧ Fr w.heap.size (blkM h) w W' := by
  have hle := lvF_le (S := 7) (T := T) (fun j hj => d.ok hj)
  have HLe := Lib.hid hle
  have HD := Lib.hid d
  have HLv : Hid (∀ W (j : Nat), St h 7 N l0 l T W → j < 7 → Calls Tryz.prog 21 #[pV h, .int .i64 (j : Int)] W fun e W' => ∃ p c, e = .returned (.slice p (T.getD j Sl.zero).v.length c) ∧ St h 7 N l0 l T W' ∧ Fr W.heap.size (blkM h) W W') := fun W j d hj => by
    refine (sl_live d hj).mono ?_
    rintro e W' ⟨u, rfl, q1, q2, q3, -⟩
    obtain ⟨p, c, rfl, -⟩ := q3
    rw [Lis.ints_length, kpA5_len]
    exact ⟨p, c, rfl, q1, q2⟩
  unfold pV at *
  clear hle d
  go_enter Tryz.func29, Tryz.ntmps29
  go_wp2
  go_loopw [3, 4] (fun n i wr => ∃ k : Nat, k ≤ 7 ∧ i = .int .i64 k ∧ n = .int .i64 (lvF T k : Int) ∧ Hid (St h 7 N l0 l T wr) ∧ Hid (Fr w.heap.size (blkM h) w wr)) (fun _ i _ => 7 - (intOf i).toNat)
  case atStart => exact ⟨0, by omega, rfl, rfl, HD.out, Fr.refl _ _ _⟩
  case round =>
    obtain ⟨k, hk, rfl, rfl, HS, HF⟩ := hrel
    by_cases hlt : k < 7
    · have hlt1 : (k : Int) < 7 := by omega
      have hl := HLe.out k hk
      have hl2 := HLe.out (k + 1) (by omega)
      have he : Hid (lvF T (k + 1) = lvF T k + (T.getD k Sl.zero).v.length) := rfl
      have HC := Lib.hid (HLv.out wr k HS.out hlt)
      obtain ⟨a, ha⟩ : ∃ a, a = lvF T k := ⟨_, rfl⟩
      obtain ⟨b, hb⟩ : ∃ b, b = (T.getD k Sl.zero).v.length := ⟨_, rfl⟩
      rw [he.out, ← ha, ← hb] at hl2
      rw [← ha] at hl ⊢
      rw [← hb] at HC
      rw [← ha, ← hb] at he
      clear ha hb
      go_wp2_with fail
      refine HC.out.mono ?_
      rintro e w1 ⟨p, c, rfl, q1, q2⟩
      have HS1 := Lib.hid q1
      have HF1 := Lib.hid (HF.out.trans (q2.mono HF.out.size (fun _ _ q => q)))
      have hw : IntKind.i64.wrap ((a : Int) + (b : Int)) = ((a + b : Nat) : Int) := (wrap_ok (by omega) (by omega)).trans (by omega)
      clear q1 q2 HC HS HF
      go_wp2
      go_roundw
      case rel => exact ⟨k + 1, by omega, by go_num, by rw [he.out]; first | rfl | go_num, HS1.out, HF1.out⟩
      case measure => simp [intOf]; omega
    · obtain rfl : k = 7 := by omega
      go_wp2
      go_ret
      exact ⟨rfl, HS.out, HF.out⟩
set_option maxRecDepth 100000 in
set_option maxHeartbeats 1000000 in
theorem room_any (d : St h S N l0 l T w) (c : Int) : Calls Tryz.prog 22 #[pV h, .int .i64 c] w fun e W' => e = .returned (.int .i64 (rmF T c S : Int)) ∧ St h S N l0 l T W' ∧ Fr w.heap.size (blkM h) w W' := by
  have htl := d.tl
  have HLe := Lib.hid (rmF_le (S := S) (T := T) (fun j hj => d.ok hj) c)
  have HOk : Hid (∀ j, j < S → (T.getD j Sl.zero).f.length ≤ 32) := fun j hj => (v_le _ (d.ok hj)).2
  have hCf : ∀ W, St h S N l0 l T W → Calls Tryz.prog 36 #[pV h] W fun e W' => e = .returned (.agg #[.int .i64 (S : Int), .int .i64 (N : Int)]) ∧ Below W.heap.size W W' := fun W d => by
    obtain ⟨H, L, d1, d2⟩ := d
    exact d1.config
  have hCo : ∀ W (j : Nat), St h S N l0 l T W → j < S → Calls Tryz.prog 94 #[pV h, .int .i64 (j : Int)] W fun e W' => e = .returned (.int .i64 ((T.getD j Sl.zero).c : Int)) ∧ St h S N l0 l T W' ∧ Fr W.heap.size (blkM h) W W' := fun W j d hj => by
    obtain ⟨H, L, d1, d2⟩ := d
    refine (d1.classOf hj).mono ?_
    rintro e W' ⟨rfl, q1, q2⟩
    rw [d2.hc j hj]
    exact ⟨rfl, ⟨H, L, q1, d2⟩, q2⟩
  have hHv : ∀ W (j : Nat), St h S N l0 l T W → j < S → Calls Tryz.prog 93 #[pV h, .int .i64 (j : Int), .int .i64 6] W fun e W' => ∃ p c, e = .returned (.slice p (T.getD j Sl.zero).f.length c) ∧ St h S N l0 l T W' ∧ Fr W.heap.size (blkM h) W W' := fun W j d hj => by
    have hok := d.ok hj
    obtain ⟨H, L, d1, d2⟩ := d
    refine (d1.having hj (d2.hc j hj) 6).mono ?_
    rintro e W' ⟨u, ⟨rfl, q1, q2⟩, q3, -⟩
    obtain ⟨p, c, rfl, -⟩ := q3
    have e6 : (Lis.ints (kpA S N j (T.getD j Sl.zero) 6)).length = (T.getD j Sl.zero).f.length := by
      rw [Lis.ints_length, ← kp6_len hok]
      unfold kpA
      rw [List.length_map]
    rw [e6]
    exact ⟨p, c, rfl, ⟨H, L, q1, d2⟩, q2⟩
  have HD := Lib.hid d
  unfold pV at *
  have HCf := Lib.hid hCf
  have HCo := Lib.hid hCo
  have HHv := Lib.hid hHv
  have hS : S ≤ 64 := htl.2.2
  have hfld := Lis.field_cfg S N
  clear d hCf hCo hHv htl
  go_enter Tryz.func22, Tryz.ntmps22
  go_wp2_with fail
  refine (HCf.out _ HD.out).mono ?_
  rintro e w1 ⟨rfl, hb1⟩
  have HD1 := Lib.hid (HD.out.below hb1)
  have HF1 : Hid (Fr w.heap.size (blkM h) w w1) := Fr.of_below hb1
  clear hb1 HD
  go_wp2
  go_loopw [5, 10] (fun n i wr => ∃ k : Nat, k ≤ S ∧ i = .int .i64 k ∧ n = .int .i64 (rmF T c k : Int) ∧ Hid (St h S N l0 l T wr) ∧ Hid (Fr w.heap.size (blkM h) w wr)) (fun _ i _ => S - (intOf i).toNat)
  case atStart => exact ⟨0, Nat.zero_le _, rfl, rfl, HD1.out, HF1.out⟩
  case round =>
    clear HD1 HF1
    obtain ⟨k, hk, rfl, rfl, HS, HF⟩ := hrel
    by_cases hlt : k < S
    · have hlt1 : (k : Int) < (S : Int) := by omega
      have hl := HLe.out k hk
      have he : Hid (rmF T c (k + 1) = rmF T c k + if ((T.getD k Sl.zero).c : Int) = c then (T.getD k Sl.zero).f.length else 0) := rfl
      have HC := Lib.hid (HCo.out wr k HS.out hlt)
      have HV := Lib.hid (fun W d => HHv.out W k d hlt)
      have hb32 := HOk.out k hlt
      obtain ⟨a, ha⟩ : ∃ a, a = rmF T c k := ⟨_, rfl⟩
      obtain ⟨b, hb⟩ : ∃ b, b = (T.getD k Sl.zero).f.length := ⟨_, rfl⟩
      obtain ⟨g, hg⟩ : ∃ g : Int, g = ((T.getD k Sl.zero).c : Int) := ⟨_, rfl⟩
      rw [← ha] at hl ⊢
      rw [← hb] at HV hb32
      rw [← ha, ← hb, ← hg] at he
      rw [← hg] at HC
      have hw : IntKind.i64.wrap ((a : Int) + (b : Int)) = ((a + b : Nat) : Int) := (wrap_ok (by omega) (by omega)).trans (by omega)
      clear ha hb hg
      go_wp2_with fail
      refine HC.out.mono ?_
      rintro e w1 ⟨rfl, q1, q2⟩
      have HS1 := Lib.hid q1
      have HF1 := Lib.hid (HF.out.trans (q2.mono HF.out.size (fun _ _ q => q)))
      clear q1 q2 HC HS HF
      by_cases hgc : g = c
      · subst hgc
        go_wp2_with fail
        refine (HV.out _ HS1.out).mono ?_
        rintro e w2 ⟨p, cc, rfl, q1, q2⟩
        have HS2 := Lib.hid q1
        have HF2 := Lib.hid (HF1.out.trans (q2.mono HF1.out.size (fun _ _ q => q)))
        clear q1 q2 HS1 HF1
        go_wp2
        go_roundw
        case rel => exact ⟨k + 1, by omega, by go_num, by rw [he.out, if_pos trivial]; first | rfl | go_num, HS2.out, HF2.out⟩
        case measure => simp [intOf]; omega
      · have hgc2 : (g == c) = false := by simp [hgc]
        go_wp2
        go_roundw
        case rel => exact ⟨k + 1, by omega, by go_num, by rw [he.out, if_neg hgc]; first | rfl | go_num, HS1.out, HF1.out⟩
        case measure => simp [intOf]; omega
    · obtain rfl : k = S := by omega
      go_wp2
      go_ret
      exact ⟨rfl, HS.out, HF.out⟩
end
/-- What Give of any place does. -/
theorem gv_cases {S N : Nat} {T : List Sl} (hT : Tk S T) (hr : Lay.rightC (S : Int) (N : Int) = true) (a : Int) : (gvF S N T a).2 = T ∨ ∃ j k, j < S ∧ k ∈ (T.getD j Sl.zero).v ∧ Gvn S N T (gvF S N T a).2 j k := by
  cases hf : fnd S N T a with
  | none => left; unfold gvF; rw [hf]
  | some p =>
    obtain ⟨j, k⟩ := p
    by_cases hc : (pl (aT S N j) (T.getD j Sl.zero).c k : Int) = a ∧ k ∉ (T.getD j Sl.zero).f
    · right
      obtain ⟨h1, h2, -⟩ := fnd_some hr hf
      have hv : k ∈ (T.getD j Sl.zero).v := (Sl.mem_v _ _).2 ⟨h2, hc.2⟩
      have := (gv_yes (N := N) hT hr h1 hv).2
      rw [hc.1] at this
      exact ⟨j, k, h1, hv, this⟩
    · left; unfold gvF; rw [hf]; simp only; rw [if_neg hc]
end Go.Proofs.YtjjfihoplkddfaaGreatDoor.Sla

namespace Go.Proofs.YtjjfihoplkddfaaGreatDoor.Sla
open Go.RowKit Num
open Mem (Mm MemC MRet Hm rd blkM)
open Lis (Cf LM LR Tb at_ Nx Pv Rep Hx valsN)
open Cls (szC blC pdC)
open Arn (wrL is64)
set_option linter.unusedVariables false

theorem sz16 (c : Int) : szC c % 16 = 0 := by
  unfold szC
  split
  · rename_i h
    rcases (show c = 1 ∨ c = 2 ∨ c = 3 ∨ c = 4 ∨ c = 5 ∨ c = 6 ∨ c = 7 ∨ c = 8 ∨ c = 9 by omega) with rfl | rfl | rfl | rfl | rfl | rfl | rfl | rfl | rfl <;> decide
  · rfl
theorem mul16 {a b : Nat} (h : b % 16 = 0) : (a * b) % 16 = 0 := by rw [Nat.mul_mod, h, Nat.mul_zero]
/-- Each free block is told by some link. -/
theorem Lks.fb {l : List Int} {A : Nat} {c : Int} : ∀ {f : List Nat}, Lks l A c f → ∀ k ∈ f, ∃ r : List Nat, FB l (pl A c k) (szC c) (lk A c r) ∧ (∀ x ∈ r, x ∈ f)
  | [], _, k, hk => by cases hk
  | j :: r, h, k, hk => by
    rcases List.mem_cons.1 hk with rfl | hk
    · exact ⟨r, h.1, fun x hx => by simp [hx]⟩
    · obtain ⟨r2, h1, h2⟩ := Lks.fb h.2 k hk
      exact ⟨r2, h1, fun x hx => by simp [h2 x hx]⟩
section
variable {h : Hm} {S N : Nat} {l0 l l' : List Int} {T T' : List Sl} {w W W' : World}
/-- What lies in a free block. -/
theorem St.free_at (d : St h S N l0 l T w) {j k : Nat} (hj : j < S) (hk : k ∈ (T.getD j Sl.zero).f) : ∃ nx : Nat, nx < 4294967296 ∧ FB l (pl (aT S N j) (T.getD j Sl.zero).c k) (szC (T.getD j Sl.zero).c) nx ∧ k < blC (T.getD j Sl.zero).c ∧ pl (aT S N j) (T.getD j Sl.zero).c k % 16 = 0 ∧ pl (aT S N j) (T.getD j Sl.zero).c k + szC (T.getD j Sl.zero).c ≤ l.length ∧ l.length ≤ 100000 := by
  obtain ⟨H, L, ⟨C, rfl, rfl, h3, h4, h5⟩, d2⟩ := d
  have hbs := ok_base h5.ok
  have hsl := h5.sl j hj
  have hlt := hsl.ok.lt k hk
  have hin := bl_in hlt
  obtain ⟨r, h1, h2⟩ := Lks.fb hsl.f k hk
  have hlk : lk (aT C.s C.n j) (T.getD j Sl.zero).c r ≤ 200000 := by
    cases r with
    | nil => show 0 ≤ _; omega
    | cons i r =>
      have := bl_in (hsl.ok.lt i (h2 i (by simp)))
      show pl _ _ i ≤ _
      unfold pl aT
      omega
  have hm := mul16 (a := k) (sz16 ((T.getD j Sl.zero).c : Int))
  exact ⟨_, by omega, h1, hlt, by unfold pl aT; omega, by rw [h5.ll]; unfold pl aT; omega, by rw [h5.ll]; omega⟩
theorem St.load8 (d : St h S N l0 l T w) {j k i : Nat} (hj : j < S) (hk : k ∈ (T.getD j Sl.zero).f) (hi : i < szC (T.getD j Sl.zero).c) (h8 : i % 8 = 0) :
    Calls Tryz.prog 31 #[pV h, .int .i64 ((pl (aT S N j) (T.getD j Sl.zero).c k + i : Nat) : Int), .int .i64 8, .int .i64 6] w fun e w' => ∃ n : Int, e = .returned (.int .u64 n) ∧ (i = 0 → 0 ≤ n ∧ n.tmod 4294967296 = 0) ∧ (i ≠ 0 → n = 0) ∧ St h S N l0 l T w' ∧ Fr w.heap.size (blkM h) w w' := by
  obtain ⟨nx, n1, hfb, hkb, h16, hlen, hl5⟩ := d.free_at hj hk
  have hs16 := sz16 ((T.getD j Sl.zero).c : Int)
  obtain ⟨H, L, ⟨C, rfl, rfl, h3, h4, h5⟩, d2⟩ := d
  obtain ⟨ht, lk0, hm⟩ := id h4.m
  have hbs := ok_base h5.ok
  have hkd := (h5.sl j hj).k k hkb
  rw [if_pos hk] at hkd
  have hin := bl_in hkb
  have hlook : Wat.lookA (C.mm l lk0).x ((pl (aT C.s C.n j) (T.getD j Sl.zero).c k + i : Nat) : Int) ((8 : Nat) : Int) 6 = true :=
    Mem.look_iff.2 ⟨by decide, by show _ ≤ C.x.length; rw [h5.xl, ← h5.ll]; omega, by omega, by decide, fun t ht => by
      have := hkd (i + t) (by omega)
      rw [← Nat.add_assoc] at this
      exact this⟩
  have hld := Mem.load_ok hlook hm.lenx
  refine (Mem.load_any h _ (C.mm l lk0) ((pl (aT C.s C.n j) (T.getD j Sl.zero).c k + i : Nat) : Int) 8 6 w hm (by unfold is64; omega)).mono ?_
  intro e w' hq
  rw [show (8 : Int) = ((8 : Nat) : Int) from rfl, hld] at hq
  have hr := h4.mret (lk := _) hq
  refine ⟨_, hr.1, fun e0 => ?_, fun e0 => ?_, ⟨H, L, ⟨C, rfl, rfl, h3, hr.2.1, h5⟩, d2⟩, hr.2.2⟩
  · subst e0
    have e8 : ((C.mm l lk0).l.drop (pl (aT C.s C.n j) (T.getD j Sl.zero).c k + 0)).take 8 = fr nx := by
      refine Mem.list_of_getD (by show (List.take 8 (List.drop _ l)).length = 8; rw [List.length_take, List.length_drop]; omega) (fun t ht => ?_)
      have ht8 : t < 8 := by simp at ht; omega
      have := hfb t (by omega)
      rw [← this]
      show (List.take 8 (List.drop _ l)).getD t 0 = _
      simp [List.getD, ht8]
    show 0 ≤ rd _ _ _ ∧ (rd _ _ _).tmod _ = 0
    unfold rd
    rw [e8]
    have e9 : le (fr nx) = 4294967296 * le (Hea.p4 nx) := by simp [fr, le]; omega
    rw [e9]
    have : 0 ≤ le (Hea.p4 nx) := by simp [Hea.p4, le]; omega
    exact ⟨by omega, by rw [Int.tmod_eq_emod_of_nonneg (by omega)]; omega⟩
  · have e8 : ((C.mm l lk0).l.drop (pl (aT C.s C.n j) (T.getD j Sl.zero).c k + i)).take 8 = List.replicate 8 0 := by
      refine Mem.list_of_getD (by show (List.take 8 (List.drop _ l)).length = 8; rw [List.length_take, List.length_drop]; omega) (fun t ht => ?_)
      have ht8 : t < 8 := by simp at ht; omega
      have := hfb (i + t) (by omega)
      rw [fr_out _ (by omega), ← Nat.add_assoc] at this
      show (List.take 8 (List.drop _ l)).getD t 0 = _
      simp [List.getD, ht8] at this ⊢
      rw [this]
      match t, ht8 with
      | 0, _ | 1, _ | 2, _ | 3, _ | 4, _ | 5, _ | 6, _ | 7, _ => rfl
    show rd _ _ _ = 0
    unfold rd
    rw [e8]
    rfl
theorem St.get (d : St h S N l0 l T w) {j k : Nat} (hj : j < S) (hk : k ∈ (T.getD j Sl.zero).f) :
    Calls Tryz.prog 32 #[pV h, .int .i64 (pl (aT S N j) (T.getD j Sl.zero).c k : Int)] w fun e w' => ∃ nx, e = .returned (.tuple #[(fB nx).agg, .int .i64 0]) ∧ St h S N l0 l T w' ∧ Fr w.heap.size (blkM h) w w' := by
  obtain ⟨nx, n1, hfb, hkb, h16, hlen, hl5⟩ := d.free_at hj hk
  obtain ⟨H, L, ⟨C, rfl, rfl, h3, h4, h5⟩, d2⟩ := d
  obtain ⟨ht, lk0, hm⟩ := id h4.m
  have hkd := (h5.sl j hj).k k hkb
  rw [if_pos hk] at hkd
  have hin := bl_in hkb
  have hpart : ((C.mm l lk0).l.drop (pl (aT C.s C.n j) (T.getD j Sl.zero).c k)).take (Hea.encL (fB nx)).length = Hea.encL (fB nx) := by
    rw [fB_enc, fr_len]
    refine Mem.list_of_getD (by show (List.take 8 (List.drop _ l)).length = 8; rw [List.length_take, List.length_drop]; omega) (fun t ht => ?_)
    have ht8 : t < 8 := by simp at ht; omega
    have := hfb t (by omega)
    rw [← this]
    show (List.take 8 (List.drop _ l)).getD t 0 = _
    simp [List.getD, ht8]
  refine (Hea.get_any h _ (C.mm l lk0) _ (fB nx) w h4.t hm (fB_ok n1) (fB_right nx) (room_free (by rw [h5.xl, ← h5.ll]; omega) (by omega) (fun i hi => hkd i (by omega)) lk0) hpart).mono ?_
  rintro e w' ⟨lk, hq⟩
  have hr := h4.mret (lk := lk) hq
  exact ⟨nx, hr.1, ⟨H, L, ⟨C, rfl, rfl, h3, hr.2.1, h5⟩, d2⟩, hr.2.2⟩
end
end Go.Proofs.YtjjfihoplkddfaaGreatDoor.Sla

namespace Go.Proofs.YtjjfihoplkddfaaGreatDoor.Sla
open Go.RowKit Num
open Mem (Mm MemC MRet Hm rd blkM)
open Lis (Cf LM LR Tb at_ Nx Pv Rep Hx valsN)
open Cls (szC blC pdC)
open Arn (wrL is64)
set_option linter.unusedVariables false

def bkF (S N : Nat) (T : List Sl) (a : Int) : Int × Int × Bool := match fnd S N T a with
  | some (j, k) => ((j : Int), (pl (aT S N j) (T.getD j Sl.zero).c k : Int), true)
  | none => (0, 0, false)
def bkV (p : Int × Int × Bool) : Value := .tuple #[.int .i64 p.1, .int .i64 p.2.1, .bool p.2.2]
section
variable {h : Hm} {S N : Nat} {l0 l l' : List Int} {H H' : List Hx} {L L' : List Int} {T T' : List Sl} {w W W' : World} {r : Value} {e : Ending}
/-! ### The landed Block -/
set_option maxRecDepth 100000 in
set_option maxHeartbeats 4000000 in
theorem Sb.block_any (d : Sb h S N l0 l H L T w) {a : Int} {p : Option Addr} {j c b nx : Int} {ok : Bool}
    (hf : ∀ W, Sb h S N l0 l H L T W → Calls Tryz.prog 102 #[pV h, .int .i64 a] W (SbR h S N l0 l H L T (.tuple #[.agg (bC (.pointer p) j c b nx), .bool ok]) W)) :
    Calls Tryz.prog 30 #[pV h, .int .i64 a] w (SbR h S N l0 l H L T (bkV (j, b, ok)) w) := by
  have HF := Lib.hid hf
  have H0 := Lib.hid (SX.start d)
  clear hf d
  unfold pV at *
  unfold bC at HF
  go_enter Tryz.func30, Tryz.ntmps30
  go_wp2_with fail
  refine (HF.out _ H0.out.d).mono ?_
  intro e w1 hr1
  obtain rfl := hr1.1
  have h1 := H0.out.sr hr1
  have h2 := h1.alloc (bC (.pointer p) j c b nx) 119
  obtain ⟨c0, c1, c2, c3, c4⟩ := bC_cells (h2.blk (.head _))
  have HQ := Lib.hid h2.drew
  clear hr1 h1 h2
  unfold bC at *
  go_wp2_with fail
  go_region
  go_wp2
  refine bodyPost_ret (v := .tuple #[.int .i64 j, .int .i64 b, .bool ok]) (by simp [results, Tryz.results30, go_sem]) rfl (HQ.out.ret _)
theorem St.block (d : St h S N l0 l T w) {a : Int} (h64 : is64 a) : Calls Tryz.prog 30 #[pV h, .int .i64 a] w fun e W' => e = .returned (bkV (bkF S N T a)) ∧ St h S N l0 l T W' ∧ Fr w.heap.size (blkM h) w W' := by
  obtain ⟨H, L, d1, d2⟩ := d
  have hr := d1.right
  cases hf : fnd S N T a with
  | none =>
    have hb : bkF S N T a = (0, 0, false) := by unfold bkF; rw [hf]
    rw [hb]
    refine (d1.block_any (p := none) (j := 0) (c := 0) (b := 0) (nx := 0) (ok := false) (fun W hW => ?_)).mono ?_
    · have := hW.find d2.hc h64
      rw [hf] at this
      exact this
    · rintro e W' ⟨rfl, h1, h2⟩
      exact ⟨rfl, ⟨H, L, h1, d2⟩, h2⟩
  | some p =>
    obtain ⟨j, k⟩ := p
    have hb : bkF S N T a = ((j : Int), (pl (aT S N j) (T.getD j Sl.zero).c k : Int), true) := by unfold bkF; rw [hf]
    rw [hb]
    refine (d1.block_any (p := some ⟨h.g, 0, none⟩) (j := j) (c := (T.getD j Sl.zero).c) (b := pl (aT S N j) (T.getD j Sl.zero).c k) (nx := 0) (ok := true) (fun W hW => ?_)).mono ?_
    · have := hW.find d2.hc h64
      rw [hf] at this
      exact this
    · rintro e W' ⟨rfl, h1, h2⟩
      exact ⟨rfl, ⟨H, L, h1, d2⟩, h2⟩
end
end Go.Proofs.YtjjfihoplkddfaaGreatDoor.Sla
