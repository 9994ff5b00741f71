/- Contracts of mix's Label, Chain, Key and the document's; mixes. -/
import Derived.Test.YtojicajdhlahfaaMixA
namespace Go.Proofs.Ytojicajdhlahfaa.Mix
open Go.RowKit
set_option linter.unusedVariables false

theorem refBytes_any (v : Value) (h : Int) (l : List Int) (w : World) (h1 : 0 ≤ h) (h2 : h < 4294967296) (hr : Row .u8 w v l) :
    Calls Try.prog 12 #[.int .u32 h, v] w fun e w' => e = .returned (.int .u32 (run h l)) ∧ ∃ m, w' = w.drewN m := by
  have HB := Lib.hid hr.bytes
  obtain ⟨ad, cap, rfl, g2, g3, g4, g5⟩ := hr
  have HC := Lib.hid g5
  clear g4 g5
  go_enter Try.func12, Try.ntmps12
  go_wp2
  go_loopw [0, 5] (fun x i wr => ∃ (k : Nat) (y : Int), k ≤ l.length ∧ i = .int .i64 k ∧ x = .int .u32 y ∧ 0 ≤ y ∧ y < 4294967296 ∧ Hid (run y (l.drop k) = run h l) ∧ Hid (∃ m, wr = w.drewN m)) (fun _ i _ => l.length - (intOf i).toNat)
  case atStart => exact ⟨0, h, Nat.zero_le _, rfl, rfl, h1, h2, rfl, 0, rfl⟩
  case round =>
    obtain ⟨k, y, hk, rfl, rfl, y1, y2, HR, HW⟩ := hrel
    by_cases hlt : k < l.length
    · obtain ⟨b, off, rfl, hlb, hc⟩ := HC.out (by rintro rfl; simp at hlt)
      have hbel := below_drawn (Below.refl w.heap.size w) HW.out
      have hcell := (hbel.cell (p := ⟨b, off + k, none⟩) hlb).trans (hc k hlt)
      have hbd := HB.out k
      have S := HR.out
      rw [run_drop _ _ _ hlt] at S
      obtain ⟨c, hce⟩ : ∃ c, c = l.getD k 0 := ⟨_, rfl⟩
      rw [← hce] at hcell hbd S
      obtain ⟨c1, c2⟩ := hbd
      have HS := Lib.hid S
      have hbd2 := stp_bd y c
      clear S hce hc HC hbel
      go_wp2_with fail
      refine (refStep_any _ _ _ y1 y2 c1 c2).mono ?_
      rintro e w2 ⟨rfl, hm⟩
      have HM : Hid (∃ m, w2 = w.drewN m) := by
        obtain ⟨m, rfl⟩ := hm
        exact drewN_more HW.out m
      clear hm hcell
      go_wp2
      go_roundw
      case rel => exact ⟨k + 1, _, by omega, by go_num, rfl, hbd2.1, hbd2.2, HS, HM⟩
      case measure => simp [intOf]; omega
    · obtain rfl : k = l.length := by omega
      have HS := Lib.hid ((run_end y l l.length (Nat.le_refl _)).symm.trans HR.out)
      go_wp2
      go_ret
      exact ⟨ret_int HS.out, HW.out⟩

theorem refKey_any (h t : Int) (w : World) (h1 : 0 ≤ h) (h2 : h < 4294967296) (t1 : 0 ≤ t) (t2 : t < 65536) :
    Calls Try.prog 18 #[.int .u32 h, .int .u16 t] w fun e w' => e = .returned (.int .u32 (key h t)) ∧ ∃ m, w' = w.drewN m := by
  have hbd := stp_bd h (t % 256)
  go_enter Try.func18, Try.ntmps18
  go_wp2_with fail
  refine (refStep_any _ _ _ h1 h2 (by omega) (by omega)).mono ?_
  rintro e w1 ⟨rfl, hm1⟩
  have HM1 := Lib.hid hm1
  clear hm1
  go_wp2_with fail
  refine (refStep_any _ _ _ hbd.1 hbd.2 (by omega) (by omega)).mono ?_
  rintro e w2 ⟨rfl, hm2⟩
  have HM2 : Hid (∃ m, w2 = w.drewN m) := by
    obtain ⟨m, rfl⟩ := hm2
    exact drewN_more HM1.out m
  clear hm2
  go_wp2
  go_ret
  exact ⟨ret_int (by rw [key, IntKind.wrap_u16, Int.tdiv_eq_ediv_of_nonneg t1, show t / 256 % 65536 % 256 = t / 256 by omega]), HM2.out⟩

set_option maxRecDepth 100000 in
theorem label_any (p : Int) (s : ByteArray) (w : World) (h1 : 0 ≤ p) (h2 : p < 4294967296) (hs : s.size ≤ 9223372036854775807) :
    Calls Try.prog 14 #[.int .u32 p, .string s] w fun e w' => e = .returned (.int .u32 (labL p (bs s))) ∧ Below w.heap.size w w' := by
  have hbd := run_bd h1 h2 (bs (Fold.lowS s))
  have HL : Hid (labL p (bs s) = run (run p (bs (Fold.lowS s))) [46]) := by unfold Hid; rw [Fold.bs_lowS]; rfl
  go_enter Try.func14, Try.ntmps14
  go_wp2_with fail
  refine (Fold.lower_any s _ hs).mono ?_
  rintro e w1 ⟨rfl, hb1⟩
  go_wp2_with fail
  refine (eachS_any _ _ _ h1 h2 (by rw [Fold.lowS_size]; exact hs)).mono ?_
  rintro e w2 ⟨rfl, rfl⟩
  obtain ⟨y, hy⟩ : ∃ y, y = run p (bs (Fold.lowS s)) := ⟨_, rfl⟩
  rw [← hy] at hbd HL ⊢
  clear hy
  have hr : Row .u8 (w1.alloc (.cells #[.int .u8 46] 5)) (.slice (some ⟨w1.heap.size, 0, none⟩) 1 1) [46] :=
    Row.made w1 [46] _ _ rfl (fun i hi => by
      obtain rfl : i = 0 := by simp at hi; omega
      rfl) (by simp)
  have HW := Lib.hid (with_any _ y _ _ hbd.1 hbd.2 hr)
  clear hr
  go_wp2_with fail
  refine HW.out.mono ?_
  rintro e w' ⟨rfl, rfl⟩
  go_wp2
  go_ret
  exact ⟨ret_int HL.out.symm, hb1.trans ((below_made w1 _).mono hb1.size)⟩

theorem refLabel_any (p : Int) (s : ByteArray) (w : World) (h1 : 0 ≤ p) (h2 : p < 4294967296) (hs : s.size ≤ 3000) :
    Calls Try.prog 15 #[.int .u32 p, .string s] w fun e w' => e = .returned (.int .u32 (labL p (bs s))) ∧ Below w.heap.size w w' := by
  have hbd := run_bd h1 h2 (bs (Fold.lowS s))
  have HL : Hid (labL p (bs s) = stp (run p (bs (Fold.lowS s))) 46) := by unfold Hid; rw [Fold.bs_lowS]; rfl
  have HS := Lib.hid (show (Fold.lowS s).size ≤ 3000 by rw [Fold.lowS_size]; exact hs)
  have HLow := Lib.hid (Fold.refLower_any s w hs)
  obtain ⟨T, hT⟩ : ∃ T, T = Fold.lowS s := ⟨_, rfl⟩
  rw [← hT] at hbd HL HS HLow
  clear hT
  go_enter Try.func15, Try.ntmps15
  go_wp2_with fail
  refine HLow.out.mono ?_
  rintro e w1 ⟨rfl, hb1⟩
  obtain ⟨v, W, hconv, hbel, hsz, hrow, -⟩ := bytes_row (P := Try.prog) w1 9 23 5 T Try.underlying9 Try.underlying23 Try.underlying5 (by have := HS.out; omega)
  have HB := Lib.hid (refBytes_any v p (bs T) W h1 h2 hrow)
  obtain ⟨y, hy⟩ : ∃ y, y = run p (bs T) := ⟨_, rfl⟩
  rw [← hy] at hbd HL HB
  have HB1 := Lib.hid (hb1.trans (hbel.mono hb1.size))
  clear hy hrow hbel hb1 hsz
  go_wp2_with fail
  refine HB.out.mono ?_
  rintro e w2 ⟨rfl, hm⟩
  have HB2 := Lib.hid (below_drawn HB1.out hm)
  clear hm
  go_wp2_with fail
  refine (refStep_any _ _ _ hbd.1 hbd.2 (by decide) (by decide)).mono ?_
  rintro e w3 ⟨rfl, hm⟩
  have HB3 := Lib.hid (below_drawn HB2.out hm)
  clear hm
  go_wp2
  go_ret
  exact ⟨ret_int HL.out.symm, HB3.out⟩

/-- Labels' number. -/
def chn (l : List ByteArray) : Int := chnL (l.map bs)
theorem chn_bd (l : List ByteArray) : 0 ≤ chn l ∧ chn l < 4294967296 := chnL_bd _
theorem chn_drop (l : List ByteArray) (k : Nat) (h : k < l.length) : chn (l.drop k) = labL (chn (l.drop (k + 1))) (bs (l.getD k ByteArray.empty)) := by
  have e : l.getD k ByteArray.empty = l[k] := by simp [List.getD, h]
  rw [List.drop_eq_getElem_cons h, e]
  rfl
theorem chn_end (l : List ByteArray) : chn (l.drop l.length) = 2166136261 := by rw [List.drop_length]; rfl

set_option maxRecDepth 100000 in
theorem chain_any (v : Value) (l : List ByteArray) (w : World) (hr : SRow w v l) :
    Calls Try.prog 13 #[v] w fun e w' => e = .returned (.int .u32 (chn l)) ∧ Below w.heap.size w w' := by
  obtain ⟨ad, cap, rfl, g2, g3, g4, g5⟩ := hr
  have HC := Lib.hid g5
  have HS := Lib.hid g4
  clear g4 g5
  go_enter Try.func13, Try.ntmps13
  go_wp2
  go_loopw [3, 4] (fun x i wr => ∃ (k : Nat) (y : Int), k ≤ l.length ∧ i = .int .i64 ((k : Int) - 1) ∧ x = .int .u32 y ∧ 0 ≤ y ∧ y < 4294967296 ∧ Hid (y = chn (l.drop k)) ∧ Below w.heap.size w wr) (fun _ i _ => (intOf i + 1).toNat)
  case atStart => exact ⟨l.length, _, Nat.le_refl _, rfl, rfl, by decide, by decide, (chn_end l).symm, Below.refl _ _⟩
  case round =>
    obtain ⟨k, y, hk, rfl, rfl, y1, y2, HR, hb⟩ := hrel
    match k, hk, HR with
    | 0, _, HR =>
      rw [show ((0 : Nat) : Int) - 1 = -1 from rfl]
      go_wp2
      go_ret
      exact ⟨ret_int HR.out, hb⟩
    | j + 1, hk, HR =>
      rw [show ((j + 1 : Nat) : Int) - 1 = (j : Int) from by omega]
      obtain ⟨b, off, rfl, hlb, hc⟩ := HC.out (by rintro rfl; simp at hk)
      have hcell := (hb.cell (p := ⟨b, off + j, none⟩) hlb).trans (hc j (by omega))
      have hsz := HS.out j (by omega)
      have S := chn_drop l j (by omega)
      rw [← HR.out] at S
      obtain ⟨s, hs⟩ : ∃ s, s = l.getD j ByteArray.empty := ⟨_, rfl⟩
      rw [← hs] at hcell hsz S
      have HT := Lib.hid S.symm
      have hbd := labL_bd y (bs s)
      have hj : (j : Int) < (l.length : Int) := by omega
      have HL := Lib.hid (label_any y s wr y1 y2 hsz)
      clear S hs hc HC HS HR hsz
      go_wp2_with fail
      refine HL.out.mono ?_
      rintro e w2 ⟨rfl, hb2⟩
      have hb3 := hb.trans (hb2.mono hb.size)
      clear hb hb2 hcell HL
      go_wp2
      go_roundw
      case rel => exact ⟨j, _, by omega, rfl, rfl, hbd.1, hbd.2, HT, hb3⟩
      case measure => simp [intOf]

set_option maxRecDepth 100000 in
theorem refChain_any (v : Value) (l : List ByteArray) (w : World) (hr : SRow w v l) (hl : ∀ i, i < l.length → (l.getD i ByteArray.empty).size ≤ 3000) :
    Calls Try.prog 16 #[v] w fun e w' => e = .returned (.int .u32 (chn l)) ∧ Below w.heap.size w w' := by
  obtain ⟨ad, cap, rfl, g2, g3, g4, g5⟩ := hr
  have HC := Lib.hid g5
  have HS := Lib.hid hl
  clear g4 g5 hl
  go_enter Try.func16, Try.ntmps16
  go_wp2
  go_loopw [3, 4] (fun x i wr => ∃ (k : Nat) (y : Int), k ≤ l.length ∧ i = .int .i64 ((k : Int) - 1) ∧ x = .int .u32 y ∧ 0 ≤ y ∧ y < 4294967296 ∧ Hid (y = chn (l.drop k)) ∧ Below w.heap.size w wr) (fun _ i _ => (intOf i + 1).toNat)
  case atStart => exact ⟨l.length, _, Nat.le_refl _, rfl, rfl, by decide, by decide, (chn_end l).symm, Below.refl _ _⟩
  case round =>
    obtain ⟨k, y, hk, rfl, rfl, y1, y2, HR, hb⟩ := hrel
    match k, hk, HR with
    | 0, _, HR =>
      rw [show ((0 : Nat) : Int) - 1 = -1 from rfl]
      go_wp2
      go_ret
      exact ⟨ret_int HR.out, hb⟩
    | j + 1, hk, HR =>
      rw [show ((j + 1 : Nat) : Int) - 1 = (j : Int) from by omega]
      obtain ⟨b, off, rfl, hlb, hc⟩ := HC.out (by rintro rfl; simp at hk)
      have hcell := (hb.cell (p := ⟨b, off + j, none⟩) hlb).trans (hc j (by omega))
      have hsz := HS.out j (by omega)
      have S := chn_drop l j (by omega)
      rw [← HR.out] at S
      obtain ⟨s, hs⟩ : ∃ s, s = l.getD j ByteArray.empty := ⟨_, rfl⟩
      rw [← hs] at hcell hsz S
      have HT := Lib.hid S.symm
      have hbd := labL_bd y (bs s)
      have hj : (j : Int) < (l.length : Int) := by omega
      have HL := Lib.hid (refLabel_any y s wr y1 y2 hsz)
      clear S hs hc HC HS HR hsz
      go_wp2_with fail
      refine HL.out.mono ?_
      rintro e w2 ⟨rfl, hb2⟩
      have hb3 := hb.trans (hb2.mono hb.size)
      clear hb hb2 hcell HL
      go_wp2
      go_roundw
      case rel => exact ⟨j, _, by omega, rfl, rfl, hbd.1, hbd.2, HT, hb3⟩
      case measure => simp [intOf]

set_option maxRecDepth 100000 in
theorem mixes_any (w : World) : Calls Try.prog 8 #[] w fun e w' => e = .returned (.bool true) ∧ Below w.heap.size w w' := by
  have f1 := Lib.hid (show chn [] = 2166136261 by rfl)
  have f2 := Lib.hid (show run 2166136261 [97] = 3826002220 by rfl)
  have f3 := Lib.hid (show labL 5 (bs ⟨#[97, 66]⟩) = labL 5 (bs ⟨#[65, 98]⟩) by rfl)
  have f4 := Lib.hid (show hom 10 7 = 3 by rfl)
  have f5 := Lib.hid (show hom 10 0 = 0 by rfl)
  go_enter Try.func8, Try.ntmps8
  go_wp2_with fail
  refine (chain_any _ _ _ (SRow.nil _)).mono ?_
  rintro e w1 ⟨rfl, hb1⟩
  rw [f1.out]
  have hr : Row .u8 (w1.alloc (.cells #[.int .u8 97] 5 (1, 2))) (.slice (some ⟨w1.heap.size, 0, none⟩) 1 1) [97] :=
    Row.made_mark w1 [97] _ _ _ rfl (fun i hi => by
      obtain rfl : i = 0 := by simp at hi; omega
      rfl) (by simp)
  have HW := Lib.hid (bytes_any _ 2166136261 _ _ (by decide) (by decide) hr)
  have kc := Lib.run_convert_bytes_const (P := Try.prog) w1 23 5 #[.int .u8 97] 1 1 Try.underlying23 Try.underlying5
  clear hr
  go_wp2_with fail
  refine HW.out.mono ?_
  rintro e w2 ⟨rfl, rfl⟩
  rw [f2.out]
  have hb2 := hb1.trans ((below_made w1 (.cells #[.int .u8 97] 5 (1, 2))).mono hb1.size)
  clear kc
  clear hb1 HW
  go_wp2_with fail
  refine (label_any _ _ _ (by decide) (by decide) (by decide)).mono ?_
  rintro e w3 ⟨rfl, hb3⟩
  rw [f3.out]
  have hb4 := hb2.trans (hb3.mono hb2.size)
  clear hb2 hb3
  go_wp2_with fail
  refine (label_any _ _ _ (by decide) (by decide) (by decide)).mono ?_
  rintro e w4 ⟨rfl, hb5⟩
  have hb6 := hb4.trans (hb5.mono hb4.size)
  clear hb4 hb5
  obtain ⟨y, hy⟩ : ∃ y, y = labL 5 (bs ⟨#[65, 98]⟩) := ⟨_, rfl⟩
  rw [← hy]
  clear hy
  go_wp2_with fail
  refine (home_any _ _ _ (by decide) (by decide) (by decide) (by decide)).mono ?_
  rintro e w5 ⟨rfl, rfl⟩
  rw [f4.out]
  go_wp2_with fail
  refine (home_any _ _ _ (by decide) (by decide) (by decide) (by decide)).mono ?_
  rintro e w5 ⟨rfl, rfl⟩
  rw [f5.out]
  go_wp2
  go_ret
  exact ⟨rfl, hb6⟩
end Go.Proofs.Ytojicajdhlahfaa.Mix
