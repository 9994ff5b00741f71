/- Contracts of fold's small functions, Lower and the document's. -/
import Derived.Test.YtjhmjimfehanbaaRows
import Derived.Test.YtjhmjimfehanbaaKit3
import Derived.Test.YtjhmjimfehanbaaFoldM
namespace Go.Proofs.Ytjhmjimfehanbaa.Fold
open Go.RowKit
set_option linter.unusedVariables false

def wth (r f l : Int) : Bool := decide (f ≤ r) && decide (r ≤ l)
theorem within_any (r f l : Int) (w : World) :
    Calls Try.prog 36 #[.int .i32 r, .int .i32 f, .int .i32 l] w fun e w' => e = .returned (.bool (wth r f l)) ∧ w = w' := by
  go_enter Try.func36, Try.ntmps36
  go_wp2
  all_goals
    go_ret
    exact ⟨ret_bool (by rw [Bool.eq_iff_iff]; simp [wth]; omega), rfl⟩

theorem lowered_any (c : Int) (w : World) (h0 : 0 ≤ c) (h1 : c < 256) :
    Calls Try.prog 33 #[.int .u8 c] w fun e w' => e = .returned (.int .u8 (lw c)) ∧ w = w' := by
  by_cases h : 65 ≤ c ∧ c ≤ 90
  · have e := Lib.hid (show lw c = c + 32 by rw [lw, if_pos h])
    have f := Lib.hid (show wth c 65 90 = true by simp [wth, h])
    obtain ⟨g1, g2⟩ := h
    go_enter Try.func33, Try.ntmps33
    go_wp2_with (go_at_call 36; refine (within_any _ _ _ _).mono ?_; rintro e w' ⟨rfl, rfl⟩; rw [f.out])
    go_ret
    exact ⟨ret_int (by rw [e.out]; omega), rfl⟩
  · have e := Lib.hid (show lw c = c by rw [lw, if_neg h])
    have f := Lib.hid (show wth c 65 90 = false by simp [wth]; omega)
    clear h
    go_enter Try.func33, Try.ntmps33
    go_wp2_with (go_at_call 36; refine (within_any _ _ _ _).mono ?_; rintro e w' ⟨rfl, rfl⟩; rw [f.out])
    go_ret
    exact ⟨ret_int e.out.symm, rfl⟩

theorem refLow_any (c : Int) (w : World) (h0 : 0 ≤ c) (h1 : c < 256) :
    Calls Try.prog 29 #[.int .u8 c] w fun e w' => e = .returned (.int .u8 (lw c)) ∧ w = w' := by
  by_cases h : 65 ≤ c ∧ c ≤ 90
  · have e := Lib.hid (show lw c = c + 32 by rw [lw, if_pos h])
    obtain ⟨g1, g2⟩ := h
    go_enter Try.func29, Try.ntmps29
    go_wp2
    go_ret
    exact ⟨ret_int e.out.symm, rfl⟩
  · have e := Lib.hid (show lw c = c by rw [lw, if_neg h])
    by_cases h2 : 65 ≤ c
    · have h3 : ¬ c ≤ 90 := by omega
      clear h
      go_enter Try.func29, Try.ntmps29
      go_wp2
      go_ret
      exact ⟨ret_int e.out.symm, rfl⟩
    · clear h
      go_enter Try.func29, Try.ntmps29
      go_wp2
      go_ret
      exact ⟨ret_int e.out.symm, rfl⟩

/-- A text in small letters. -/
def lowS (s : ByteArray) : ByteArray := strOfNums (low (bs s))
theorem low_bd (s : ByteArray) (i : Nat) : 0 ≤ (low (bs s)).getD i 0 ∧ (low (bs s)).getD i 0 < 256 := by
  by_cases h : i < (bs s).length
  · rw [low_getD _ _ h]
    have := bs_bd s i
    exact lw_bd _ this.1 this.2
  · simp [List.getD, List.getElem?_eq_none (show (low (bs s)).length ≤ i by rw [low_length]; omega)]
theorem bs_lowS (s : ByteArray) : bs (lowS s) = low (bs s) := bs_strOfNums _ (low_bd s)
theorem lowS_lowS (s : ByteArray) : lowS (lowS s) = lowS s := by unfold lowS; rw [show bs (strOfNums (low (bs s))) = low (bs s) from bs_lowS s, low_low]
theorem lowS_size (s : ByteArray) : (lowS s).size = s.size := by rw [lowS, strOfNums_size, low_length, bs_length]

/-- The first k bytes in small letters, the others as they are. -/
def half (l : List Int) (k : Nat) : List Int := low (l.take k) ++ l.drop k
theorem half_length (l : List Int) (k : Nat) : (half l k).length = l.length := by simp [half, low_length]; omega
theorem half_set (l : List Int) (k : Nat) (h : k < l.length) : (half l k).set k (lw (l.getD k 0)) = half l (k + 1) := by
  have e : l.getD k 0 = l[k] := by simp [List.getD, h]
  unfold half
  rw [e, List.take_succ_eq_append_getElem h, List.drop_eq_getElem_cons h]
  have hl : (low (l.take k)).length = k := by rw [low_length, List.length_take]; omega
  rw [List.set_append_right _ _ (by omega), hl, Nat.sub_self, List.set_cons_zero]
  unfold low
  rw [List.map_append, List.append_assoc]
  rfl
theorem half_getD (l : List Int) (k : Nat) (h : k < l.length) : (half l k).getD k 0 = l.getD k 0 := by
  have hl : (low (l.take k)).length = k := by rw [low_length, List.length_take]; omega
  unfold half
  rw [List.getD, List.getElem?_append_right (by omega), hl]
  simp [List.getD]
theorem half_all (l : List Int) : half l l.length = low l := by simp [half]

set_option maxRecDepth 100000 in
theorem lower_any (s : ByteArray) (w : World) (hs : s.size ≤ 9223372036854775807) :
    Calls Try.prog 28 #[.string s] w fun e w' => e = .returned (.string (lowS s)) ∧ Below w.heap.size w w' := by
  obtain ⟨cap, W, hconv, hcap, hbel, hsz, hcell, hfroz⟩ := bytes_made (P := Try.prog) w 9 22 5 s Try.underlying9 Try.underlying22 Try.underlying5
  have C := Lib.hid hcell
  have F := Lib.hid hfroz
  have HZ := Lib.hid hsz
  clear hcell hfroz hsz
  go_enter Try.func28, Try.ntmps28
  go_wp2
  clear hconv
  go_loopw [10] (fun i wr => ∃ k : Nat, k ≤ s.size ∧ i = .int .i64 k ∧ Below w.heap.size w wr ∧ Hid (w.heap.size < wr.heap.size) ∧ Hid (∀ j, j < s.size → wr.cell? ⟨w.heap.size, j, none⟩ = some (.int .u8 ((half (bs s) k).getD j 0))) ∧ Hid (∀ j, j < s.size → wr.frozen? ⟨w.heap.size, j, none⟩ = false)) (fun i _ => s.size - (intOf i).toNat)
  case atStart => exact ⟨0, Nat.zero_le _, rfl, hbel, by rw [HZ.out]; exact Nat.lt_succ_self _, by simpa [half, low, Hid] using C.out, F⟩
  case round =>
    obtain ⟨k, hk, rfl, hb, HS, HC, HF⟩ := hrel
    by_cases hlt : k < s.size
    · have hc := HC.out k hlt
      have hf := HF.out k hlt
      rw [half_getD _ _ (by rw [bs_length]; exact hlt)] at hc
      have hbd := bs_bd s k
      have hset := Lib.hid (half_set (bs s) k (by rw [bs_length]; exact hlt))
      obtain ⟨x, hx⟩ : ∃ x, x = (bs s).getD k 0 := ⟨_, rfl⟩
      rw [← hx] at hc hbd hset
      clear hx
      obtain ⟨b1, b2⟩ := hbd
      go_wp2_with (go_at_call 33; refine (lowered_any _ _ b1 b2).mono ?_; rintro e w' ⟨rfl, rfl⟩)
      go_roundw
      case rel =>
        refine ⟨k + 1, by omega, by go_num, hb.setCell (Nat.le_refl _) _, ?_, ?_, ?_⟩
        · have := HS.out; simpa [Hid] using this
        · have := setCell_cells (x := lw x) HC.out hlt (by rw [half_length, bs_length])
          rw [hset.out] at this
          exact this
        · intro j hj
          rw [World.frozen?_setCell]
          exact HF.out j hj
      case measure => simp [intOf]; omega
    · obtain rfl : k = s.size := by omega
      have hback := Lib.hid (run_convert_bytes_arg (P := Try.prog) wr 22 5 Try.underlying22 Try.underlying5 w.heap.size 0 s.size cap (low (bs s)) (by rw [low_length, bs_length]) (by
        intro i hi
        rw [Nat.zero_add, HC.out i hi, show s.size = (bs s).length from (bs_length s).symm, half_all]) 9 Try.underlying9)
      have hb2 := hback.out
      go_wp2
      go_ret
      exact ⟨rfl, hb⟩

theorem infoU8 : (Try.prog.info? 5).map (fun i => (i.zero, i.size, i.bytes)) = some (some (.int .u8 0), 1, 1) := by kernel_rfl

set_option maxRecDepth 100000 in
theorem refLower_any (s : ByteArray) (w : World) (hs : s.size ≤ 3000) :
    Calls Try.prog 17 #[.string s] w fun e w' => e = .returned (.string (lowS s)) ∧ Below w.heap.size w w' := by
  obtain ⟨i0, hi, hz0, hz1, hz2⟩ := info_parts infoU8
  go_enter Try.func17, Try.ntmps17
  go_wp2
  go_loopw [3, 4] (fun b i wr => ∃ k : Nat, k ≤ s.size ∧ i = .int .i64 k ∧ Hid (wr.ownsRow w.heap.size 5 1 b k (vals ((low (bs s)).take k))) ∧ Below w.heap.size w wr) (fun _ i _ => s.size - (intOf i).toNat)
  case atStart => exact ⟨0, Nat.zero_le _, rfl, by simpa [vals, Hid] using World.ownsRow_nil _ _ _ _, Below.refl _ _⟩
  case round =>
    obtain ⟨k, hk, rfl, HO, hbel⟩ := hrel
    have hsz := hbel.size
    by_cases hlt : k < s.size
    · have hbd := bs_bd s k
      have hg := bs_getD s k hlt
      rw [hg] at hbd
      obtain ⟨b1, b2⟩ := hbd
      have hE := Lib.hid (vals_snoc (low (bs s)) k (by rw [low_length, bs_length]; exact hlt))
      have hE2 := Lib.hid ((low_getD (bs s) k (by rw [bs_length]; exact hlt)).trans (by rw [hg]))
      clear hg
      have hb63 : k + 1 ≤ maxLen := maxLen_of (by omega)
      have hbby : (k + 1) * 1 ≤ 140737488355328 := by omega
      go_wp2_with (first
        | (go_at_call 29; refine (refLow_any _ _ b1 b2).mono ?_; rintro e w' ⟨rfl, rfl⟩)
        | (at_builtin; refine wpList_append_own _ rfl (.tmp 11) (.tmp 16) 22 rfl w.heap.size 5 i0 (.int .u8 0) 1 1 Try.underlying22 hi hz0 hz1 hz2 rfl (by decide) _ _ _ rfl (HO.out.alloc _) ⟨wr.heap.size, 0, none⟩ 1 1 [.int .u8 (lw (s[k]'hlt).toNat)] rfl rfl (news_one _ _ _ _) (oneCell_one _ _) hb63 hbby (le_alloc _ hsz) ?_))
      intro v' w1 hown' hgrow _
      have hb1 : Below w.heap.size w w1 := (hbel.alloc hsz _).grown hgrow (by simp; omega) (fun r hr => (HO.out.lt r hr).1)
      have hown2 : Hid (w1.ownsRow w.heap.size 5 1 v' (k + 1) (vals ((low (bs s)).take (k + 1)))) := by
        unfold Hid
        rw [hE.out, hE2.out]
        exact hown'
      clear hown' hgrow hbel
      go_wp2
      go_roundw
      case rel => exact ⟨k + 1, by omega, by go_num, hown2, hb1⟩
      case measure => simp [intOf]; omega
    · obtain rfl : k = s.size := by omega
      have hO := HO.out
      rw [List.take_of_length_le (by rw [low_length, bs_length]; exact Nat.le_refl _)] at hO
      have hR := row_of_owns hO (by rw [low_length, bs_length]) (low_bd s)
      have hback := Lib.hid (Row.string (P := Try.prog) hR 22 9 5 Try.underlying22 Try.underlying5 Try.underlying9)
      clear hO hR
      have hb2 := hback.out
      go_wp2
      go_ret
      exact ⟨rfl, hbel⟩
end Go.Proofs.Ytjhmjimfehanbaa.Fold
