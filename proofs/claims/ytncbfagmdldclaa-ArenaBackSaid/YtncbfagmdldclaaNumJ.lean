/- Contract of the document's Store. -/
import Derived.Test.YtncbfagmdldclaaNumF
import Derived.Test.YtncbfagmdldclaaKit2
namespace Go.Proofs.Ytncbfagmdldclaa.Num
open Go.RowKit
set_option linter.unusedVariables false

theorem row_of_owns {w : World} {base : Nat} {t : TypeId} {v : Value} {n : Nat} {l : List Int} (h : w.ownsRow base t 1 v n (vals l)) (hn : l.length = n) (hb : ∀ i, 0 ≤ l.getD i 0 ∧ l.getD i 0 < 256) : Row .u8 w v l := by
  obtain ⟨h1, h2⟩ := h
  subst hn
  rcases h2 with ⟨rfl, h0⟩ | ⟨g, cap, cur, rfl, hg, hh, hle, hm, hsz, htk⟩
  · obtain rfl : l = [] := List.eq_nil_of_length_eq_zero h0
    exact Row.nil _ _
  · refine ⟨_, cap, rfl, hle, by unfold maxLen at hm; omega, fun i hi => ?_, fun _ => ⟨g, 0, rfl, (Array.getElem?_eq_some_iff.1 hh).1, fun i hi => ?_⟩⟩
    · have := hb i; exact WalkArith.wf_u8 (by omega)
    · rw [Nat.zero_add, cell_block hh]
      have e := vals_get l i hi
      rw [← htk, List.getElem?_take_of_lt (by omega)] at e
      rw [← e]
      simp

theorem parts_get (v : Int) (j : Nat) (hj : j < 8) (h0 : 0 ≤ v) (h1 : v < 18446744073709551616) : (parts v).getD j 0 = v / 256 ^ j % 256 := by
  match j, hj with
  | 0, _ => simp [parts]
  | 1, _ => simp [parts]
  | 2, _ => simp [parts]
  | 3, _ => simp [parts]
  | 4, _ => simp [parts]
  | 5, _ => simp [parts]
  | 6, _ => simp [parts]
  | 7, _ => simp [parts]; omega

theorem stl_low (l : List Int) (m n k : Nat) (v : Int) (h : k < m) (hm : m ≤ l.length) : (stl l m n v).getD k 0 = l.getD k 0 := by
  simp [stl, List.getD, List.getElem?_append, show k < l.length by omega, show k < min m l.length by omega]
theorem stl_mid (l : List Int) (m n k : Nat) (v : Int) (h : m ≤ k) (h2 : k < m + n) (hn : n ≤ 8) (hm : m ≤ l.length) : (stl l m n v).getD k 0 = (parts v).getD (k - m) 0 := by
  have a : ¬ k < min m l.length := by omega
  have b : k - min m l.length < n := by omega
  have c : k - min m l.length = k - m := by omega
  have e : k - m < (parts v).length := by rw [parts_length]; omega
  have : (parts v).getD (k - m) 0 = (parts v)[k - m] := by simp [List.getD, e]
  rw [this]
  simp [stl, List.getD, List.getElem?_append, parts_length, a, c, show k - m < min n 8 by omega]
theorem stl_high (l : List Int) (m n k : Nat) (v : Int) (h : m + n ≤ k) (hn : n ≤ 8) (hm : m + n ≤ l.length) : (stl l m n v).getD k 0 = l.getD k 0 := by
  have a : ¬ k < min m l.length := by omega
  have c : k - min m l.length = k - m := by omega
  have e : ¬ (k - m < min n 8) := by omega
  simp [stl, List.getD, List.getElem?_append, parts_length, a, c, e, show m + n + (k - m - min n 8) = k by omega]

theorem vals_snoc (L : List Int) (k : Nat) (h : k < L.length) : vals (L.take (k + 1)) = vals (L.take k) ++ [.int .u8 (L.getD k 0)] := by
  have e : L.getD k 0 = L[k] := by simp [List.getD, h]
  show (L.take (k + 1)).map _ = (L.take k).map _ ++ [_]
  rw [List.take_succ_eq_append_getElem h, List.map_append, e]
  rfl

set_option maxRecDepth 100000 in
theorem refStore_ok (b off cap : Nat) (l : List Int) (m n : Nat) (v : Int) (w : World) (hl : l.length ≤ cap) (hc : cap ≤ 9223372036854775807) (hlen : l.length ≤ 2000)
    (hcell : ∀ i, i < l.length → w.cell? ⟨b, off + i, none⟩ = some (.int .u8 (l.getD i 0))) (hby : ∀ i, 0 ≤ l.getD i 0 ∧ l.getD i 0 < 256) (hblk : b < w.heap.size)
    (h0 : 0 ≤ v) (h1 : v < 18446744073709551616) (hf : fits v n = true) (hx1 : 1 ≤ n) (hx2 : n ≤ 8) (hp : plc l.length m n = 0) (hat : m + n ≤ l.length) :
    Calls Try.prog 42 #[.slice (some ⟨b, off, none⟩) l.length cap, .int .i64 m, .int .i64 n, .int .u64 v] w (Stored w l m n v) := by
  have hw : isW n = true := by simp [fits] at hf; exact hf.1
  have hL := stl_length l m n v (by omega) (by omega)
  have Hst : Hid (∀ e w', (∃ u, e = .returned (.tuple #[u, .int .i64 0]) ∧ Below w.heap.size w w' ∧ w'.ownsRow w.heap.size 5 1 u l.length (vals ((stl l m n v).take l.length))) → Stored w l m n v e w') := by
    rintro e w' ⟨u, rfl, hb, ho⟩
    have e0 : ste l m n v = 0 := by simp [ste, hf, hp]
    refine ⟨u, by rw [e0], hb, ?_⟩
    rw [if_pos e0, Int.toNat_natCast, Int.toNat_natCast]
    rw [List.take_of_length_le (by omega)] at ho
    exact row_of_owns ho hL (stl_bd l m n v h0 h1 hby)
  refine Calls.mono ?_ Hst.out
  have Hw := Lib.hid hw
  have Hf := Lib.hid hf
  have Hp := Lib.hid hp
  have HC := Lib.hid hcell
  have HL := Lib.hid hL
  clear hf hp hcell hw hL Hst hby
  obtain ⟨i0, hi, hz0, hz1, hz2⟩ := info_parts infoU8
  go_enter Try.func42, Try.ntmps42
  go_wp2_with (first
    | (go_at_call 48; refine (refWidth_any _ _).mono ?_; rintro e w' ⟨rfl, rfl⟩; rw [Hw.out])
    | (go_at_call 49; refine (refFits_any _ _ _ h0 h1).mono ?_; rintro e w' ⟨rfl, rfl⟩; rw [Hf.out])
    | (go_at_call 40; refine (refMay_yes _ _ _ _ Hw.out (by omega) (by omega)).mono ?_; rintro e w' ⟨rfl, rfl⟩; rw [Hp.out]))
  go_loopw [3, 11, 12] (fun vv out i wr => ∃ k : Nat, k ≤ l.length ∧ i = .int .i64 k ∧ vv = .int .u64 (v / 256 ^ min (k - m) n) ∧ wr.ownsRow w.heap.size 5 1 out k (vals ((stl l m n v).take k)) ∧ Below w.heap.size w wr) (fun _ _ i _ => l.length - (intOf i).toNat)
  case atStart => exact ⟨0, Nat.zero_le _, rfl, by simp, by simpa [vals] using World.ownsRow_nil _ _ _ _, Below.refl _ _⟩
  case round =>
    obtain ⟨k, hk, rfl, rfl, hown, hbel⟩ := hrel
    have HO := Lib.hid hown
    have hsz := hbel.size
    clear hown
    by_cases hlt : k < l.length
    · have hck := Lib.hid ((hbel.cell (p := ⟨b, off + k, none⟩) (show b < w.heap.size from hblk)).trans (HC.out k hlt))
      by_cases h3 : k < m
      · have hE := Lib.hid (stl_low l m n k v h3 (by omega))
        have hc1 := hck.out
        obtain ⟨x, hx⟩ : ∃ x, x = l.getD k 0 := ⟨_, rfl⟩
        rw [← hx] at hc1 hE
        clear hx hck
        have he1 : v / 256 ^ min (k - m) n = v := by rw [show min (k - m) n = 0 by omega]; simp
        have he2 := Lib.hid (show v / 256 ^ min (k + 1 - m) n = v by rw [show min (k + 1 - m) n = 0 by omega]; simp)
        rw [he1]
        clear he1
        have hb63 : k + 1 ≤ maxLen := maxLen_of (by omega)
        have hbby : (k + 1) * 1 ≤ 140737488355328 := by omega
        go_wp2_with (first
          | (at_builtin; refine wpList_append_own _ rfl (.tmp 45) (.tmp 50) 32 rfl w.heap.size 5 i0 (.int .u8 0) 1 1 Try.underlying32 hi hz0 hz1 hz2 rfl (by decide) _ _ _ rfl (HO.out.alloc _) ⟨wr.heap.size, 0, none⟩ 1 1 [.int .u8 x] rfl rfl (news_one _ _ _ _) (oneCell_one _ _) hb63 hbby (le_alloc _ hsz) ?_))
        intro v' w1 hown' hgrow _
        have hb1 : Below w.heap.size w w1 := (hbel.alloc hsz _).grown hgrow (by simp; omega) (fun r hr => (HO.out.lt r hr).1)
        have hown2 : Hid (w1.ownsRow w.heap.size 5 1 v' (k + 1) (vals ((stl l m n v).take (k + 1)))) := by
          unfold Hid
          rw [vals_snoc _ _ (by rw [HL.out]; exact hlt), hE.out]
          exact hown'
        clear hown' hgrow hbel
        go_wp2
        go_roundw
        case rel => exact ⟨k + 1, by omega, by go_num, by rw [he2.out], hown2.out, hb1⟩
        case measure => simp [intOf]; omega
      · by_cases h4 : k < m + n
        · have hE := Lib.hid (stl_mid l m n k v (by omega) (by omega) hx2 (by omega))
          have hG := Lib.hid (parts_get v (k - m) (by omega) h0 h1)
          have hc1 := hck.out
          have g0 : 0 ≤ v / 256 ^ (k - m) := Int.ediv_nonneg h0 (Int.pow_nonneg (by omega))
          have g1 : v / 256 ^ (k - m) ≤ v := Int.ediv_le_self _ h0
          rw [show min (k - m) n = k - m from by omega]
          have he2 := Lib.hid (show v / 256 ^ min (k + 1 - m) n = v / 256 ^ (k - m) / 256 by
            rw [show min (k + 1 - m) n = (k - m) + 1 by omega, Int.pow_succ, Int.ediv_ediv_of_nonneg (Int.pow_nonneg (by omega))])
          obtain ⟨V, hV⟩ : ∃ V, V = v / 256 ^ (k - m) := ⟨_, rfl⟩
          rw [← hV] at g0 g1 hG he2 ⊢
          clear hV
          have h7 : ¬ ((m : Int) + (n : Int) ≤ (k : Int)) := by omega
          have h8 : ¬ ((k : Int) < (m : Int)) := by omega
          have hb63 : k + 1 ≤ maxLen := maxLen_of (by omega)
          have hbby : (k + 1) * 1 ≤ 140737488355328 := by omega
          go_wp2_with (first
            | (at_builtin; refine wpList_append_own _ rfl (.tmp 52) (.tmp 56) 32 rfl w.heap.size 5 i0 (.int .u8 0) 1 1 Try.underlying32 hi hz0 hz1 hz2 rfl (by decide) _ _ _ rfl (HO.out.alloc _) ⟨wr.heap.size, 0, none⟩ 1 1 [.int .u8 (V % 256)] rfl rfl (news_one _ _ _ _) (oneCell_one _ _) hb63 hbby (le_alloc _ hsz) ?_))
          intro v' w1 hown' hgrow _
          have hb1 : Below w.heap.size w w1 := (hbel.alloc hsz _).grown hgrow (by simp; omega) (fun r hr => (HO.out.lt r hr).1)
          have hown2 : Hid (w1.ownsRow w.heap.size 5 1 v' (k + 1) (vals ((stl l m n v).take (k + 1)))) := by
            unfold Hid
            rw [vals_snoc _ _ (by rw [HL.out]; exact hlt), hE.out, hG.out]
            exact hown'
          clear hown' hgrow hbel
          go_wp2
          go_roundw
          case rel => exact ⟨k + 1, by omega, by go_num, by rw [he2.out], hown2.out, hb1⟩
          case measure => simp [intOf]; omega
        · have hE := Lib.hid (stl_high l m n k v (by omega) hx2 (by omega))
          have hc1 := hck.out
          obtain ⟨x, hx⟩ : ∃ x, x = l.getD k 0 := ⟨_, rfl⟩
          rw [← hx] at hc1 hE
          clear hx hck
          rw [show min (k - m) n = n from by omega]
          have he2 := Lib.hid (show v / 256 ^ min (k + 1 - m) n = v / 256 ^ n by rw [show min (k + 1 - m) n = n by omega])
          obtain ⟨V, hV⟩ : ∃ V, V = v / 256 ^ n := ⟨_, rfl⟩
          rw [← hV] at he2 ⊢
          clear hV
          have h7 : (m : Int) + (n : Int) ≤ (k : Int) := by omega
          have h8 : ¬ ((k : Int) < (m : Int)) := by omega
          have hb63 : k + 1 ≤ maxLen := maxLen_of (by omega)
          have hbby : (k + 1) * 1 ≤ 140737488355328 := by omega
          go_wp2_with (first
            | (at_builtin; refine wpList_append_own _ rfl (.tmp 45) (.tmp 50) 32 rfl w.heap.size 5 i0 (.int .u8 0) 1 1 Try.underlying32 hi hz0 hz1 hz2 rfl (by decide) _ _ _ rfl (HO.out.alloc _) ⟨wr.heap.size, 0, none⟩ 1 1 [.int .u8 x] rfl rfl (news_one _ _ _ _) (oneCell_one _ _) hb63 hbby (le_alloc _ hsz) ?_))
          intro v' w1 hown' hgrow _
          have hb1 : Below w.heap.size w w1 := (hbel.alloc hsz _).grown hgrow (by simp; omega) (fun r hr => (HO.out.lt r hr).1)
          have hown2 : Hid (w1.ownsRow w.heap.size 5 1 v' (k + 1) (vals ((stl l m n v).take (k + 1)))) := by
            unfold Hid
            rw [vals_snoc _ _ (by rw [HL.out]; exact hlt), hE.out]
            exact hown'
          clear hown' hgrow hbel
          go_wp2
          go_roundw
          case rel => exact ⟨k + 1, by omega, by go_num, by rw [he2.out], hown2.out, hb1⟩
          case measure => simp [intOf]; omega
    · obtain rfl : k = l.length := by omega
      go_wp2
      go_ret2
      exact ⟨_, rfl, hbel, HO.out⟩
end Go.Proofs.Ytncbfagmdldclaa.Num
