/- Contract of the document's Store. -/
import Derived.Test.YtkknegnipodcnaaDoorNumF
import Derived.Test.YtkknegnipodcnaaDoorKit2
namespace Go.Proofs.YtkknegnipodcnaaDoor.Num
open Go.RowKit
set_option linter.unusedVariables false

theorem row_of_owns {w : World} {base : Nat} {t : TypeId} {v : Value} {n : Nat} {l : List Int} (h : w.ownsRow base t 1 v n (vals l)) (hn : l.length = n) (hb : ∀ i, 0 ≤ l.getD i 0 ∧ l.getD i 0 < 256) : Row .u8 w v l := by
  obtain ⟨h1, h2⟩ := h
  subst hn
  rcases h2 with ⟨rfl, h0⟩ | ⟨g, cap, cur, rfl, hg, hh, hle, hm, hsz, htk⟩
  · obtain rfl : l = [] := List.eq_nil_of_length_eq_zero h0
    exact Row.nil _ _
  · refine ⟨_, cap, rfl, hle, by unfold maxLen at hm; omega, fun i hi => ?_, fun _ => ⟨g, 0, rfl, (Array.getElem?_eq_some_iff.1 hh).1, fun i hi => ?_⟩⟩
    · have := hb i; exact WalkArith.wf_u8 (by omega)
    · rw [Nat.zero_add, cell_block hh]
      have e := vals_get l i hi
      rw [← htk, List.getElem?_take_of_lt (by omega)] at e
      rw [← e]
      simp

theorem parts_get (v : Int) (j : Nat) (hj : j < 8) (h0 : 0 ≤ v) (h1 : v < 18446744073709551616) : (parts v).getD j 0 = v / 256 ^ j % 256 := by
  match j, hj with
  | 0, _ => simp [parts]
  | 1, _ => simp [parts]
  | 2, _ => simp [parts]
  | 3, _ => simp [parts]
  | 4, _ => simp [parts]
  | 5, _ => simp [parts]
  | 6, _ => simp [parts]
  | 7, _ => simp [parts]; omega

theorem stl_low (l : List Int) (m n k : Nat) (v : Int) (h : k < m) (hm : m ≤ l.length) : (stl l m n v).getD k 0 = l.getD k 0 := by
  simp [stl, List.getD, List.getElem?_append, show k < l.length by omega, show k < min m l.length by omega]
theorem stl_mid (l : List Int) (m n k : Nat) (v : Int) (h : m ≤ k) (h2 : k < m + n) (hn : n ≤ 8) (hm : m ≤ l.length) : (stl l m n v).getD k 0 = (parts v).getD (k - m) 0 := by
  have a : ¬ k < min m l.length := by omega
  have b : k - min m l.length < n := by omega
  have c : k - min m l.length = k - m := by omega
  have e : k - m < (parts v).length := by rw [parts_length]; omega
  have : (parts v).getD (k - m) 0 = (parts v)[k - m] := by simp [List.getD, e]
  rw [this]
  simp [stl, List.getD, List.getElem?_append, parts_length, a, c, show k - m < min n 8 by omega]
theorem stl_high (l : List Int) (m n k : Nat) (v : Int) (h : m + n ≤ k) (hn : n ≤ 8) (hm : m + n ≤ l.length) : (stl l m n v).getD k 0 = l.getD k 0 := by
  have a : ¬ k < min m l.length := by omega
  have c : k - min m l.length = k - m := by omega
  have e : ¬ (k - m < min n 8) := by omega
  simp [stl, List.getD, List.getElem?_append, parts_length, a, c, e, show m + n + (k - m - min n 8) = k by omega]

theorem vals_snoc (L : List Int) (k : Nat) (h : k < L.length) : vals (L.take (k + 1)) = vals (L.take k) ++ [.int .u8 (L.getD k 0)] := by
  have e : L.getD k 0 = L[k] := by simp [List.getD, h]
  show (L.take (k + 1)).map _ = (L.take k).map _ ++ [_]
  rw [List.take_succ_eq_append_getElem h, List.map_append, e]
  rfl

end Go.Proofs.YtkknegnipodcnaaDoor.Num
