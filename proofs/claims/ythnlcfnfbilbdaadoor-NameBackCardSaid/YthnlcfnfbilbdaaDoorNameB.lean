/- Contracts of name's Text and the document's, of Same, Few. -/
import Derived.Test.YthnlcfnfbilbdaaDoorNameA
import Derived.ShutString
namespace Go.Proofs.YthnlcfnfbilbdaaDoor.Name
open Go.RowKit Fold
set_option linter.unusedVariables false

/-- A name's text, or none. -/
def txt (l : List ByteArray) : ByteArray := if chk l = 0 then (if l = [] then dotB else tx l) else ByteArray.empty
theorem txt_no {l : List ByteArray} (h : ¬ chk l = 0) : txt l = ByteArray.empty := by rw [txt, if_neg h]
theorem txt_root : txt [] = dotB := rfl
theorem txt_yes {l : List ByteArray} (h : chk l = 0) (hne : l ≠ []) : txt l = tx l := by rw [txt, if_pos h, if_neg hne]
theorem ret_pair {a b : Value} {c d : Value} (h1 : a = c) (h2 : b = d) : Ending.returned (.tuple #[a, b]) = .returned (.tuple #[c, d]) := by rw [h1, h2]

theorem text_any (v : Value) (l : List ByteArray) (w : World) (hr : SRow w v l) (hw : wire l ≤ 1000000000) :
    Calls Tryd.prog 12 #[v] w fun e w' => e = .returned (.tuple #[.string (txt l), .int .i64 (chk l)]) ∧ Below w.heap.size w w' := by
  have HE := Lib.hid (check_any v l w hr hw)
  have HR := Lib.hid hr
  obtain ⟨ad, cap, rfl, q2, q3, q4, q5⟩ := hr
  have HQ := Lib.hid q5
  clear q4 q5
  by_cases hc : chk l = 0
  · rw [hc] at HE ⊢
    by_cases hn : l.length = 0
    · obtain rfl : l = [] := List.eq_nil_of_length_eq_zero hn
      have HT := Lib.hid txt_root
      clear hc hn
      go_enter Tryd.func12, Tryd.ntmps12
      go_wp2_with fail
      refine HE.out.mono ?_
      rintro e w1 ⟨rfl, hb⟩
      go_wp2
      go_ret2
      exact ⟨ret_pair (by rw [HT.out]; rfl) rfl, hb⟩
    · have hne : l ≠ [] := fun e => hn (by rw [e]; rfl)
      have HT := Lib.hid (txt_yes hc hne)
      have hts := tx_size l hne
      have hlen := wire_len l
      have hn2 : ((l.length : Int) == 0) = false := by rw [beq_eq_false_iff_ne]; omega
      obtain ⟨b, off, rfl, hlb, hcell⟩ := HQ.out hne
      have HJ := Lib.hid (fun (u : World) (hb : Below w.heap.size w u) => Tryd.strings_Join b off cap l ⟨#[46]⟩ u (fun j x hx => by
        have hj : j < l.length := (List.getElem?_eq_some_iff.1 hx).1
        have hd : l.getD j ByteArray.empty = x := by rw [List.getD, hx]; rfl
        rw [← hd]
        exact (hb.cell (p := ⟨b, off + j, none⟩) hlb).trans (hcell j hj)) (Nat.lt_of_lt_of_le hlb hb.size) (by omega) q2 (by
          have e : (Lib.join (l.map (·.data.toList)) [46]).length = (tx l).size := (size_of_list _).symm
          show (Lib.join (l.map (·.data.toList)) [46]).length ≤ _
          rw [e]
          omega))
      clear hc hne hcell HQ hts hlen hn
      go_enter Tryd.func12, Tryd.ntmps12
      go_wp2_with fail
      refine HE.out.mono ?_
      rintro e w1 ⟨rfl, hb⟩
      go_wp2_with fail
      refine (HJ.out _ hb).mono ?_
      rintro e w2 ⟨rfl, hb2⟩
      go_wp2
      go_ret2
      exact ⟨ret_pair (by rw [HT.out]; rfl) rfl, hb.trans (hb2.mono hb.size)⟩
  · have HT := Lib.hid (txt_no hc)
    have hn2 : (chk l != 0) = true := by simpa using hc
    obtain ⟨m, hm⟩ : ∃ m, m = chk l := ⟨_, rfl⟩
    rw [← hm] at HE hn2 ⊢
    clear hc hm
    go_enter Tryd.func12, Tryd.ntmps12
    go_wp2_with fail
    refine HE.out.mono ?_
    rintro e w1 ⟨rfl, hb⟩
    go_wp2
    go_ret2
    exact ⟨ret_pair (by rw [HT.out]; rfl) rfl, hb⟩

theorem tx_take_one (l : List ByteArray) (h : 0 < l.length) : tx (l.take 1) = l.getD 0 ByteArray.empty := by
  match l, h with
  | x :: r, _ => exact tx_one x
theorem tx_take_succ (l : List ByteArray) (k : Nat) (h0 : 0 < k) (h : k < l.length) : tx (l.take (k + 1)) = tx (l.take k) ++ dotB ++ l.getD k ByteArray.empty := by
  have e : l.getD k ByteArray.empty = l[k] := by simp [List.getD, h]
  rw [e, List.take_succ_eq_append_getElem h, tx_snoc]
  intro he
  have := congrArg List.length he
  rw [List.length_take, List.length_nil] at this
  omega
theorem tx_take_size (l : List ByteArray) (k : Nat) (h0 : 0 < k) (h : k ≤ l.length) : (tx (l.take k)).size + 2 ≤ wire l := by
  have h1 := wire_take_le l k
  have h2 := tx_size (l.take k) (by
    intro he
    have := congrArg List.length he
    rw [List.length_take, List.length_nil] at this
    omega)
  omega

set_option maxRecDepth 100000 in
theorem refText_any (v : Value) (l : List ByteArray) (w : World) (hr : SRow w v l) (hw : wire l ≤ 1000000000) :
    Calls Tryd.prog 13 #[v] w fun e w' => e = .returned (.tuple #[.string (txt l), .int .i64 (chk l)]) ∧ w = w' := by
  have HE := Lib.hid (refCheck_any v l w hr hw)
  have HR := Lib.hid hr
  obtain ⟨ad, cap, rfl, q2, q3, q4, q5⟩ := hr
  have HQ := Lib.hid q5
  clear q4 q5
  by_cases hc : chk l = 0
  · rw [hc] at HE ⊢
    by_cases hn : l.length = 0
    · obtain rfl : l = [] := List.eq_nil_of_length_eq_zero hn
      have HT := Lib.hid txt_root
      clear hc hn
      go_enter Tryd.func13, Tryd.ntmps13
      go_wp2_with fail
      refine HE.out.mono ?_
      rintro e w1 ⟨rfl, rfl⟩
      go_wp2
      go_ret2
      exact ⟨ret_pair (by rw [HT.out]; rfl) rfl, rfl⟩
    · have hne : l ≠ [] := fun e => hn (by rw [e]; rfl)
      have HT := Lib.hid (txt_yes hc hne)
      have hn2 : ((l.length : Int) == 0) = false := by rw [beq_eq_false_iff_ne]; omega
      have hn3 : (0 : Int) < l.length := by omega
      have hn4 : 0 < l.length := by omega
      obtain ⟨b, off, rfl, hlb, hcell⟩ := HQ.out hne
      have HC := Lib.hid hcell
      have h0 := hcell 0 hn4
      have HT1 := Lib.hid (tx_take_one l hn4)
      rw [← tx_take_one l hn4, Nat.add_zero] at h0
      clear hc hne hcell HQ hn
      go_enter Tryd.func13, Tryd.ntmps13
      go_wp2_with fail
      refine HE.out.mono ?_
      rintro e w1 ⟨rfl, rfl⟩
      go_wp2
      go_loop [5, 6] (fun s i => ∃ (k : Nat) (t : ByteArray), 0 < k ∧ k ≤ l.length ∧ i = .int .i64 k ∧ s = .string t ∧ t.size ≤ 1000000000 ∧ Hid (t = tx (l.take k))) (fun _ i => l.length - (intOf i).toNat)
      case atStart => exact ⟨1, _, by omega, by omega, rfl, rfl, by have := tx_take_size l 1 (by omega) (by omega); omega, rfl⟩
      case round =>
        obtain ⟨k, t, hk0, hk, rfl, rfl, hts, HX⟩ := hrel
        by_cases hlt : k < l.length
        · have hlt1 : (k : Int) < (l.length : Int) := by omega
          have hcell := HC.out k hlt
          have h1 := tx_take_succ l k hk0 hlt
          have h2 := tx_take_size l (k + 1) (by omega) hlt
          rw [← HX.out] at h1
          rw [h1] at h2
          obtain ⟨x, hx⟩ : ∃ x, x = l.getD k ByteArray.empty := ⟨_, rfl⟩
          rw [← hx] at hcell h1 h2
          have H1 := Lib.hid h1
          have h3 : (t ++ ⟨#[46]⟩ ++ x).size ≤ 1000000000 := by
            have : (t ++ dotB ++ x).size + 2 ≤ wire l := h2
            have e : (t ++ ⟨#[46]⟩ ++ x) = t ++ dotB ++ x := rfl
            rw [e]
            omega
          have h4 : t.size + x.size ≤ 1000000000 := by
            have := h3
            simp only [ByteArray.size_append] at this
            omega
          have H3 := Lib.hid h3
          clear hx h1 h2 h3
          go_wp2
          go_round
          case rel => exact ⟨k + 1, _, by omega, by omega, by go_num, rfl, H3.out, H1.out.symm⟩
          case measure => simp [intOf]; omega
        · obtain rfl : k = l.length := by omega
          have HW : Hid (txt l = t) := by have := HX.out; rw [List.take_length] at this; unfold Hid; rw [this, HT.out]
          go_wp2
          go_ret2
          exact ⟨ret_pair (by rw [HW.out]; rfl) rfl, rfl⟩
  · have HT := Lib.hid (txt_no hc)
    have hn2 : (chk l != 0) = true := by simpa using hc
    obtain ⟨m, hm⟩ : ∃ m, m = chk l := ⟨_, rfl⟩
    rw [← hm] at HE hn2 ⊢
    clear hc hm
    go_enter Tryd.func13, Tryd.ntmps13
    go_wp2_with fail
    refine HE.out.mono ?_
    rintro e w1 ⟨rfl, rfl⟩
    go_wp2
    go_ret2
    exact ⟨ret_pair (by rw [HT.out]; rfl) rfl, rfl⟩
end Go.Proofs.YthnlcfnfbilbdaaDoor.Name
