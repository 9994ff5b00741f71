/- spans' functions do what the walks of the statements ask. -/
import Derived.Test.YtbjdlfeipidlbaaSpanW
import Derived.Test.YtbjdlfeipidlbaaSpanS
import Derived.Test.YtbjdlfeipidlbaaRecZ
namespace Go.Proofs.Ytbjdlfeipidlbaa.Span
open Go.RowKit Rec
set_option linter.unusedVariables false

theorem row_part {w : World} {v : Value} {l : List Int} (h : Row .u8 w v l) (a m : Nat) (hf : a + m ≤ l.length) (x : Option Addr) (hx : 0 < m → ∃ b off n c, v = .slice (some ⟨b, off, none⟩) n c ∧ x = some ⟨b, off + a, none⟩) : Row .u8 w (.slice x m m) ((l.drop a).take m) := by
  have hL : ((l.drop a).take m).length = m := by rw [List.length_take, List.length_drop]; omega
  have hbb := bytes_sub h.bytes a m
  obtain ⟨ad, cap, rfl, q2, q3, -, q5⟩ := h
  refine ⟨x, m, by rw [hL], by rw [hL]; exact Nat.le_refl _, by omega, fun i _ => wf_bytes hbb i, fun hne => ?_⟩
  have hm : 0 < m := by rw [← hL]; exact List.length_pos_iff.2 hne
  obtain ⟨b, off, n, c, hv, rfl⟩ := hx hm
  obtain ⟨b', off', e, hlt, hcc⟩ := q5 (by rintro rfl; simp at hf; omega)
  injection hv with hv _ _
  rw [e] at hv
  injection hv with hv
  injection hv with h1 h2 _
  subst h1 h2
  refine ⟨b', off' + a, rfl, hlt, fun i hi => ?_⟩
  rw [hL] at hi
  rw [Nat.add_assoc, hcc (a + i) (by omega)]
  simp [List.getD, hi]

theorem does : Does where
  of_ := of_any
  views := viewsOf_any
  cut := fun v l a m w hr hl h1 h2 h3 h4 => by
    by_cases hf : fitS l.length a m = true
    · have hb : 0 ≤ a ∧ 0 ≤ m ∧ a ≤ l.length ∧ m ≤ (l.length : Int) - a := by simpa [fitS, and_assoc] using hf
      obtain ⟨x, rfl⟩ : ∃ x : Nat, a = x := ⟨a.toNat, by omega⟩
      obtain ⟨y, rfl⟩ : ∃ y : Nat, m = y := ⟨m.toNat, by omega⟩
      have hfit : x + y ≤ l.length := by omega
      refine (cut_in v l x y w hr hl hfit).mono ?_
      rintro e w' ⟨hbel, xa, he, hx⟩
      refine ⟨hbel, .inl ⟨hf, xa, ?_, ?_⟩⟩
      · rw [Int.toNat_natCast]; exact he
      · rw [Int.toNat_natCast, Int.toNat_natCast]
        exact row_part (hr.mono hbel (Nat.le_refl _)) x y hfit xa hx
    · have hf' : fitS l.length a m = false := by simpa using hf
      refine (cut_out v l a m w hr hl h1 h2 h3 h4 hf').mono ?_
      rintro e w' ⟨rfl, hbel⟩
      exact ⟨hbel, .inr ⟨hf', none, 0, rfl⟩⟩
  inside := fun a n b m w _ _ _ _ _ _ _ _ => inside_any a n b m w
  apart := fun a n b m w _ _ _ _ _ _ _ _ => apart_any a n b m w
  pack := fun v L w hr h => by
    refine (pack_own v L w hr (by have := few6_out h; omega)).mono ?_
    intro e w' hp
    exact hp.wrow (qrow_bytes hr) (few6_out h).2
end Go.Proofs.Ytbjdlfeipidlbaa.Span
