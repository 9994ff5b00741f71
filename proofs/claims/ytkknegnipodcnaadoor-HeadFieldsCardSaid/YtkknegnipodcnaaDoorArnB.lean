/- Contracts of the document's arena: Read, Write, Zero, Move. -/
import Derived.Test.YtkknegnipodcnaaDoorArnA
import Derived.BigRegion
import Derived.Deep.AppendLies
namespace Go.Proofs.YtkknegnipodcnaaDoor.Arn
open Go.RowKit Num
set_option linter.unusedVariables false

/-- What a slice [lo:hi] of a row is, as a walk shows it. -/
theorem Row.cutA {w : World} {b off n c lo hi : Nat} {l : List Int} (h : Row .u8 w (.slice (some ⟨b, off, none⟩) n c) l) (h1 : lo ≤ hi) (h2 : hi ≤ l.length) (a : Option Addr) (m k : Nat) (hm : m = hi - lo) (hk : k = c - lo) (ha : a = some ⟨b, off + lo, none⟩ ∨ hi = lo) : Row .u8 w (.slice a m k) ((l.drop lo).take (hi - lo)) := by
  subst hm hk
  obtain ⟨ad, cap, e, q2, q3, q4, q5⟩ := h
  injection e with e1 e2 e3
  subst e1 e2 e3
  have hL : ((l.drop lo).take (hi - lo)).length = hi - lo := by rw [List.length_take, List.length_drop]; omega
  refine ⟨a, c - lo, by rw [hL], by rw [hL]; omega, by omega, fun i hi' => ?_, fun hne => ?_⟩
  · rw [hL] at hi'
    have := q4 (lo + i) (by omega)
    simpa [List.getD, hi'] using this
  · have hpos : 0 < hi - lo := by rw [← hL]; exact List.length_pos_iff.2 hne
    obtain ⟨b', off', e4, hlt, hc⟩ := q5 (by rintro rfl; simp at h2; omega)
    injection e4 with e4
    injection e4 with e5 e6 _
    subst e5 e6
    rcases ha with rfl | h0
    · refine ⟨b, off + lo, rfl, hlt, fun i hi' => ?_⟩
      rw [hL] at hi'
      rw [Nat.add_assoc, hc (lo + i) (by omega)]
      simp [List.getD, hi']
    · omega

def ReadGot (w : World) (r : List Int × Int) (e : Ending) (w' : World) : Prop := ∃ u, e = .returned (.tuple #[u, .int .i64 r.2]) ∧ Below w.heap.size w w' ∧ Row .u8 w' u r.1

theorem row_owned {w : World} {base n : Nat} {t : TypeId} {v : Value} {l : List Int} (h : w.ownsRow base t 1 v n (vals l)) (hn : l.length = n) (hb : IsBytes l) : Row .u8 w v l := row_of_owns h hn hb

theorem owns_slice {w : World} {base : Nat} {e : TypeId} {size : Nat} {v : Value} {n : Nat} {xs : List Value} (h : w.ownsRow base e size v n xs) : ∃ a c, v = .slice a n c := by
  rcases h.2 with ⟨rfl, rfl⟩ | ⟨g, cap, cur, rfl, _⟩
  · exact ⟨none, 0, rfl⟩
  · exact ⟨_, _, rfl⟩

end Go.Proofs.YtkknegnipodcnaaDoor.Arn
