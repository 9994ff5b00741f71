/- The contract of the landed Views of spans. -/
import Derived.Test.YtbjdlfeipidlbaaSpanV
import Derived.Test.YtbjdlfeipidlbaaSpanT
namespace Go.Proofs.Ytbjdlfeipidlbaa.Span
open Go.RowKit Rec
set_option linter.unusedVariables false

/-- A view of v's part. -/
def VOne (v : Value) (p : Nat × Nat) (u : Value) : Prop := ∃ x, u = .slice x p.2 p.2 ∧ (0 < p.2 → ∃ b off n c, v = .slice (some ⟨b, off, none⟩) n c ∧ x = some ⟨b, off + p.1, none⟩)

set_option maxRecDepth 100000 in
set_option maxHeartbeats 2000000 in
theorem viewsOf_any (v : Value) (l : List Int) (w : World) (hr : Row .u8 w v l) (hl : l.length ≤ 3000) :
    Calls Try.prog 19 #[v] w (VGot w v (ofV l)) := by
  obtain ⟨iS, hiS, hzS0, hzS1, hzS2⟩ := info_parts infoBs
  have HO := Lib.hid (of_any v l w hr hl)
  have HR := Lib.hid hr
  have HBy := Lib.hid hr.bytes
  unfold OfGot at HO
  by_cases hc : (unpV l).2 = 0
  · have hu := unp_zero hc
    obtain ⟨L, hL⟩ : ∃ L, L = (unpV l).1 := ⟨_, rfl⟩
    rw [← hL] at hu
    obtain ⟨f1, f2, f3, f4⟩ := ofV_fits HBy.out hu
    rw [ofV_yes hu] at HO ⊢
    obtain ⟨P, hP⟩ : ∃ P, P = spL (2 + 2 * L.length) L := ⟨_, rfl⟩
    have hPL : P.length = L.length := by rw [hP, spL_length]
    have HFit : Hid (∀ i, i < P.length → (P.getD i (0, 0)).1 + (P.getD i (0, 0)).2 ≤ l.length) := by
      intro i hi
      have h1 := spL_get (2 + 2 * L.length) L i (by omega)
      have h2 := dat_take_succ L i (by omega)
      have h3 := dat_take_le L (i + 1)
      rw [hP, h1]
      show 2 + 2 * L.length + dat (L.take i) + (L.getD i []).length ≤ l.length
      omega
    have hP1 : 1 ≤ P.length := by omega
    have hP16 : P.length ≤ 16 := by omega
    rw [← hP] at HO ⊢
    have HL := Lib.hid hl
    obtain ⟨ad, cap, rfl, p2, p3, -, -⟩ := hr
    clear hL hc hu f1 f2 f3 f4 hP hPL hl
    go_enter Try.func19, Try.ntmps19
    go_wp2_with fail
    refine HO.out.mono ?_
    rintro e w1 ⟨u, rfl, hb1, hp⟩
    obtain ⟨a1, cap1, rfl, g2, g3, g5⟩ := hp
    obtain ⟨hb, ho, rfl, hlb, hcc⟩ := g5 (by rintro rfl; simp at hP1)
    have HC := Lib.hid hcc
    have HB1 := Lib.hid hb1
    have HR1 := Lib.hid (HR.out.mono hb1 (Nat.le_refl _))
    clear g5 hcc HO hb1
    go_wp2_with (refine wpList_make_row rfl (.tmp 18) (.tmp 18) 38 rfl 22 iS (.slice none 0 0) 24 Try.underlying38 hiS hzS0 hzS1 hzS2 .i64 .i64 P.length rfl rfl (by omega) (by omega) ?_)
    have HV0 := Lib.hid (CellsAt.made w1 (.slice none 0 0) P.length 22)
    have HB0 : Hid (Below w1.heap.size w1 (w1.alloc (.cells (madeCells #[Value.slice none 0 0] P.length) 22))) := below_made w1 _
    obtain ⟨w0, hw0⟩ : ∃ w0, w0 = w1.alloc (.cells (madeCells #[Value.slice none 0 0] P.length) 22) := ⟨_, rfl⟩
    rw [← hw0] at HV0 HB0 ⊢
    clear hw0
    go_wp2
    go_loopw [22] (fun i wr => ∃ (k : Nat) (U : Nat → Value), k ≤ P.length ∧ i = .int .i64 k ∧ Hid (CellsAt wr w1.heap.size P.length U) ∧ Hid (∀ i, i < k → VOne (.slice ad l.length cap) (P.getD i (0, 0)) (U i)) ∧ Hid (Below w1.heap.size w1 wr)) (fun i _ => P.length - (intOf i).toNat)
    case atStart => exact ⟨0, _, Nat.zero_le _, rfl, HV0.out, fun i h => absurd h (by omega), HB0.out⟩
    case round =>
      obtain ⟨k, U, hk, rfl, HV, HU, HB⟩ := hrel
      have hsz := HB.out.size
      by_cases hlt : k < P.length
      · have hlt1 : (k : Int) < (P.length : Int) := by omega
        have hlt0 : (0 : Int) ≤ (k : Int) := by omega
        have hcell := HC.out k hlt
        have hfit := HFit.out k hlt
        obtain ⟨p, hp⟩ : ∃ p, p = P.getD k (0, 0) := ⟨_, rfl⟩
        rw [← hp] at hcell hfit
        have HPk := Lib.hid hp
        obtain ⟨x, y⟩ := p
        simp only [] at hcell hfit
        have d0 := (HB.out.cell (p := ⟨hb, ho + k * 2, none⟩) hlb).trans hcell.1
        have d1 := (HB.out.cell (p := ⟨hb, ho + k * 2 + 1, none⟩) hlb).trans hcell.2
        have hal := below_made wr (.cells #[.int .i64 (x : Int), .int .i64 (y : Int)] 31)
        have hal0 := below_made wr (.cells #[.int .i64 0, .int .i64 0] 31)
        have d2 := (hal0.cell (p := ⟨hb, ho + k * 2, none⟩) (by simp only []; omega)).trans d0
        have d3 := (hal0.cell (p := ⟨hb, ho + k * 2 + 1, none⟩) (by simp only []; omega)).trans d1
        have hza := HV.out.1
        have HN := Lib.hid (cut_in _ l x y (wr.alloc (.cells #[.int .i64 (x : Int), .int .i64 (y : Int)] 31)) ((HR1.out.mono HB.out (Nat.le_refl _)).mono hal (Nat.le_refl _)) HL.out hfit)
        have HAl := Lib.hid hal
        clear hcell hfit hp hal hal0
        go_wp2_with fail
        refine HN.out.mono ?_
        rintro e w2 ⟨hb2, xa, rfl, hxa⟩
        have hbel := HAl.out.trans (hb2.mono HAl.out.size)
        have HV1 := Lib.hid (HV.out.mono hbel (Nat.le_refl _))
        obtain ⟨g0, f0⟩ := HV1.out.2 k hlt
        have HV2 := Lib.hid (HV1.out.set k hlt (.slice xa y y))
        have HB2 : Hid (Below w1.heap.size w1 (w2.setCell ⟨w1.heap.size, k, none⟩ (.slice xa y y))) := (HB.out.trans (hbel.mono hsz)).setCell (Nat.le_refl _) _
        have HU2 : Hid (∀ i, i < k + 1 → VOne (.slice ad l.length cap) (P.getD i (0, 0)) ((fun j => if j = k then Value.slice xa y y else U j) i)) := by
          intro i hi
          by_cases e : i = k
          · subst e
            simp only [if_pos rfl]
            rw [← HPk.out]
            exact ⟨xa, rfl, hxa⟩
          · simp only [if_neg e]
            exact HU.out i (by omega)
        clear hb2 hbel hxa HV HV1 HU HB HN HAl HPk
        go_wp2
        go_roundw
        case rel => exact ⟨k + 1, _, by omega, by go_num, HV2, HU2, HB2⟩
        case measure => simp [intOf]; omega
      · obtain rfl : k = P.length := by omega
        have hE : VGot w (.slice ad l.length cap) (P, 0) (.returned (.tuple #[.slice (some ⟨w1.heap.size, 0, none⟩) P.length P.length, .int .i64 0])) wr :=
          ⟨_, rfl, HB1.out.trans (HB.out.mono HB1.out.size), _, _, U, rfl, Nat.le_refl _, by omega, HU.out, fun _ => ⟨w1.heap.size, 0, rfl, HV.out.1, fun i hi => by rw [Nat.zero_add]; exact (HV.out.2 i hi).1⟩⟩
        have HE := Lib.hid hE
        clear hE HV HU HB
        go_wp2
        go_ret2
        exact HE.out
  · rw [ofV_no hc] at HO ⊢
    obtain ⟨c, hcc⟩ : ∃ c, c = (unpV l).2 := ⟨_, rfl⟩
    have hc2 : (c != 0) = true := by rw [hcc]; simpa using hc
    rw [← hcc] at HO ⊢
    clear hcc hc
    go_enter Try.func19, Try.ntmps19
    go_wp2_with fail
    refine HO.out.mono ?_
    rintro e w1 ⟨u, rfl, hb1, hp⟩
    obtain ⟨a1, cap1, rfl, -, -, -⟩ := hp
    simp only []
    go_wp2
    go_ret2
    exact ⟨_, rfl, hb1, none, 0, fun _ => undef, rfl, by simp, by omega, fun i hi => by simp at hi, fun h => absurd rfl h⟩
end Go.Proofs.Ytbjdlfeipidlbaa.Span
