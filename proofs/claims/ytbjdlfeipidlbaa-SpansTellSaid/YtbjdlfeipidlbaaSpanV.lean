/- The contract of the landed Of of spans. -/
import Derived.Test.YtbjdlfeipidlbaaSpanU
namespace Go.Proofs.Ytbjdlfeipidlbaa.Span
open Go.RowKit Rec
set_option linter.unusedVariables false

set_option maxRecDepth 100000 in
set_option maxHeartbeats 2000000 in
theorem of_any (v : Value) (l : List Int) (w : World) (hr : Row .u8 w v l) (hl : l.length ≤ 3000) :
    Calls Try.prog 9 #[v] w (OfGot w (ofV l)) := by
  have HU := Lib.hid (unpack_any v l w hr (by omega))
  have HBy := Lib.hid hr.bytes
  unfold OGot at HU
  by_cases hc : (unpV l).2 = 0
  · have hu := unp_zero hc
    obtain ⟨L, hL⟩ : ∃ L, L = (unpV l).1 := ⟨_, rfl⟩
    rw [← hL] at hu
    obtain ⟨f1, f2, f3, f4⟩ := ofV_fits HBy.out hu
    rw [ofV_yes hu]
    rw [hu] at HU
    obtain ⟨ad, cap, rfl, p2, p3, -, -⟩ := hr
    have HF1 := Lib.hid f1
    obtain ⟨N, hN⟩ : ∃ N, N = l.length := ⟨_, rfl⟩
    rw [← hN] at HU HF1 p2 f4 ⊢
    clear hL hc hu f1 hN hl
    go_enter Try.func9, Try.ntmps9
    go_wp2_with fail
    refine HU.out.mono ?_
    rintro e w1 ⟨u, rfl, hb1, hq⟩
    obtain ⟨ad1, cap1, U, rfl, g2, g3, g4, g5⟩ := hq.qrow
    obtain ⟨hb, ho, rfl, hlb, hcc⟩ := g5 (by rintro rfl; simp at f2)
    have HC := Lib.hid hcc
    have HS := Lib.hid g4
    have HB1 := Lib.hid hb1
    clear g4 g5 hcc hq HU hb1
    have hz1 : (w1.alloc (.cells #[.slice (some ⟨hb, ho, none⟩) L.length cap1] 38)).heap.size = w1.heap.size + 1 := size_alloc _ _
    have HB0 : Hid (Below w1.heap.size w1 ((w1.alloc (.cells #[.slice (some ⟨hb, ho, none⟩) L.length cap1] 38)).alloc (.cells #[.int .i64 (N : Int)] 3))) :=
      ((Below.refl _ w1).alloc (Nat.le_refl _) _).alloc (by omega) _
    have e0 : ((w1.alloc (.cells #[.slice (some ⟨hb, ho, none⟩) L.length cap1] 38)).alloc (.cells #[.int .i64 (N : Int)] 3)).heap[w1.heap.size]? = some (.cells #[.slice (some ⟨hb, ho, none⟩) L.length cap1] 38 (0, 0)) :=
      (Below.heap_alloc _ _ _ (by omega)).trans (heap_alloc_new _ _)
    have e1 : ((w1.alloc (.cells #[.slice (some ⟨hb, ho, none⟩) L.length cap1] 38)).alloc (.cells #[.int .i64 (N : Int)] 3)).heap[w1.heap.size + 1]? = some (.cells #[.int .i64 (N : Int)] 3 (0, 0)) := by
      have := heap_alloc_new (w1.alloc (.cells #[.slice (some ⟨hb, ho, none⟩) L.length cap1] 38)) (.cells #[.int .i64 (N : Int)] 3)
      rw [hz1] at this
      exact this
    clear hz1
    go_wp2
    generalize (w1.alloc (.cells #[.slice (some ⟨hb, ho, none⟩) L.length cap1] 38)).alloc (.cells #[.int .i64 (N : Int)] 3) = W at HB0 e0 e1 ⊢
    have hW := lt_of_block e1
    go_loopw [21] (fun i wr => ∃ (k m : Nat), k ≤ L.length ∧ i = .int .i64 k ∧ Hid (m + dat (L.take k) = N) ∧ Hid (wr.heap[w1.heap.size + 1]? = some (.cells #[.int .i64 (m : Int)] 3 (0, 0))) ∧ Hid (Fr W.heap.size (fun b => b = w1.heap.size + 1) W wr)) (fun i _ => L.length - (intOf i).toNat)
    case atStart => exact ⟨0, N, Nat.zero_le _, rfl, by simp [Hid, dat], e1, Fr.refl _ _ _⟩
    case round =>
      obtain ⟨k, m, hk, rfl, HM, HA, HF⟩ := hrel
      have hHB := HB0.out
      by_cases hlt : k < L.length
      · have hlt1 : (k : Int) < (L.length : Int) := by omega
        have hcell := HF.out.cell ((HB0.out.cell (p := ⟨hb, ho + k, none⟩) hlb).trans (HC.out k hlt)) (by omega) (by omega)
        obtain ⟨xa, xc, hx, -⟩ := HS.out k hlt
        have hd1 := dat_take_succ L k hlt
        have hM := HM.out
        rw [hx] at hcell
        obtain ⟨x, hxl⟩ : ∃ x, x = (L.getD k []).length := ⟨_, rfl⟩
        rw [← hxl] at hcell hd1
        have hd2 := dat_take_le L (k + 1)
        have hf1 := HF1.out
        have HM2 : Hid (m - x + dat (L.take (k + 1)) = N) := by unfold Hid; omega
        have hw : IntKind.i64.wrap ((m : Int) - (x : Int)) = ((m - x : Nat) : Int) := (wrap_id (by omega) (by omega)).trans (by omega)
        obtain ⟨q, hq⟩ : ∃ q, q = m - x := ⟨_, rfl⟩
        rw [← hq] at hw HM2
        have cA := cell_of_one HA.out
        have fA := free_of_one HA.out
        have HA2 := Lib.hid (one_setCell (u := .int .i64 (q : Int)) HA.out)
        have HF2 : Hid (Fr W.heap.size (fun b => b = w1.heap.size + 1) W (wr.setCell ⟨w1.heap.size + 1, 0, none⟩ (.int .i64 (q : Int)))) := HF.out.setCell (.inr rfl) _
        clear hx hd1 hd2 hM hxl hf1 hq HA HF HM hHB
        go_wp2
        go_roundw
        case rel => exact ⟨k + 1, q, by omega, by go_num, HM2, HA2, HF2⟩
        case measure => simp [intOf]; omega
      · obtain rfl : k = L.length := by omega
        have hM := HM.out
        rw [List.take_length] at hM
        have hf1 := HF1.out
        obtain rfl : m = 2 + 2 * L.length := by omega
        have hl := (HF.out.block w1.heap.size (by omega) (by omega)).trans e0
        have hcc2 : ∀ i, i < L.length → wr.cell? ⟨hb, ho + i, none⟩ = some (U i) := fun i hi => HF.out.cell ((HB0.out.cell (p := ⟨hb, ho + i, none⟩) hlb).trans (HC.out i hi)) (by omega) (by omega)
        have hUU : ∀ i, i < L.length → ∃ xa xc, U i = .slice xa (L.getD i []).length xc := fun i hi => by
          obtain ⟨xa, xc, hx, -⟩ := HS.out i hi
          exact ⟨xa, xc, hx⟩
        have hsz := HF.out.size
        have HP := Lib.hid (produced_any L (2 + 2 * L.length) (w1.heap.size + 1) w1.heap.size hb ho cap1 U wr HA.out hl (by omega) f3 (by omega) (by omega) hcc2 hUU (by omega))
        have HB2 : Hid (Below w.heap.size w wr) := HB1.out.trans ((HB0.out.trans (HF.out.toBelow (by omega) (fun k hk => by omega))).mono HB1.out.size)
        have hz := HB1.out.size
        have cl := cell_of_one hl
        clear hM hf1 hl hcc2 hUU HA HF HM HC HS hHB
        go_wp2_with fail
        refine HP.out.mono ?_
        rintro e w2 ⟨u2, rfl, hfr, hprow⟩
        have hb2 : Below w.heap.size w w2 := HB2.out.trans (hfr.toBelow (by omega) (fun k hk => by omega))
        have HPR := Lib.hid hprow
        clear hprow hfr
        obtain ⟨a3, c3, hu2, -, -, -⟩ := HPR.out
        subst hu2
        go_wp2
        go_ret2
        exact ⟨_, rfl, hb2, HPR.out⟩
  · rw [ofV_no hc]
    obtain ⟨c, hcc⟩ : ∃ c, c = (unpV l).2 := ⟨_, rfl⟩
    have hc2 : (c != 0) = true := by rw [hcc]; simpa using hc
    have HU2 : Hid (Calls Try.prog 21 #[v] w fun e w' => ∃ a n p, e = .returned (.tuple #[.slice a n p, .int .i64 c]) ∧ Below w.heap.size w w') := by
      unfold Hid
      refine HU.out.mono ?_
      rintro e w' ⟨u, h1, h2, h3⟩
      obtain ⟨a, p, U, rfl, -⟩ := h3.qrow
      exact ⟨a, _, p, by rw [hcc]; exact h1, h2⟩
    rw [← hcc]
    clear hcc hc HU
    go_enter Try.func9, Try.ntmps9
    go_wp2_with fail
    refine HU2.out.mono ?_
    rintro e w1 ⟨a1, n1, p1, rfl, hb1⟩
    have hb2 := hb1.alloc hb1.size (.cells #[.slice a1 n1 p1] 38)
    go_wp2
    go_ret2
    exact ⟨_, rfl, hb2, PRow.nil _⟩
end Go.Proofs.Ytbjdlfeipidlbaa.Span
