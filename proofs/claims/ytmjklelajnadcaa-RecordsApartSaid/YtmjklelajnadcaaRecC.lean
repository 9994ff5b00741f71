/- The contract of the document's Pack. -/
import Derived.Test.YtmjklelajnadcaaRecB
import Derived.Test.YtmjklelajnadcaaKit9
namespace Go.Proofs.Ytmjklelajnadcaa.Rec
open Go.RowKit
set_option linter.unusedVariables false

def PGot (w : World) (L : List (List Int)) (e : Ending) (w' : World) : Prop :=
  ∃ u, e = .returned (.tuple #[u, .int .i64 (szE L)]) ∧ Below w.heap.size w w' ∧ Row .u8 w' u (pckB L)

theorem infoB2 : (Try.prog.info? 5).map (fun i => (i.zero, i.size, i.bytes)) = some (some (.int .u8 0), 1, 1) := by kernel_rfl

theorem owns_shape {w : World} {base : Nat} {e : TypeId} {size : Nat} {v : Value} {n : Nat} {xs : List Value} (h : w.ownsRow base e size v n xs) : ∃ a cap, v = .slice a n cap := by
  rcases h.2 with ⟨rfl, rfl⟩ | ⟨g, cap, cur, rfl, _⟩
  · exact ⟨_, _, rfl⟩
  · exact ⟨_, _, rfl⟩
theorem wrap_b {n : Int} (h1 : 0 ≤ n) (h2 : n ≤ 255) : IntKind.u8.wrap n = n := by simp [IntKind.wrap, IntKind.bits, IntKind.signed]; omega
theorem mem_bytes {l : List Int} (h : ∀ x ∈ l, 0 ≤ x ∧ x < 256) (i : Nat) : 0 ≤ l.getD i 0 ∧ l.getD i 0 < 256 := by
  by_cases hi : i < l.length
  · simpa [List.getD, hi] using h l[i] (List.getElem_mem hi)
  · simp [List.getD, show l[i]? = none from List.getElem?_eq_none (by omega)]
theorem bytes_mem {l : List Int} (h : ∀ i, 0 ≤ l.getD i 0 ∧ l.getD i 0 < 256) : ∀ x ∈ l, 0 ≤ x ∧ x < 256 := by
  intro x hx
  obtain ⟨i, hi, rfl⟩ := List.mem_iff_getElem.1 hx
  simpa [List.getD, hi] using h i
theorem qrow_mem {w : World} {v : Value} {L : List (List Int)} (h : QRow w v L) : ∀ l ∈ L, ∀ x ∈ l, 0 ≤ x ∧ x < 256 := by
  obtain ⟨a, cap, U, rfl, h2, h3, h4, h5⟩ := h
  intro l hl
  obtain ⟨i, hi, rfl⟩ := List.mem_iff_getElem.1 hl
  have := h4 i hi
  rw [show L.getD i [] = L[i] by simp [List.getD, hi]] at this
  exact bytes_mem this.bytes
theorem flat_mem {L : List (List Int)} (h : ∀ l ∈ L, ∀ x ∈ l, 0 ≤ x ∧ x < 256) : ∀ x ∈ L.flatten, 0 ≤ x ∧ x < 256 := by
  intro x hx
  obtain ⟨l, hl, hx⟩ := List.mem_flatten.1 hx
  exact h l hl x hx
theorem hdr_mem (n : Nat) (L : List (List Int)) (h : n + dat L < 65536) : ∀ x ∈ hdr n L, 0 ≤ x ∧ x < 256 := by
  induction L generalizing n with
  | nil => intro x hx; simp [hdr] at hx
  | cons l r ih =>
    rw [dat_cons] at h
    intro x hx
    simp only [hdr, List.mem_cons] at hx
    rcases hx with rfl | rfl | hx
    · omega
    · omega
    · exact ih (n + l.length) (by omega) x hx
/-- What is written ahead of the records, so far. -/
def pre (L : List (List Int)) (k : Nat) : List Int := (L.length : Int) :: 0 :: hdr 0 (L.take k)
theorem pre_snoc (L : List (List Int)) (k : Nat) (h : k < L.length) : pre L (k + 1) = pre L k ++ [((dat (L.take (k + 1)) % 256 : Nat) : Int), ((dat (L.take (k + 1)) / 256 : Nat) : Int)] := by
  have h1 := dat_take_succ L k h
  have e : L.getD k [] = L[k] := by simp [List.getD, h]
  unfold pre
  rw [List.take_succ_eq_append_getElem h, hdr_snoc, ← List.take_succ_eq_append_getElem h, h1, e, Nat.zero_add]
  rfl
theorem flat_snoc (L : List (List Int)) (k : Nat) (h : k < L.length) : (L.take (k + 1)).flatten = (L.take k).flatten ++ L.getD k [] := by
  have e : L.getD k [] = L[k] := by simp [List.getD, h]
  rw [List.take_succ_eq_append_getElem h, e, List.flatten_append, List.flatten_cons, List.flatten_nil, List.append_nil]
theorem packed_mem {L : List (List Int)} (hm : ∀ l ∈ L, ∀ x ∈ l, 0 ≤ x ∧ x < 256) (h : dat L ≤ 480) (hl : L.length ≤ 16) : ∀ x ∈ packL L, 0 ≤ x ∧ x < 256 := by
  intro x hx
  unfold packL at hx
  rcases List.mem_append.1 hx with hx | hx
  · simp only [List.mem_cons] at hx
    rcases hx with rfl | rfl | hx
    · omega
    · omega
    · exact hdr_mem 0 L (by omega) x hx
  · exact flat_mem hm x hx

set_option maxRecDepth 100000 in
set_option maxHeartbeats 4000000 in
theorem refPack_any (v : Value) (L : List (List Int)) (w : World) (hr : QRow w v L) (hd : dat L ≤ 1000000000) :
    Calls Try.prog 11 #[v] w (PGot w L) := by
  obtain ⟨iB, hiB, hzB0, hzB1, hzB2⟩ := info_parts infoB2
  have hS := refSize_any v L w hr hd
  have HM := Lib.hid (qrow_mem hr)
  obtain ⟨ad, cap, U, rfl, q2, q3, q4, q5⟩ := hr
  have HQ := Lib.hid q5
  have HR := Lib.hid q4
  clear q4 q5
  by_cases he : szE L = 0
  · have hb : 1 ≤ L.length ∧ L.length ≤ 16 ∧ szL L ≤ 480 := by
      unfold szE at he
      split at he
      · omega
      · split at he <;> omega
    have hp : pckB L = packL L := by rw [pckB, if_pos he]
    have hdat : dat L ≤ 480 := by have := hb.2.2; unfold szL at this; omega
    have HE : Hid (∀ u w', Below w.heap.size w w' → Row .u8 w' u (packL L) → PGot w L (.returned (.tuple #[u, .int .i64 0])) w') := by
      intro u w' h1 h2
      refine ⟨u, by rw [he], h1, by rw [hp]; exact h2⟩
    rw [he] at hS
    obtain ⟨l1, l2, -⟩ := hb
    have HS := Lib.hid hS
    clear hS hp he hd
    have l3 : (L.length : Int) < 256 := by omega
    have l4 : IntKind.u8.wrap (L.length : Int) = (L.length : Int) := wrap_b (by omega) (by omega)
    go_enter Try.func11, Try.ntmps11
    go_wp2_with fail
    refine HS.out.mono ?_
    rintro e w' ⟨rfl, rfl⟩
    simp only []
    go_wp2
    go_loopw [6, 7, 8] (fun bv dv i wr => ∃ k : Nat, k ≤ L.length ∧ i = .int .i64 k ∧ Hid (wr.ownsRow w.heap.size 5 1 bv (2 + 2 * k) (vals (pre L k))) ∧ Hid (wr.ownsRow w.heap.size 5 1 dv (dat (L.take k)) (vals (L.take k).flatten)) ∧ Hid (∀ r, bv.ownBlock = some r → dv.ownBlock ≠ some r) ∧ Below w.heap.size w wr) (fun _ _ i _ => L.length - (intOf i).toNat)
    case atStart =>
      refine ⟨0, Nat.zero_le _, rfl, ?_, ?_, ?_, (Below.refl _ _).alloc (Nat.le_refl _) _⟩
      · exact World.ownsRow_lit w #[.int .u8 L.length, .int .u8 0] 2 (Nat.le_refl _) (by decide) rfl
      · exact World.ownsRow_nil _ _ _ _
      · intro r _; simp [Value.ownBlock]
    case round =>
      obtain ⟨k, hk, rfl, HB, HD, HA, hbel⟩ := hrel
      have hsz := hbel.size
      by_cases hlt : k < L.length
      · have hlt1 : (k : Int) < (L.length : Int) := by omega
        obtain ⟨b, off, rfl, hlb, hc⟩ := HQ.out (by rintro rfl; simp at hlt)
        have hcell := (hbel.cell (p := ⟨b, off + k, none⟩) hlb).trans (hc k hlt)
        have hrx := (HR.out k hlt).mono hbel (Nat.le_refl _)
        have h3 := dat_take_succ L k hlt
        have h4 := dat_take_le L (k + 1)
        have hps := pre_snoc L k hlt
        have hfs := flat_snoc L k hlt
        obtain ⟨X, hX⟩ : ∃ X, X = L.getD k [] := ⟨_, rfl⟩
        rw [← hX] at hrx h3 hfs
        obtain ⟨D, hD⟩ : ∃ D, D = dat (L.take k) := ⟨_, rfl⟩
        obtain ⟨D1, hD1⟩ : ∃ D1, D1 = dat (L.take (k + 1)) := ⟨_, rfl⟩
        rw [← hD, ← hD1] at h3
        rw [← hD1] at hps h4
        rw [← hD] at HD
        obtain ⟨V, hV⟩ : ∃ V, V = U k := ⟨_, rfl⟩
        rw [← hV] at hcell hrx
        have HRX := Lib.hid hrx
        obtain ⟨adx, capx, rfl, -, -, -, -⟩ := hrx
        have hD480 : D + X.length ≤ 480 := by omega
        have HPS := Lib.hid hps
        have HFS := Lib.hid hfs
        have HD1 := Lib.hid hD1
        have H3 := Lib.hid h3
        have HLB := Lib.hid HB.out.lt
        have HLD := Lib.hid HD.out.lt
        have hD1b : D1 ≤ 480 := by omega
        clear hX hD hV hc hps hfs hD1 h3 h4
        go_wp2_with (at_builtin; refine wpList_append_row _ rfl (.tmp 27) (.tmp 31) 25 rfl w.heap.size 5 iB (.int .u8 0) Try.underlying25 hiB hzB0 hzB1 hzB2 rfl _ _ _ rfl HD.out _ X rfl HRX.out (by omega) hsz ?_)
        intro v1 w1 hown1 hgrow1 hblk1
        have hb1 : Below w.heap.size w w1 := hbel.grown hgrow1 hsz (fun r hr => (HLD.out r hr).1)
        have HB1 : Hid (w1.ownsRow w.heap.size 5 1 u6 (2 + 2 * k) (vals (pre L k))) := by
          refine HB.out.kept hgrow1 ?_
          cases hu : u6.ownBlock with
          | none => exact .inl rfl
          | some r => exact .inr fun e => HA.out r hu e.symm
        have HA1 : Hid (∀ r, u6.ownBlock = some r → v1.ownBlock ≠ some r) := by
          intro r hr e
          rcases hblk1 with h | h
          · exact HA.out r hr (h.symm.trans e)
          · rw [h] at e
            injection e with e
            have := (HLB.out r hr).2
            omega
        rw [← H3.out, ← HFS.out] at hown1
        obtain ⟨ad1, cap1, rfl⟩ := owns_shape hown1
        have HD5 := Lib.hid hown1
        have hsz1 := hb1.size
        have HLB1 := Lib.hid HB1.out.lt
        have HLD1 := Lib.hid hown1.lt
        have r1 : Int.tmod (D1 : Int) 256 = ((D1 % 256 : Nat) : Int) := by rw [Int.tmod_eq_emod_of_nonneg (by omega)]; omega
        have r2 : Int.tdiv (D1 : Int) 256 = ((D1 / 256 : Nat) : Int) := by rw [Int.tdiv_eq_ediv_of_nonneg (by omega)]; omega
        obtain ⟨p, hp⟩ : ∃ p, p = D1 % 256 := ⟨_, rfl⟩
        obtain ⟨q, hq⟩ : ∃ q, q = D1 / 256 := ⟨_, rfl⟩
        have hp1 : (p : Int) < 256 := by omega
        have hq1 : (q : Int) < 256 := by omega
        rw [← hp] at r1
        rw [← hq] at r2
        have HP := Lib.hid hp
        have HQ2 := Lib.hid hq
        have HX2 := Lib.hid (Row.made (k := .u8) w1 [(p : Int), (q : Int)] 5 #[.int .u8 p, .int .u8 q] rfl (by
          intro i hi
          have h1 : ∀ x ∈ [(p : Int), (q : Int)], 0 ≤ x ∧ x < 256 := by
            intro x hx
            simp only [List.mem_cons, List.not_mem_nil, or_false] at hx
            rcases hx with rfl | rfl <;> omega
          have := mem_bytes h1 i
          exact WalkArith.wf_u8 (by omega)) (by simp))
        clear hown1 hgrow1 hblk1 HB HD HA HLB HLD hbel hsz hp hq
        go_wp2_with (at_builtin; refine wpList_append_row _ rfl (.tmp 33) (.tmp 42) 25 rfl w.heap.size 5 iB (.int .u8 0) Try.underlying25 hiB hzB0 hzB1 hzB2 rfl _ _ _ rfl (HB1.out.alloc _) _ [(p : Int), (q : Int)] rfl HX2.out (by simp; omega) (le_alloc _ hsz1) ?_)
        intro v2 w2 hown2 hgrow2 hblk2
        have hb2 : Below w.heap.size w w2 := (hb1.alloc hsz1 _).grown hgrow2 (by simp; omega) (fun r hr => (HLB1.out r hr).1)
        have HD2 : Hid (w2.ownsRow w.heap.size 5 1 (.slice ad1 D1 cap1) D1 (vals (L.take (k + 1)).flatten)) := by
          refine (HD5.out.alloc _).kept hgrow2 ?_
          cases hu : u6.ownBlock with
          | none =>
            cases hv : (Value.slice ad1 D1 cap1).ownBlock with
            | none => exact .inl rfl
            | some r => exact .inr (by simp)
          | some r => exact .inr (HA1.out r hu)
        have HA2 : Hid (∀ r, v2.ownBlock = some r → (Value.slice ad1 D1 cap1).ownBlock ≠ some r) := by
          intro r hr e
          rcases hblk2 with h | h
          · exact HA1.out r (h.symm.trans hr) e
          · have h2 := (HLD1.out r e).2
            rw [h] at hr
            simp only [Option.some.injEq] at hr
            omega
        have HB2 : Hid (w2.ownsRow w.heap.size 5 1 v2 (2 + 2 * (k + 1)) (vals (pre L (k + 1)))) := by
          unfold Hid
          rw [HPS.out, ← HP.out, ← HQ2.out, show 2 + 2 * (k + 1) = 2 + 2 * k + 2 by omega]
          exact hown2
        clear hown2 hgrow2 hblk2 HD5 HA1 HB1 hb1 HX2 r1 r2
        go_wp2
        go_roundw
        case rel => exact ⟨k + 1, by omega, by go_num, HB2, by unfold Hid; rw [← HD1.out]; exact HD2.out, HA2, hb2⟩
        case measure => simp [intOf]; omega
      · have hkn : k = L.length := by omega
        subst hkn
        have hmF := flat_mem HM.out
        have hmP := packed_mem HM.out hdat l2
        have hDw := HD.out
        rw [List.take_length] at hDw
        have hBw := HB.out
        have hrow : Row .u8 wr u7 L.flatten := row_of_owns hDw (dat_flatten L) (mem_bytes hmF)
        have hpk : packL L = pre L L.length ++ L.flatten := by unfold packL pre; rw [List.take_length]
        have HRow := Lib.hid hrow
        have HBw := Lib.hid hBw
        have hfl : L.flatten.length ≤ 480 := by rw [dat_flatten]; exact hdat
        have HLB := Lib.hid HB.out.lt
        have HPK := Lib.hid hpk
        have HMP := Lib.hid (mem_bytes hmP)
        obtain ⟨adx, capx, rfl, -, -, -, -⟩ := hrow
        clear hDw hBw hmF hmP hpk
        go_wp2_with (at_builtin; refine wpList_append_row _ rfl (.tmp 44) (.tmp 45) 25 rfl w.heap.size 5 iB (.int .u8 0) Try.underlying25 hiB hzB0 hzB1 hzB2 rfl _ _ _ rfl HBw.out _ L.flatten rfl HRow.out (by omega) hsz ?_)
        intro v3 w3 hown3 hgrow3 hblk3
        have hb3 : Below w.heap.size w w3 := hbel.grown hgrow3 hsz (fun r hr => (HLB.out r hr).1)
        rw [← HPK.out] at hown3
        have HR3 := Lib.hid (row_of_owns hown3 (by rw [packL_length]; rfl) HMP.out)
        clear hown3 hgrow3 hblk3
        go_wp2
        go_ret2
        exact HE.out _ _ hb3 HR3.out
  · have hn : (szE L != 0) = true := by simpa using he
    have HE : Hid (∀ w', Below w.heap.size w w' → PGot w L (.returned (.tuple #[.slice none 0 0, .int .i64 (szE L)])) w') := by
      intro w' h1
      exact ⟨_, rfl, h1, by rw [pckB, if_neg he]; exact Row.nil _ _⟩
    have HS := Lib.hid hS
    clear hS he
    go_enter Try.func11, Try.ntmps11
    go_wp2_with fail
    refine HS.out.mono ?_
    rintro e w' ⟨rfl, rfl⟩
    simp only []
    go_wp2
    go_ret2
    exact HE.out _ (Below.refl _ _)
end Go.Proofs.Ytmjklelajnadcaa.Rec
