/- Contracts of wire's Get and All. -/
import Derived.Test.YtjhmjimfehanbaaWireQ
import Derived.WalkMore
import Derived.Deep.LoopGhost
namespace Go.Proofs.Ytjhmjimfehanbaa.Wire
open Go.RowKit Fold Name
set_option linter.unusedVariables false

/-- What still has to be done in Get's parts. -/
def msr (n k : Nat) : Nat := if n ≤ k then 0 else k + 1
theorem msr_less {n k to : Nat} (hk : k < n) (h : to < k) : msr n to < msr n k := by
  unfold msr
  rw [if_neg (by omega), if_neg (by omega)]
  omega
theorem msr_end {n k k2 : Nat} (hk : k < n) (h : n ≤ k2) : msr n k2 < msr n k := by
  unfold msr
  rw [if_pos h, if_neg (by omega)]
  omega
theorem madeI2 (w : World) (x y : Int) (hx : (Lit.int .i64 x).wf = true) (hy : (Lit.int .i64 y).wf = true) : Row .i64 (w.alloc (.cells #[.int .i64 x, .int .i64 y] 3)) (.slice (some ⟨w.heap.size, 0, none⟩) 2 2) [x, y] :=
  Row.made w [x, y] 3 _ rfl (fun i hi => by
    match i, hi with
    | 0, _ => exact hx
    | 1, _ => exact hy) (by simp)

set_option maxRecDepth 100000 in
set_option maxHeartbeats 4000000 in
theorem get_any (v : Value) (a : Int) (l : List Int) (w : World) (hr : Row .u8 w v l) (hl : l.length ≤ 100000) (ha1 : -9223372036854775808 ≤ a) (ha2 : a ≤ 9223372036854775807) :
    Calls Try.prog 8 #[v, .int .i64 a] w (Got w (getV l a)) := by
  obtain ⟨i0, hi, hz0, hz1, hz2⟩ := info_parts infoStr
  have HB := Lib.hid hr.bytes
  have HRow := Lib.hid hr
  by_cases hv : a < 0 ∨ (l.length : Int) ≤ a
  · have hg : getV l a = ([], 0, 2) := by rw [getV, if_pos hv]
    obtain ⟨ad, cap, rfl, q2, q3, q4, q5⟩ := hr
    clear q4 q5
    have HG : Hid (Got w (getV l a) (.returned (.tuple #[.slice none 0 0, .int .i64 0, .int .i64 2])) w) := by rw [hg]; exact ⟨_, rfl, Below.refl _ _, FRow.nil _ _⟩
    have hcase : a < 0 ∨ (¬ a < 0 ∧ (l.length : Int) ≤ a) := by omega
    clear hv hg
    rcases hcase with h1 | ⟨h1, h2⟩
    · go_enter Try.func8, Try.ntmps8
      go_wp2
      go_step3
      go_wp2
      (try rw [Exit.noGoto_ret]); go_ret3
      exact HG.out
    · go_enter Try.func8, Try.ntmps8
      go_wp2
      go_step3
      go_wp2
      (try rw [Exit.noGoto_ret]); go_ret3
      exact HG.out
  · have hg : getV l a = getW l a.toNat a.toNat 0 [] := by rw [getV, if_neg hv]
    obtain ⟨A, rfl⟩ := Int.eq_ofNat_of_zero_le (show 0 ≤ a by omega)
    rw [Int.toNat_natCast] at hg
    rw [hg]
    obtain ⟨ad, cap, rfl, q2, q3, q4, q5⟩ := hr
    obtain ⟨b, off, rfl, hlb, hc⟩ := q5 (by rintro rfl; simp at hv)
    have HC := Lib.hid hc
    have hv1 : decide ((A : Int) < 0) = false := by simp
    have hv0 : ¬ (A : Int) < 0 := by omega
    have hv3 : decide (l.length ≤ A) = false := by simp; omega
    have hv2 : ¬ (l.length : Int) ≤ (A : Int) := by omega
    have hA : A < l.length := by omega
    clear q4 q5 hc hg hv
    go_enter Try.func8, Try.ntmps8
    go_wp2
    go_step3
    go_wp2
    go_step3
    go_wp2
    go_loopw [1, 7, 8, 9] (fun at_ L nx pt wr => ∃ (k x : Nat) (acc : List ByteArray), k ≤ l.length ∧ x ≤ l.length ∧ wire acc ≤ 255 ∧ at_ = .int .i64 k ∧ pt = .int .i64 k ∧ nx = .int .i64 x ∧ Hid (getW l k k x acc = getW l A A 0 []) ∧ Hid (wr.ownsRow w.heap.size 9 1 L acc.length (valsS acc)) ∧ Below w.heap.size w wr) (fun at_ _ _ _ _ => msr l.length (intOf at_).toNat)
    case atStart => exact ⟨A, 0, [], by omega, by omega, by decide, rfl, rfl, rfl, rfl, by simpa [valsS, Hid] using World.ownsRow_nil _ _ _ _, Below.refl _ _⟩
    case round =>
      obtain ⟨g, x, acc0, hgl, hxl, hwa0, rfl, rfl, rfl, HG0, HO0, hbel0⟩ := hrel
      clear hv1 hv0 hv2 hv3 hA
      by_cases hgt : g < l.length
      · have hgi : (g : Int) < (l.length : Int) := by omega
        have hms0 := fun to => msr_less (n := l.length) (k := g) (to := to) hgt
        have HMS := Lib.hid hms0
        have HME := Lib.hid (fun k2 => msr_end (n := l.length) (k := g) (k2 := k2) hgt)
        have hxi : ((x : Int) ≤ 100000) := by omega
        clear hms0 hgt
        go_wp2
        go_loopw [1, 7, 8] (fun at_ L nx wr => ∃ (k : Nat) (acc : List ByteArray), k ≤ l.length ∧ wire acc ≤ 255 ∧ at_ = .int .i64 k ∧ nx = .int .i64 x ∧ Hid (getW l k g x acc = getW l A A 0 []) ∧ Hid (wr.ownsRow w.heap.size 9 1 L acc.length (valsS acc)) ∧ Below w.heap.size w wr) (fun at_ _ _ _ => l.length - (intOf at_).toNat)
        case atStart => exact ⟨g, acc0, hgl, hwa0, rfl, rfl, HG0, HO0, hbel0⟩
        case round =>
          clear hbel0 HO0 HG0 hgi
          obtain ⟨k, acc, hk, hwa, rfl, rfl, HG, HO, hbel⟩ := hrel
          have hsz := hbel.size
          by_cases hlt : k < l.length
          · have hk1 : (k : Int) < (l.length : Int) := by omega
            have hk0 : (0 : Int) ≤ (k : Int) := by omega
            have hcell := (hbel.cell (p := ⟨b, off + k, none⟩) hlb).trans (HC.out k hlt)
            have hbd := HB.out k
            have hG := HG.out
            have HRr := Lib.hid (HRow.out.mono hbel (Nat.le_refl _))
            obtain ⟨n, hn⟩ := Int.eq_ofNat_of_zero_le hbd.1
            have hn256 : (n : Int) < 256 := by omega
            rw [hn] at hcell
            by_cases h0 : n = 0
            · subst h0
              rw [getW_zero hlt hn] at hG
              have HE : Hid (∀ u w', Below w.heap.size w w' → FRow w.heap.size w' u acc → Got w (getW l A A 0 []) (.returned (.tuple #[u, .int .i64 (if (x : Int) = 0 then (k : Int) + 1 else (x : Int)), .int .i64 0])) w') := by
                rw [← hG]; intro u w' h1 h2
                refine ⟨u, ?_, h1, h2⟩
                by_cases hx : x = 0
                · subst hx; simp
                · rw [if_neg hx, if_neg (show ¬ (x : Int) = 0 by omega)]
              have HS := Lib.hid ((owns_frow HO.out (by omega)).mono (below_made wr (.cells #[.int .i64 (x : Int), .int .i64 ((k : Int) + 1)] 3)) (Nat.le_refl _))
              have HM := Lib.hid (madeI2 wr (x : Int) ((k : Int) + 1) (WalkArith.wf_i64 (by omega)) (WalkArith.wf_i64 (by omega)))
              have hb2 := hbel.alloc hsz (.cells #[.int .i64 (x : Int), .int .i64 ((k : Int) + 1)] 3)
              clear hG HG hn hbd HB
              go_wp2_with fail
              refine (or_any _ _ _ _ HM.out).mono ?_
              rintro e w3 ⟨rfl, rfl⟩
              obtain ⟨y, hy⟩ : ∃ y, y = if (x : Int) = 0 then (k : Int) + 1 else (x : Int) := ⟨_, rfl⟩
              rw [← hy] at HE ⊢
              clear hy
              go_wp2
              (try rw [Exit.noGoto_ret]); go_ret3
              exact HE.out _ _ hb2 HS.out
            · have hn0 : ((n : Int) == 0) = false := by rw [beq_eq_false_iff_ne]; omega
              by_cases h192 : 192 ≤ n
              · have h192i : (192 : Int) ≤ (n : Int) := by omega
                by_cases hk3 : k + 1 < l.length
                · obtain ⟨to, hto⟩ : ∃ to, ((l.getD k 0 - 192) * 256 + l.getD (k + 1) 0).toNat = to := ⟨_, rfl⟩
                  have HP := Lib.hid (readPointer_any _ l k g to wr HRr.out hl hk3 (by omega) hto (by omega))
                  by_cases hlt2 : to < g
                  · rw [getW_ptr _ hto hlt (by omega) hk3 hlt2] at hG
                    rw [if_pos hlt2] at HP
                    have HTG := Lib.hid (HMS.out to hlt2)
                    have HG2 : Hid (∀ y : Nat, (y : Int) = (if (x : Int) = 0 then (k : Int) + 2 else (x : Int)) → getW l to to y acc = getW l A A 0 [] ∧ y ≤ l.length) := by
                      intro y hy
                      rw [← hG]
                      by_cases hx : x = 0
                      · subst hx
                        simp at hy
                        obtain rfl : y = k + 2 := by omega
                        exact ⟨by simp, by omega⟩
                      · rw [if_neg (show ¬ (x : Int) = 0 by omega)] at hy
                        obtain rfl : y = x := by omega
                        exact ⟨by rw [if_neg hx], by omega⟩
                    have hto64 : to ≤ l.length := by omega
                    clear hG HG hn hbd HB h0 hto hlt2
                    go_wp2_with fail
                    refine HP.out.mono ?_
                    rintro e w3 ⟨rfl, hm⟩
                    have hb3 := below_drawn (Below.refl wr.heap.size wr) hm
                    have HO3 := Lib.hid (ownsRow_stays HO.out hb3)
                    have hbel3 := hbel.trans (hb3.mono hsz)
                    have hsz3 := hbel3.size
                    have HM := Lib.hid (madeI2 w3 (x : Int) ((k : Int) + 2) (WalkArith.wf_i64 (by omega)) (WalkArith.wf_i64 (by omega)))
                    have HO4 := Lib.hid (HO3.out.alloc (.cells #[.int .i64 (x : Int), .int .i64 ((k : Int) + 2)] 3))
                    have hbel4 := hbel3.alloc hsz3 (.cells #[.int .i64 (x : Int), .int .i64 ((k : Int) + 2)] 3)
                    clear hm hb3 hbel HO hbel3 HO3
                    go_wp2_with fail
                    refine (or_any _ _ _ _ HM.out).mono ?_
                    rintro e w4 ⟨rfl, rfl⟩
                    obtain ⟨y, hy⟩ : ∃ y : Nat, (y : Int) = if (x : Int) = 0 then (k : Int) + 2 else (x : Int) := by
                      by_cases hx : x = 0
                      · exact ⟨k + 2, by rw [if_pos (by omega)]; omega⟩
                      · exact ⟨x, by rw [if_neg (by omega)]⟩
                    obtain ⟨hg2, hy2⟩ := HG2.out y hy
                    rw [← hy]
                    have HG3 := Lib.hid hg2
                    clear hy hg2 HG2
                    go_wp2
                    go_roundw
                    case rel => exact ⟨to, y, acc, by omega, by omega, hwa, rfl, rfl, rfl, HG3, HO4, hbel4⟩
                    case measure => simpa [intOf] using HTG.out
                  · rw [getW_ahead hlt (by omega) hk3 (by omega)] at hG
                    rw [if_neg hlt2] at HP
                    have HE : Hid (∀ w', Below w.heap.size w w' → Got w (getW l A A 0 []) (.returned (.tuple #[.slice none 0 0, .int .i64 0, .int .i64 4])) w') := by
                      rw [← hG]; intro w' h1; exact ⟨_, rfl, h1, FRow.nil _ _⟩
                    clear hG HG hn hbd HB h0 hto hlt2 HO
                    go_wp2_with fail
                    refine HP.out.mono ?_
                    rintro e w3 ⟨rfl, hm⟩
                    have hbel3 := below_drawn hbel hm
                    clear hm
                    go_wp2
                    (try rw [Exit.noGoto_ret]); go_ret3
                    exact HE.out _ hbel3
                · rw [getW_short hlt (by omega) hk3] at hG
                  have HP := Lib.hid (readPointer_short _ l k g wr HRr.out hlt hl hk3)
                  have HE : Hid (∀ w', Below w.heap.size w w' → Got w (getW l A A 0 []) (.returned (.tuple #[.slice none 0 0, .int .i64 0, .int .i64 3])) w') := by
                    rw [← hG]; intro w' h1; exact ⟨_, rfl, h1, FRow.nil _ _⟩
                  clear hG HG hn hbd HB h0 HO hk3
                  go_wp2_with fail
                  refine HP.out.mono ?_
                  rintro e w3 ⟨rfl, rfl⟩
                  go_wp2
                  (try rw [Exit.noGoto_ret]); go_ret3
                  exact HE.out _ hbel
              · have h192i : ¬ (192 : Int) ≤ (n : Int) := by omega
                by_cases h64 : 64 ≤ n
                · rw [getW_form hlt (by omega) (by omega)] at hG
                  have HP := Lib.hid (readLabel_form _ l k n wr HRr.out hlt hn (by omega))
                  unfold LGot at HP
                  have HE : Hid (∀ w', Below w.heap.size w w' → Got w (getW l A A 0 []) (.returned (.tuple #[.slice none 0 0, .int .i64 0, .int .i64 4])) w') := by
                    rw [← hG]; intro w' h1; exact ⟨_, rfl, h1, FRow.nil _ _⟩
                  clear hG HG hn hbd HB h0 HO h192 h64
                  go_wp2_with fail
                  refine HP.out.mono ?_
                  rintro e w3 ⟨rfl, hb3⟩
                  have hbel3 := hbel.trans (hb3.mono hsz)
                  clear hb3 hbel
                  go_wp2
                  (try rw [Exit.noGoto_ret]); go_ret3
                  exact HE.out _ hbel3
                · by_cases hk3 : k + 1 + n ≤ l.length
                  · have G1 := Lib.hid (getW_bad (bg := g) (nx := x) (acc := acc) n hn hlt (by omega) (by omega) hk3)
                    have G2 := Lib.hid (getW_much (bg := g) (nx := x) (acc := acc) n hn hlt (by omega) (by omega) hk3)
                    have G3 := Lib.hid (getW_label (bg := g) (nx := x) (acc := acc) n hn hlt (by omega) (by omega) hk3)
                    obtain ⟨s, hs⟩ : ∃ s, s = strOfNums ((l.drop (k + 1)).take n) := ⟨_, rfl⟩
                    have hsn : s.size = n := by rw [hs, strOfNums_size, List.length_take, List.length_drop]; omega
                    have HP := Lib.hid (readLabel_any _ l k n wr HRr.out hn (by omega) (by omega) hk3 s hs)
                    unfold LGot at HP
                    rw [← hs] at G1 G2 G3
                    have hls := lowS_size s
                    clear hs hn hbd HB
                    by_cases hlab : labS s = 0
                    · rw [if_pos hlab, if_pos hlab] at HP
                      obtain ⟨X, hX⟩ : ∃ X, X = lowS s := ⟨_, rfl⟩
                      rw [← hX] at HP G2 G3 hls
                      have hwx := wire_append acc [X]
                      have hw1 : wire (acc ++ [X]) = wire acc + X.size + 1 := by simp only [wire] at hwx; omega
                      have hXn : (X.size : Int) = n := by omega
                      have hE := Lib.hid (valsS_snoc acc X)
                      have hal := wire_len acc
                      have hb63 : acc.length + 1 ≤ maxLen := maxLen_of (by omega)
                      have hbby : (acc.length + 1) * 16 ≤ 140737488355328 := by omega
                      have HWI := Lib.hid (fun u v hu => wire_any v (acc ++ [X]) u hu (by omega))
                      clear hX hwx G1 hal
                      go_wp2_with fail
                      refine HP.out.mono ?_
                      rintro e w3 ⟨rfl, hb3⟩
                      have HO3 := Lib.hid (ownsRow_stays HO.out hb3)
                      have hbel3 := hbel.trans (hb3.mono hsz)
                      have hsz3 := hbel3.size
                      clear hb3 hbel HO
                      go_wp2_with (at_builtin; refine wpList_append_own _ rfl (.tmp 74) (.tmp 76) 24 rfl w.heap.size 9 i0 (.string ByteArray.empty) 1 16 Try.underlying24 hi hz0 hz1 hz2 rfl (by decide) _ _ _ rfl (HO3.out.alloc _) ⟨w3.heap.size, 0, none⟩ 1 1 [.string X] rfl rfl (news_oneS _ _ _) (oneCell_oneS _) hb63 hbby (le_alloc _ hsz3) ?_)
                      intro v' w5 hown' hgrow _
                      have hb1 : Below w.heap.size w w5 := (hbel3.alloc hsz3 _).grown hgrow (by simp; omega) (fun r hr => (HO3.out.lt r hr).1)
                      have hown2 : Hid (w5.ownsRow w.heap.size 9 1 v' (acc ++ [X]).length (valsS (acc ++ [X]))) := by
                        unfold Hid
                        rw [hE.out, List.length_append]
                        exact hown'
                      have HS2 := Lib.hid (owns_frow hown2.out (by omega))
                      clear hown' hgrow
                      by_cases h255 : 255 < wire (acc ++ [X])
                      · have h255i : (255 : Int) < (wire (acc ++ [X]) : Int) := by omega
                        rw [G2.out hlab h255] at hG
                        have HE : Hid (∀ w', Below w.heap.size w w' → Got w (getW l A A 0 []) (.returned (.tuple #[.slice none 0 0, .int .i64 0, .int .i64 21])) w') := by
                          rw [← hG]; intro w' h1; exact ⟨_, rfl, h1, FRow.nil _ _⟩
                        have HW2 := Lib.hid (HWI.out _ _ HS2.out.1)
                        generalize wire (acc ++ [X]) = N at h255i HW2
                        clear hG HG G2 G3 h255 hw1 HWI hown2
                        go_wp2_with fail
                        refine HW2.out.mono ?_
                        rintro e w6 ⟨rfl, rfl⟩
                        go_wp2
                        (try rw [Exit.noGoto_ret]); go_ret3
                        exact HE.out _ hb1
                      · have h255i : ¬ (255 : Int) < (wire (acc ++ [X]) : Int) := by omega
                        rw [G3.out hlab h255] at hG
                        have HG2 := Lib.hid hG
                        have HW2 := Lib.hid (HWI.out _ _ HS2.out.1)
                        have hw2 : wire (acc ++ [X]) ≤ 255 := by omega
                        have HWK := Lib.hid hw2
                        generalize wire (acc ++ [X]) = N at h255i HW2
                        clear hG HG G2 G3 h255 hw1 HWI hw2
                        go_wp2_with fail
                        refine HW2.out.mono ?_
                        rintro e w6 ⟨rfl, rfl⟩
                        go_wp2
                        go_roundw
                        case rel => exact ⟨k + 1 + n, acc ++ [X], by omega, HWK.out, by go_num; try omega, rfl, HG2, hown2, hb1⟩
                        case measure =>
                          simp [intOf]
                          omega
                    · rw [G1.out hlab] at hG
                      rw [if_neg hlab, if_neg hlab] at HP
                      have HE : Hid (∀ w', Below w.heap.size w w' → Got w (getW l A A 0 []) (.returned (.tuple #[.slice none 0 0, .int .i64 0, .int .i64 4])) w') := by
                        rw [← hG]; intro w' h1; exact ⟨_, rfl, h1, FRow.nil _ _⟩
                      clear hG HG G1 G2 G3 hlab hls HO
                      go_wp2_with fail
                      refine HP.out.mono ?_
                      rintro e w3 ⟨rfl, hb3⟩
                      have hbel3 := hbel.trans (hb3.mono hsz)
                      clear hb3 hbel
                      go_wp2
                      (try rw [Exit.noGoto_ret]); go_ret3
                      exact HE.out _ hbel3
                  · rw [getW_long n hn hlt (by omega) (by omega) hk3] at hG
                    have HP := Lib.hid (readLabel_short _ l k n wr HRr.out hlt hn (by omega) hk3)
                    unfold LGot at HP
                    have HE : Hid (∀ w', Below w.heap.size w w' → Got w (getW l A A 0 []) (.returned (.tuple #[.slice none 0 0, .int .i64 0, .int .i64 3])) w') := by
                      rw [← hG]; intro w' h1; exact ⟨_, rfl, h1, FRow.nil _ _⟩
                    clear hG HG hn hbd HB h0 HO h192 h64 hk3
                    go_wp2_with fail
                    refine HP.out.mono ?_
                    rintro e w3 ⟨rfl, hb3⟩
                    have hbel3 := hbel.trans (hb3.mono hsz)
                    clear hb3 hbel
                    go_wp2
                    (try rw [Exit.noGoto_ret]); go_ret3
                    exact HE.out _ hbel3
          · obtain rfl : k = l.length := by omega
            have hG := HG.out
            rw [getW_out hlt] at hG
            have HG2 : Hid (getW l l.length l.length x acc = getW l A A 0 []) := by unfold Hid; rw [← hG, getW_out (by omega)]
            have HTG := Lib.hid (HME.out l.length (Nat.le_refl _))
            clear hG HG hlt
            go_wp2
            go_roundw
            case rel => exact ⟨l.length, x, acc, by omega, by omega, hwa, rfl, rfl, rfl, HG2, HO, hbel⟩
            case measure => simpa [intOf] using HTG.out
      · have hk2 : (l.length : Int) ≤ (g : Int) := by omega
        have hG := HG0.out
        rw [getW_out hgt] at hG
        have HE : Hid (∀ w', Below w.heap.size w w' → Got w (getW l A A 0 []) (.returned (.tuple #[.slice none 0 0, .int .i64 0, .int .i64 3])) w') := by
          rw [← hG]; intro w' h1; exact ⟨_, rfl, h1, FRow.nil _ _⟩
        clear hG HG0 HB HO0 hgt
        go_wp2
        (try rw [Exit.noGoto_ret]); go_ret3
        exact HE.out _ hbel0

set_option maxRecDepth 100000 in
set_option maxHeartbeats 2000000 in
theorem all_any (v : Value) (l : List Int) (w : World) (hr : Row .u8 w v l) (hl : l.length ≤ 100000) :
    Calls Try.prog 11 #[v] w (AGot w (allW l 0 [])) := by
  obtain ⟨i0, hi, hz0, hz1, hz2⟩ := info_parts infoLs
  have HRow := Lib.hid hr
  obtain ⟨ad, cap, rfl, q2, q3, q4, q5⟩ := hr
  clear q4 q5
  go_enter Try.func11, Try.ntmps11
  go_wp2
  go_loopw [4, 5] (fun o i wr => ∃ (k : Nat) (L : List (List ByteArray)) (us : List Value), k ≤ l.length ∧ L.length ≤ k ∧ i = .int .i64 k ∧ Hid (allW l k L = allW l 0 []) ∧ Hid (wr.ownsRow w.heap.size 24 1 o L.length us) ∧ Hid (NVals wr us L) ∧ Hid (NApart o.ownBlock us L) ∧ Below w.heap.size w wr) (fun _ i _ => l.length - (intOf i).toNat)
  case atStart => exact ⟨0, [], [], Nat.zero_le _, Nat.zero_le _, rfl, rfl, by simpa [Hid] using World.ownsRow_nil _ _ _ _, NVals.nil _, NApart.nil _, Below.refl _ _⟩
  case round =>
    obtain ⟨k, L, us, hk, hLk, rfl, HA, HO, HN, HP, hbel⟩ := hrel
    have hsz := hbel.size
    by_cases hlt : k < l.length
    · have hlt1 : (k : Int) < (l.length : Int) := by omega
      have hG := get_any (.slice ad l.length cap) (k : Int) l wr (HRow.out.mono hbel (Nat.le_refl _)) hl (by omega) (by omega)
      rw [getV_in hlt] at hG
      have hA := HA.out
      rw [allW, if_pos hlt] at hA
      have hnx := getW_next l k k 0 []
      obtain ⟨r, hrr⟩ : ∃ r, r = getW l k k 0 [] := ⟨_, rfl⟩
      rw [← hrr] at hG hA hnx
      obtain ⟨x, n, c⟩ := r
      simp only [] at hG hA hnx
      have HG := Lib.hid hG
      clear hrr hG HA
      by_cases hc : c = 0
      · subst hc
        have hn2 := hnx rfl
        simp only [if_pos] at hn2
        rw [if_pos rfl, if_pos hn2.1] at hA
        have HA2 := Lib.hid hA
        have hb63 : L.length + 1 ≤ maxLen := maxLen_of (by omega)
        have hbby : (L.length + 1) * 24 ≤ 140737488355328 := by omega
        clear hA hnx
        go_wp2_with fail
        refine HG.out.mono ?_
        rintro e w3 ⟨u, rfl, hb3, hu⟩
        simp only []
        have HU := Lib.hid hu
        obtain ⟨⟨adu, capu, rfl, -, -, -, -⟩, -⟩ := hu
        have HO3 := Lib.hid (ownsRow_stays HO.out hb3)
        have HN3 := Lib.hid (HN.out.mono hb3 (Nat.le_refl _))
        have HLT := Lib.hid HO.out.lt
        have hbel3 := hbel.trans (hb3.mono hsz)
        have hsz3 := hbel3.size
        clear hb3 hbel HO HN HG
        go_wp2_with (at_builtin; refine wpList_append_own_at _ rfl (.tmp 23) (.tmp 25) 32 rfl w.heap.size 24 i0 (.slice none 0 0) 1 24 Try.underlying32 hi hz0 hz1 hz2 rfl (by decide) _ _ _ rfl (HO3.out.alloc _) ⟨w3.heap.size, 0, none⟩ 1 1 [.slice adu x.length capu] rfl rfl (news_oneV _ _ _) (oneCell_oneL _ _ _) hb63 hbby (le_alloc _ hsz3) ?_)
        intro v' w5 hown' hgrow _ hblk
        have hb1 : Below w.heap.size w w5 := (hbel3.alloc hsz3 _).grown hgrow (by simp; omega) (fun r hr => (HO3.out.lt r hr).1)
        have hal := below_made w3 (.cells #[.slice adu x.length capu] 24)
        have HP3 := Lib.hid (NApart.snoc HN3.out.1 HP.out (u := .slice adu x.length capu) (l := x) (fun hne e => by
          obtain ⟨g, hg, -⟩ := HU.out.1.block hne
          have h1 := HU.out.2 hne g hg
          rw [e] at hg
          have h2 := (HLT.out g hg).2
          omega))
        have hN4 := (HN3.out.snoc HU.out.1).mono hal (Nat.le_refl _)
        have HN5 := Lib.hid (hN4.grown HP3.out hgrow)
        have HP5 : Hid (NApart v'.ownBlock (us ++ [.slice adu x.length capu]) (L ++ [x])) := by
          rcases hblk with h | h
          · unfold Hid; rw [h]; exact HP3.out
          · unfold Hid; rw [h]; exact NApart.fresh hN4 (Nat.le_of_eq (Array.size_push _))
        have HO5 : Hid (w5.ownsRow w.heap.size 24 1 v' (L ++ [x]).length (us ++ [.slice adu x.length capu])) := by
          unfold Hid
          rw [List.length_append]
          exact hown'
        clear hown' hgrow hblk hN4 HP3 HN3 hal HLT HU HP
        go_wp2
        go_roundw
        case rel => exact ⟨n, L ++ [x], us ++ [.slice adu x.length capu], hn2.2, by simp; omega, rfl, HA2, HO5, HN5, HP5, hb1⟩
        case measure => simp [intOf]; omega
      · have hc1 : (c != 0) = true := by simpa using hc
        rw [if_neg hc] at hA
        have HE : Hid (∀ w', Below w.heap.size w w' → AGot w (allW l 0 []) (.returned (.tuple #[.slice none 0 0, .int .i64 c])) w') := by
          rw [← hA]; intro w' h1; exact ⟨_, rfl, h1, NRow.nil _⟩
        clear hA hnx hc
        go_wp2_with fail
        refine HG.out.mono ?_
        rintro e w3 ⟨u, rfl, hb3, -⟩
        simp only []
        have hbel3 := hbel.trans (hb3.mono hsz)
        clear hb3 hbel
        go_wp2
        go_ret2
        exact HE.out _ hbel3
    · have hA := HA.out
      rw [allW, if_neg hlt] at hA
      have HE : Hid (∀ u w', Below w.heap.size w w' → NRow w' u L → AGot w (allW l 0 []) (.returned (.tuple #[u, .int .i64 0])) w') := by
        rw [← hA]; intro u w' h1 h2; exact ⟨u, rfl, h1, h2⟩
      have HN2 := Lib.hid (nrow_of_owns HO.out rfl HN.out)
      clear hA HA
      go_wp2
      go_ret2
      exact HE.out _ _ hbel HN2.out
end Go.Proofs.Ytjhmjimfehanbaa.Wire
