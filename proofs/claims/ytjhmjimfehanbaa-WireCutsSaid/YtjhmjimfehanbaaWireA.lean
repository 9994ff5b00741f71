/- Contracts of the document's Get, All, Same, Few for wire. -/
import Derived.Test.YtjhmjimfehanbaaRows
import Derived.Test.YtjhmjimfehanbaaFoldD
import Derived.Test.YtjhmjimfehanbaaKit4
import Derived.Test.YtjhmjimfehanbaaKit7
import Derived.Test.YtjhmjimfehanbaaNameF
import Derived.Test.YtjhmjimfehanbaaWireM
namespace Go.Proofs.Ytjhmjimfehanbaa.Wire
open Go.RowKit Fold Name
set_option linter.unusedVariables false

/-- What Get answers. -/
def Got (w : World) (r : List ByteArray × Nat × Int) (e : Ending) (w' : World) : Prop :=
  ∃ u, e = .returned (.tuple #[u, .int .i64 r.2.1, .int .i64 r.2.2]) ∧ Below w.heap.size w w' ∧ FRow w.heap.size w' u r.1
def getV (b : List Int) (a : Int) : List ByteArray × Nat × Int := if a < 0 ∨ (b.length : Int) ≤ a then ([], 0, 2) else getW b a.toNat a.toNat 0 []

/-- The rounds of Get, one by one. -/
theorem getW_out {b : List Int} {k bg nx : Nat} {acc : List ByteArray} (h : ¬ k < b.length) : getW b k bg nx acc = ([], 0, 3) := by rw [getW, if_neg h]
theorem getW_zero {b : List Int} {k bg nx : Nat} {acc : List ByteArray} (h : k < b.length) (h0 : b.getD k 0 = 0) : getW b k bg nx acc = (acc, if nx = 0 then k + 1 else nx, 0) := by rw [getW, if_pos h, if_pos h0]
theorem getW_form {b : List Int} {k bg nx : Nat} {acc : List ByteArray} (h : k < b.length) (h0 : 64 ≤ b.getD k 0) (h1 : b.getD k 0 < 192) : getW b k bg nx acc = ([], 0, 4) := by
  rw [getW, if_pos h, if_neg (by omega), if_pos ⟨h0, h1⟩]
theorem getW_short {b : List Int} {k bg nx : Nat} {acc : List ByteArray} (h : k < b.length) (h0 : 192 ≤ b.getD k 0) (h1 : ¬ k + 1 < b.length) : getW b k bg nx acc = ([], 0, 3) := by
  rw [getW, if_pos h, if_neg (by omega), if_neg (by omega), if_pos h0, if_neg h1]
theorem getW_ahead {b : List Int} {k bg nx : Nat} {acc : List ByteArray} (h : k < b.length) (h0 : 192 ≤ b.getD k 0) (h1 : k + 1 < b.length) (h2 : ¬ ((b.getD k 0 - 192) * 256 + b.getD (k + 1) 0).toNat < bg) : getW b k bg nx acc = ([], 0, 4) := by
  rw [getW, if_pos h, if_neg (by omega), if_neg (by omega), if_pos h0, if_pos h1, if_neg h2]
theorem getW_ptr {b : List Int} {k bg nx : Nat} {acc : List ByteArray} (to : Nat) (ht : ((b.getD k 0 - 192) * 256 + b.getD (k + 1) 0).toNat = to) (h : k < b.length) (h0 : 192 ≤ b.getD k 0) (h1 : k + 1 < b.length) (h2 : to < bg) :
    getW b k bg nx acc = getW b to to (if nx = 0 then k + 2 else nx) acc := by
  rw [getW, if_pos h, if_neg (by omega), if_neg (by omega), if_pos h0, if_pos h1, ht, if_pos h2]
theorem getW_long {b : List Int} {k bg nx : Nat} {acc : List ByteArray} (n : Nat) (hn : b.getD k 0 = n) (h : k < b.length) (h0 : 1 ≤ n) (h1 : n < 64) (h2 : ¬ k + 1 + n ≤ b.length) : getW b k bg nx acc = ([], 0, 3) := by
  rw [getW, if_pos h, hn, if_neg (by omega), if_neg (by omega), if_neg (by omega), Int.toNat_natCast, if_neg h2]
theorem getW_bad {b : List Int} {k bg nx : Nat} {acc : List ByteArray} (n : Nat) (hn : b.getD k 0 = n) (h : k < b.length) (h0 : 1 ≤ n) (h1 : n < 64) (h2 : k + 1 + n ≤ b.length) (h3 : ¬ labS (strOfNums ((b.drop (k + 1)).take n)) = 0) :
    getW b k bg nx acc = ([], 0, 4) := by
  rw [getW, if_pos h, hn, if_neg (by omega), if_neg (by omega), if_neg (by omega), Int.toNat_natCast, if_pos h2, if_neg h3]
theorem getW_much {b : List Int} {k bg nx : Nat} {acc : List ByteArray} (n : Nat) (hn : b.getD k 0 = n) (h : k < b.length) (h0 : 1 ≤ n) (h1 : n < 64) (h2 : k + 1 + n ≤ b.length) (h3 : labS (strOfNums ((b.drop (k + 1)).take n)) = 0)
    (h4 : 255 < wire (acc ++ [lowS (strOfNums ((b.drop (k + 1)).take n))])) : getW b k bg nx acc = ([], 0, 21) := by
  rw [getW, if_pos h, hn, if_neg (by omega), if_neg (by omega), if_neg (by omega), Int.toNat_natCast, if_pos h2, if_pos h3, if_pos h4]
theorem getW_label {b : List Int} {k bg nx : Nat} {acc : List ByteArray} (n : Nat) (hn : b.getD k 0 = n) (h : k < b.length) (h0 : 1 ≤ n) (h1 : n < 64) (h2 : k + 1 + n ≤ b.length) (h3 : labS (strOfNums ((b.drop (k + 1)).take n)) = 0)
    (h4 : ¬ 255 < wire (acc ++ [lowS (strOfNums ((b.drop (k + 1)).take n))])) : getW b k bg nx acc = getW b (k + 1 + n) bg nx (acc ++ [lowS (strOfNums ((b.drop (k + 1)).take n))]) := by
  rw [getW, if_pos h, hn, if_neg (by omega), if_neg (by omega), if_neg (by omega), Int.toNat_natCast, if_pos h2, if_pos h3, if_neg h4]

/-- What still has to be done in Get. -/
def gms (n k bg : Nat) : Nat := bg * (n + 1) + (n - k)
theorem gms_ptr {n k bg to : Nat} (h : to < bg) : gms n to to < gms n k bg := by
  unfold gms
  obtain ⟨d, rfl⟩ : ∃ d, bg = to + 1 + d := ⟨bg - to - 1, by omega⟩
  have : (to + 1 + d) * (n + 1) = to * (n + 1) + (n + 1) + d * (n + 1) := by rw [Nat.add_mul, Nat.add_mul, Nat.one_mul]
  omega
theorem gms_on {n k k' bg : Nat} (h : k < k') (h2 : k' ≤ n) : gms n k' bg < gms n k bg := by unfold gms; omega
theorem owns_frow {w : World} {B : Nat} {t : TypeId} {v : Value} {l : List ByteArray} (h : w.ownsRow B t 1 v l.length (valsS l)) (hw : wire l ≤ 1000) : FRow B w v l :=
  frow_of_owns h rfl fun i hi => by have := wire_get l i hi; omega

set_option maxRecDepth 100000 in
set_option maxHeartbeats 4000000 in
theorem refGet_any (v : Value) (a : Int) (l : List Int) (w : World) (hr : Row .u8 w v l) (hl : l.length ≤ 100000) :
    Calls Try.prog 9 #[v, .int .i64 a] w (Got w (getV l a)) := by
  obtain ⟨i0, hi, hz0, hz1, hz2⟩ := info_parts infoStr
  have HB := Lib.hid hr.bytes
  have HRow := Lib.hid hr
  by_cases hv : a < 0 ∨ (l.length : Int) ≤ a
  · have hg : getV l a = ([], 0, 2) := by rw [getV, if_pos hv]
    obtain ⟨ad, cap, rfl, q2, q3, q4, q5⟩ := hr
    clear q4 q5
    have HG : Hid (Got w (getV l a) (.returned (.tuple #[.slice none 0 0, .int .i64 0, .int .i64 2])) w) := by rw [hg]; exact ⟨_, rfl, Below.refl _ _, FRow.nil _ _⟩
    have hcase : a < 0 ∨ (¬ a < 0 ∧ (l.length : Int) ≤ a) := by omega
    clear hv hg
    rcases hcase with h1 | ⟨h1, h2⟩
    · go_enter Try.func9, Try.ntmps9
      go_wp2
      go_ret3
      exact HG.out
    · go_enter Try.func9, Try.ntmps9
      go_wp2
      go_ret3
      exact HG.out
  · have hg : getV l a = getW l a.toNat a.toNat 0 [] := by rw [getV, if_neg hv]
    obtain ⟨A, rfl⟩ := Int.eq_ofNat_of_zero_le (show 0 ≤ a by omega)
    rw [Int.toNat_natCast] at hg
    rw [hg]
    obtain ⟨ad, cap, rfl, q2, q3, q4, q5⟩ := hr
    obtain ⟨b, off, rfl, hlb, hc⟩ := q5 (by rintro rfl; simp at hv)
    have HC := Lib.hid hc
    have hv1 : ¬ (A : Int) < 0 := by omega
    have hv2 : ¬ (l.length : Int) ≤ (A : Int) := by omega
    have hA : A < l.length := by omega
    clear q4 q5 hc hg hv
    go_enter Try.func9, Try.ntmps9
    go_wp2
    go_loopw [1, 7, 8, 9] (fun at_ L bg nx wr => ∃ (k g x : Nat) (acc : List ByteArray), k ≤ l.length ∧ g ≤ l.length ∧ x ≤ l.length ∧ wire acc ≤ 255 ∧ at_ = .int .i64 k ∧ bg = .int .i64 g ∧ nx = .int .i64 x ∧ Hid (getW l k g x acc = getW l A A 0 []) ∧ Hid (wr.ownsRow w.heap.size 9 1 L acc.length (valsS acc)) ∧ Below w.heap.size w wr) (fun at_ _ bg _ _ => gms l.length (intOf at_).toNat (intOf bg).toNat)
    case atStart => exact ⟨A, A, 0, [], by omega, by omega, by omega, by decide, rfl, rfl, rfl, rfl, by simpa [valsS, Hid] using World.ownsRow_nil _ _ _ _, Below.refl _ _⟩
    case round =>
      obtain ⟨k, g, x, acc, hk, hgl, hxl, hwa, rfl, rfl, rfl, HG, HO, hbel⟩ := hrel
      have hsz := hbel.size
      clear hv1 hv2 hA
      by_cases hlt : k < l.length
      · have hk1 : (k : Int) < (l.length : Int) := by omega
        have hk2 : ¬ (l.length : Int) ≤ (k : Int) := by omega
        have hcell := (hbel.cell (p := ⟨b, off + k, none⟩) hlb).trans (HC.out k hlt)
        have hbd := HB.out k
        have hG := HG.out
        obtain ⟨n, hn⟩ := Int.eq_ofNat_of_zero_le hbd.1
        have hn256 : n < 256 := by omega
        rw [hn] at hcell
        by_cases h0 : n = 0
        · subst h0
          rw [getW_zero hlt hn] at hG
          by_cases hx : x = 0
          · subst hx
            rw [if_pos rfl] at hG
            have HE : Hid (∀ u w', Below w.heap.size w w' → FRow w.heap.size w' u acc → Got w (getW l A A 0 []) (.returned (.tuple #[u, .int .i64 ((k : Int) + 1), .int .i64 0])) w') := by
              rw [← hG]; intro u w' h1 h2; exact ⟨u, by simp, h1, h2⟩
            have HS := Lib.hid (owns_frow HO.out (by omega))
            clear hG HG hn hbd HB
            go_wp2
            go_ret3
            exact HE.out _ _ hbel HS.out
          · rw [if_neg hx] at hG
            have hx0 : ((x : Int) == 0) = false := by rw [beq_eq_false_iff_ne]; omega
            have HE : Hid (∀ u w', Below w.heap.size w w' → FRow w.heap.size w' u acc → Got w (getW l A A 0 []) (.returned (.tuple #[u, .int .i64 (x : Int), .int .i64 0])) w') := by
              rw [← hG]; intro u w' h1 h2; exact ⟨u, rfl, h1, h2⟩
            have HS := Lib.hid (owns_frow HO.out (by omega))
            clear hG HG hn hbd HB hx
            go_wp2
            go_ret3
            exact HE.out _ _ hbel HS.out
        · have hn0 : ((n : Int) == 0) = false := by rw [beq_eq_false_iff_ne]; omega
          by_cases h64 : 64 ≤ n
          · have h64i : (64 : Int) ≤ (n : Int) := by omega
            by_cases h192 : n < 192
            · have h192i : (n : Int) < 192 := by omega
              rw [getW_form hlt (by omega) (by omega)] at hG
              have HE : Hid (∀ w', Below w.heap.size w w' → Got w (getW l A A 0 []) (.returned (.tuple #[.slice none 0 0, .int .i64 0, .int .i64 4])) w') := by
                rw [← hG]; intro w' h1; exact ⟨_, rfl, h1, FRow.nil _ _⟩
              clear hG HG hn hbd HB HO h0
              go_wp2
              go_ret3
              exact HE.out _ hbel
            · have h192i : ¬ (n : Int) < 192 := by omega
              have h192j : (192 : Int) ≤ (n : Int) := by omega
              by_cases hk3 : k + 1 < l.length
              · have hk4 : ¬ (l.length : Int) ≤ (k : Int) + 1 := by omega
                have hk5 : (k : Int) + 1 < (l.length : Int) := by omega
                have hcell2 := (hbel.cell (p := ⟨b, off + (k + 1), none⟩) hlb).trans (HC.out (k + 1) hk3)
                have hbd2 := HB.out (k + 1)
                obtain ⟨m, hm⟩ := Int.eq_ofNat_of_zero_le hbd2.1
                have hm256 : m < 256 := by omega
                rw [hm] at hcell2
                have hto : ((l.getD k 0 - 192) * 256 + l.getD (k + 1) 0).toNat = (n - 192) * 256 + m := by omega
                by_cases hlt2 : (n - 192) * 256 + m < g
                · rw [getW_ptr _ hto hlt (by omega) hk3 hlt2] at hG
                  obtain ⟨to, hto2⟩ : ∃ to, to = (n - 192) * 256 + m := ⟨_, rfl⟩
                  rw [← hto2] at hG hlt2
                  have hti : ((n : Int) - 192) * 256 + m = (to : Int) := by omega
                  have htg : ¬ (g : Int) ≤ (to : Int) := by omega
                  have hms := gms_ptr (n := l.length) (k := k) hlt2
                  by_cases hx : x = 0
                  · subst hx
                    rw [if_pos rfl] at hG
                    have HG2 := Lib.hid hG
                    clear hG HG hn hbd HB h0 hto hto2 hbd2 hm
                    go_wp2
                    go_roundw
                    case rel => exact ⟨to, to, k + 2, acc, by omega, by omega, by omega, hwa, by go_num, by go_num, by go_num, HG2, HO, hbel⟩
                    case measure => simpa [intOf] using hms
                  · rw [if_neg hx] at hG
                    have hx0 : ((x : Int) == 0) = false := by rw [beq_eq_false_iff_ne]; omega
                    have HG2 := Lib.hid hG
                    clear hG HG hn hbd HB h0 hto hto2 hbd2 hm hx
                    go_wp2
                    go_roundw
                    case rel => exact ⟨to, to, x, acc, by omega, by omega, by omega, hwa, by go_num, by go_num, rfl, HG2, HO, hbel⟩
                    case measure => simpa [intOf] using hms
                · rw [getW_ahead hlt (by omega) hk3 (by omega)] at hG
                  have HE : Hid (∀ w', Below w.heap.size w w' → Got w (getW l A A 0 []) (.returned (.tuple #[.slice none 0 0, .int .i64 0, .int .i64 4])) w') := by
                    rw [← hG]; intro w' h1; exact ⟨_, rfl, h1, FRow.nil _ _⟩
                  have htg : (g : Int) ≤ ((n : Int) - 192) * 256 + m := by omega
                  clear hG HG hn hbd HB HO h0 hto hlt2 hbd2 hm
                  go_wp2
                  go_ret3
                  exact HE.out _ hbel
              · have hk4 : (l.length : Int) ≤ (k : Int) + 1 := by omega
                rw [getW_short hlt (by omega) hk3] at hG
                have HE : Hid (∀ w', Below w.heap.size w w' → Got w (getW l A A 0 []) (.returned (.tuple #[.slice none 0 0, .int .i64 0, .int .i64 3])) w') := by
                  rw [← hG]; intro w' h1; exact ⟨_, rfl, h1, FRow.nil _ _⟩
                clear hG HG hn hbd HB HO h0 hk3
                go_wp2
                go_ret3
                exact HE.out _ hbel
          · have h64i : ¬ (64 : Int) ≤ (n : Int) := by omega
            have h192j : ¬ (192 : Int) ≤ (n : Int) := by omega
            by_cases hk3 : k + 1 + n ≤ l.length
            · have hk4 : ¬ (l.length : Int) < (k : Int) + 1 + n := by omega
              have hk5 : (k : Int) + 1 + n ≤ (cap : Int) := by omega
              have hk6 : (k : Int) + 1 ≤ (k : Int) + 1 + n := by omega
              have hk7 : 0 ≤ (k : Int) + 1 := by omega
              have hr2 : Row .u8 wr (.slice (some ⟨b, off + (k + 1), none⟩) n (cap - (k + 1))) ((l.drop (k + 1)).take n) := by
                have h1 := Row.tail (n := k + 1) (HRow.out.mono hbel (Nat.le_refl _)) (by omega)
                rw [← List.length_drop] at h1
                exact Row.take h1 (by rw [List.length_drop]; omega)
              have hsn : (strOfNums ((l.drop (k + 1)).take n)).size = n := by rw [strOfNums_size, List.length_take, List.length_drop]; omega
              have hback := Row.string (P := Try.prog) hr2 22 9 5 Try.underlying22 Try.underlying5 Try.underlying9
              have G1 := Lib.hid (getW_bad (bg := g) (nx := x) (acc := acc) n hn hlt (by omega) (by omega) hk3)
              have G2 := Lib.hid (getW_much (bg := g) (nx := x) (acc := acc) n hn hlt (by omega) (by omega) hk3)
              have G3 := Lib.hid (getW_label (bg := g) (nx := x) (acc := acc) n hn hlt (by omega) (by omega) hk3)
              obtain ⟨s, hs⟩ : ∃ s, s = strOfNums ((l.drop (k + 1)).take n) := ⟨_, rfl⟩
              rw [← hs] at hback G1 G2 G3 hsn
              have HL := Lib.hid (fun u => Fold.refLabel_any s u)
              have HLow := Lib.hid (fun u => refLower_any s u (by omega))
              have hls := lowS_size s
              clear hs hr2 hn hbd HB
              by_cases hlab : labS s = 0
              · obtain ⟨X, hX⟩ : ∃ X, X = lowS s := ⟨_, rfl⟩
                rw [← hX] at HLow G2 G3 hls
                have hwx := wire_append acc [X]
                have hw1 : wire (acc ++ [X]) = wire acc + X.size + 1 := by simp only [wire] at hwx; omega
                have hE := Lib.hid (valsS_snoc acc X)
                have hal := wire_len acc
                have hb63 : acc.length + 1 ≤ maxLen := maxLen_of (by omega)
                have hbby : (acc.length + 1) * 16 ≤ 140737488355328 := by omega
                have HWI := Lib.hid (fun u v hu => refWire_any v (acc ++ [X]) u hu (by omega))
                rw [hlab] at HL
                have hms := gms_on (n := l.length) (k := k) (k' := k + 1 + n) (bg := g) (by omega) hk3
                clear hX hwx G1 hal
                go_wp2_with fail
                refine (HL.out _).mono ?_
                rintro e w2 ⟨rfl, rfl⟩
                go_wp2_with fail
                refine (HLow.out _).mono ?_
                rintro e w3 ⟨rfl, hb3⟩
                have HO3 := Lib.hid (ownsRow_stays HO.out hb3)
                have hbel3 := hbel.trans (hb3.mono hsz)
                have hsz3 := hbel3.size
                clear hb3 hbel HO hback
                go_wp2_with (at_builtin; refine wpList_append_own _ rfl (.tmp 90) (.tmp 93) 24 rfl w.heap.size 9 i0 (.string ByteArray.empty) 1 16 Try.underlying24 hi hz0 hz1 hz2 rfl (by decide) _ _ _ rfl (HO3.out.alloc _) ⟨w3.heap.size, 0, none⟩ 1 1 [.string X] rfl rfl (news_oneS _ _ _) (oneCell_oneS _) hb63 hbby (le_alloc _ hsz3) ?_)
                intro v' w5 hown' hgrow _
                have hb1 : Below w.heap.size w w5 := (hbel3.alloc hsz3 _).grown hgrow (by simp; omega) (fun r hr => (HO3.out.lt r hr).1)
                have hown2 : Hid (w5.ownsRow w.heap.size 9 1 v' (acc ++ [X]).length (valsS (acc ++ [X]))) := by
                  unfold Hid
                  rw [hE.out, List.length_append]
                  exact hown'
                have HS2 := Lib.hid (owns_frow hown2.out (by omega))
                clear hown' hgrow
                by_cases h255 : 255 < wire (acc ++ [X])
                · have h255i : (255 : Int) < (wire (acc ++ [X]) : Int) := by omega
                  rw [G2.out hlab h255] at hG
                  have HE : Hid (∀ w', Below w.heap.size w w' → Got w (getW l A A 0 []) (.returned (.tuple #[.slice none 0 0, .int .i64 0, .int .i64 21])) w') := by
                    rw [← hG]; intro w' h1; exact ⟨_, rfl, h1, FRow.nil _ _⟩
                  have HW2 := Lib.hid (HWI.out _ _ HS2.out.1)
                  generalize wire (acc ++ [X]) = N at h255i HW2
                  clear hG HG G2 G3 h255 hw1 HWI hown2
                  go_wp2_with fail
                  refine HW2.out.mono ?_
                  rintro e w6 ⟨rfl, rfl⟩
                  go_wp2
                  go_ret3
                  exact HE.out _ hb1
                · have h255i : ¬ (255 : Int) < (wire (acc ++ [X]) : Int) := by omega
                  rw [G3.out hlab h255] at hG
                  have HG2 := Lib.hid hG
                  have HW2 := Lib.hid (HWI.out _ _ HS2.out.1)
                  have hw2 : wire (acc ++ [X]) ≤ 255 := by omega
                  have HWK := Lib.hid hw2
                  generalize wire (acc ++ [X]) = N at h255i HW2
                  clear hG HG G2 G3 h255 hw1 HWI hw2
                  go_wp2_with fail
                  refine HW2.out.mono ?_
                  rintro e w6 ⟨rfl, rfl⟩
                  go_wp2
                  go_roundw
                  case rel => exact ⟨k + 1 + n, g, x, acc ++ [X], by omega, by omega, by omega, HWK.out, by go_num, rfl, rfl, HG2, hown2, hb1⟩
                  case measure =>
                    have e1 : ((k : Int) + 1 + n).toNat = k + 1 + n := by omega
                    simpa [intOf, e1] using hms
              · rw [G1.out hlab] at hG
                have HE : Hid (∀ w', Below w.heap.size w w' → Got w (getW l A A 0 []) (.returned (.tuple #[.slice none 0 0, .int .i64 0, .int .i64 4])) w') := by
                  rw [← hG]; intro w' h1; exact ⟨_, rfl, h1, FRow.nil _ _⟩
                have hlab2 : (labS s != 0) = true := by simpa using hlab
                obtain ⟨y, hy⟩ : ∃ y, y = labS s := ⟨_, rfl⟩
                rw [← hy] at HL hlab2
                clear hG HG G1 G2 G3 hlab hy HLow hls
                go_wp2_with fail
                refine (HL.out _).mono ?_
                rintro e w2 ⟨rfl, rfl⟩
                go_wp2
                go_ret3
                exact HE.out _ hbel
            · have hk4 : (l.length : Int) < (k : Int) + 1 + n := by omega
              rw [getW_long n hn hlt (by omega) (by omega) hk3] at hG
              have HE : Hid (∀ w', Below w.heap.size w w' → Got w (getW l A A 0 []) (.returned (.tuple #[.slice none 0 0, .int .i64 0, .int .i64 3])) w') := by
                rw [← hG]; intro w' h1; exact ⟨_, rfl, h1, FRow.nil _ _⟩
              clear hG HG hn hbd HB HO h0 hk3
              go_wp2
              go_ret3
              exact HE.out _ hbel
      · have hk2 : (l.length : Int) ≤ (k : Int) := by omega
        have hG := HG.out
        rw [getW_out hlt] at hG
        have HE : Hid (∀ w', Below w.heap.size w w' → Got w (getW l A A 0 []) (.returned (.tuple #[.slice none 0 0, .int .i64 0, .int .i64 3])) w') := by
          rw [← hG]; intro w' h1; exact ⟨_, rfl, h1, FRow.nil _ _⟩
        clear hG HG HB HO hlt
        go_wp2
        go_ret3
        exact HE.out _ hbel
end Go.Proofs.Ytjhmjimfehanbaa.Wire
