/- The contract of the document's Unpack. -/
import Derived.Test.YtbjdlfeipidlbaaRecA
import Derived.Deep.RegionHeld3
import Derived.Deep.AppendLies
namespace Go.Proofs.Ytbjdlfeipidlbaa.Rec
open Go.RowKit
set_option linter.unusedVariables false

/-- A slice of rows of bytes, each of which lies at block B or behind. -/
def QFresh (B : Nat) (w : World) (v : Value) (L : List (List Int)) : Prop := QRow w v L
def UGot (w : World) (r : List (List Int) × Int) (e : Ending) (w' : World) : Prop :=
  ∃ u, e = .returned (.tuple #[u, .int .i64 r.2]) ∧ Below w.heap.size w w' ∧ QRow w' u r.1

theorem infoInt : (Try.prog.info? 3).map (fun i => (i.zero, i.size, i.bytes)) = some (some (.int .i64 0), 1, 8) := by kernel_rfl
theorem infoB : (Try.prog.info? 5).map (fun i => (i.zero, i.size, i.bytes)) = some (some (.int .u8 0), 1, 1) := by kernel_rfl
theorem infoBs : (Try.prog.info? 22).map (fun i => (i.zero, i.size, i.bytes)) = some (some (.slice none 0 0), 1, 24) := by kernel_rfl

theorem wrap_id {n : Int} (h1 : -9223372036854775808 ≤ n) (h2 : n ≤ 9223372036854775807) : IntKind.i64.wrap n = n := by simp [IntKind.wrap, IntKind.bits, IntKind.signed]; omega
theorem ne_low {w : World} {base : Nat} {e : TypeId} {size : Nat} {v : Value} {n : Nat} {xs : List Value} (h : w.ownsRow base e size v n xs) {b : Nat} (hb : b < base) : some b ≠ v.ownBlock := by
  rcases h.2 with ⟨rfl, _⟩ | ⟨g, cap, cur, rfl, hbg, _⟩
  · simp [Value.ownBlock]
  · simp only [Value.ownBlock, ne_eq, Option.some.injEq]; omega

def valsN (E : List Nat) : List Value := E.map fun (e : Nat) => Value.int .i64 (e : Int)
theorem valsN_snoc (E : List Nat) (e : Nat) : valsN (E ++ [e]) = valsN E ++ [.int .i64 (e : Int)] := by simp [valsN]

theorem valsN_get (E : List Nat) (i : Nat) (h : i < E.length) : (valsN E)[i]? = some (.int .i64 ((E.getD i 0 : Nat) : Int)) := by simp [valsN, List.getD, h]

theorem unp_short {b : List Int} (h : b.length < 2) : unpV b = ([], 3) := by rw [unpV, if_pos h]
theorem unp_form {b : List Int} (h : ¬ b.length < 2) (h2 : b.getD 0 0 = 0 ∨ 16 < b.getD 0 0 ∨ ¬ b.getD 1 0 = 0) : unpV b = ([], 4) := by rw [unpV, if_neg h, if_pos h2]
theorem unp_ends {b : List Int} (n : Nat) (hn : b.getD 0 0 = n) (h : ¬ b.length < 2) (h2 : ¬ (b.getD 0 0 = 0 ∨ 16 < b.getD 0 0 ∨ ¬ b.getD 1 0 = 0)) (h3 : b.length < 2 + 2 * n) : unpV b = ([], 3) := by
  rw [unpV, if_neg h, if_neg h2, hn, Int.toNat_natCast, if_pos h3]
theorem unp_fall {b : List Int} (n : Nat) (hn : b.getD 0 0 = n) (h : ¬ b.length < 2) (h2 : ¬ (b.getD 0 0 = 0 ∨ 16 < b.getD 0 0 ∨ ¬ b.getD 1 0 = 0)) (h3 : ¬ b.length < 2 + 2 * n) (h4 : rises 0 (endsOf b n) = false) : unpV b = ([], 4) := by
  rw [unpV, if_neg h, if_neg h2, hn, Int.toNat_natCast, if_neg h3, if_pos h4]
theorem unp_beyond {b : List Int} (n : Nat) (hn : b.getD 0 0 = n) (h : ¬ b.length < 2) (h2 : ¬ (b.getD 0 0 = 0 ∨ 16 < b.getD 0 0 ∨ ¬ b.getD 1 0 = 0)) (h3 : ¬ b.length < 2 + 2 * n) (h4 : rises 0 (endsOf b n) = true) (h5 : b.length < 2 + 2 * n + endAt b (n - 1)) : unpV b = ([], 3) := by
  rw [unpV, if_neg h, if_neg h2, hn, Int.toNat_natCast, if_neg h3, if_neg (by rw [h4]; simp), if_pos h5]
theorem unp_more {b : List Int} (n : Nat) (hn : b.getD 0 0 = n) (h : ¬ b.length < 2) (h2 : ¬ (b.getD 0 0 = 0 ∨ 16 < b.getD 0 0 ∨ ¬ b.getD 1 0 = 0)) (h3 : ¬ b.length < 2 + 2 * n) (h4 : rises 0 (endsOf b n) = true) (h5 : ¬ b.length < 2 + 2 * n + endAt b (n - 1)) (h6 : 2 + 2 * n + endAt b (n - 1) < b.length ∨ 480 < b.length) : unpV b = ([], 4) := by
  rw [unpV, if_neg h, if_neg h2, hn, Int.toNat_natCast, if_neg h3, if_neg (by rw [h4]; simp), if_neg h5, if_pos h6]
theorem unp_ok {b : List Int} (n : Nat) (hn : b.getD 0 0 = n) (h : ¬ b.length < 2) (h2 : ¬ (b.getD 0 0 = 0 ∨ 16 < b.getD 0 0 ∨ ¬ b.getD 1 0 = 0)) (h3 : ¬ b.length < 2 + 2 * n) (h4 : rises 0 (endsOf b n) = true) (h5 : ¬ b.length < 2 + 2 * n + endAt b (n - 1)) (h6 : ¬ (2 + 2 * n + endAt b (n - 1) < b.length ∨ 480 < b.length)) : unpV b = (cutP (b.drop (2 + 2 * n)) 0 (endsOf b n), 0) := by
  rw [unpV, if_neg h, if_neg h2, hn, Int.toNat_natCast, if_neg h3, if_neg (by rw [h4]; simp), if_neg h5, if_neg h6]
theorem endsOf_take (b : List Int) (k : Nat) : endsOf b (k + 1) = endsOf b k ++ [endAt b k] := by simp [endsOf, List.range_succ]
theorem endsOf_length (b : List Int) (k : Nat) : (endsOf b k).length = k := by simp [endsOf]
theorem endsOf_get (b : List Int) (n k : Nat) (h : k < n) : (endsOf b n).getD k 0 = endAt b k := by simp [endsOf, List.getD, h]
theorem rises_snoc (n : Nat) (E : List Nat) (e : Nat) : rises n (E ++ [e]) = (rises n E && decide (E.getLastD n ≤ e)) := by
  induction E generalizing n with
  | nil => simp [rises]
  | cons x r ih => rw [List.cons_append, rises, rises, ih, List.getLastD_cons, Bool.and_assoc]
theorem rises_prefix (n : Nat) (A B : List Nat) (h : rises n (A ++ B) = true) : rises n A = true := by
  induction A generalizing n with
  | nil => rfl
  | cons x r ih =>
    rw [List.cons_append, rises, Bool.and_eq_true] at h
    rw [rises, h.1, ih x h.2]
    rfl
theorem endsOf_prefix (b : List Int) (k n : Nat) (h : k ≤ n) : ∃ B, endsOf b n = endsOf b k ++ B := by
  obtain ⟨d, rfl⟩ : ∃ d, n = k + d := ⟨n - k, by omega⟩
  refine ⟨(List.range d).map (fun i => endAt b (k + i)), ?_⟩
  unfold endsOf
  rw [List.range_add, List.map_append, List.map_map]
  rfl
theorem endAt_bd {b : List Int} (hb : ∀ i, 0 ≤ b.getD i 0 ∧ b.getD i 0 < 256) (k : Nat) : ((endAt b k : Nat) : Int) = b.getD (2 + 2 * k) 0 + 256 * b.getD (3 + 2 * k) 0 ∧ endAt b k < 65536 := by
  have h1 := hb (2 + 2 * k)
  have h2 := hb (3 + 2 * k)
  unfold endAt
  omega

/-- Where a record begins: the end of the one before it. -/
def begOf (l : List Int) : Nat → Nat
  | 0 => 0
  | k + 1 => endAt l k
def prev (n : Nat) (E : List Nat) : Nat → Nat
  | 0 => n
  | k + 1 => E.getD k 0
theorem prev_ends (l : List Int) (n k : Nat) (h : k < n) : prev 0 (endsOf l n) k = begOf l k := by
  cases k with
  | zero => rfl
  | succ k => exact endsOf_get _ _ _ (by omega)
theorem cutP_get (d : List Int) (n : Nat) (E : List Nat) (k : Nat) (h : k < E.length) : (cutP d n E)[k]? = some ((d.drop (prev n E k)).take (E.getD k 0 - prev n E k)) := by
  induction E generalizing n k with
  | nil => simp at h
  | cons e r ih =>
    cases k with
    | zero => rfl
    | succ k =>
      have := ih e k (by simpa using h)
      have hp : prev n (e :: r) (k + 1) = prev e r k := by cases k <;> rfl
      rw [hp, List.getD_cons_succ]
      exact this
theorem cutP_take (d l : List Int) (n k : Nat) (h : k < n) : (cutP d 0 (endsOf l n)).take (k + 1) = (cutP d 0 (endsOf l n)).take k ++ [(d.drop (begOf l k)).take (endAt l k - begOf l k)] := by
  have h1 := cutP_get d 0 (endsOf l n) k (by rw [endsOf_length]; exact h)
  rw [prev_ends _ _ _ h, endsOf_get _ _ _ h] at h1
  obtain ⟨h2, h3⟩ := List.getElem?_eq_some_iff.1 h1
  rw [List.take_succ_eq_append_getElem h2, h3]
theorem rises_get (n : Nat) (E : List Nat) (h : rises n E = true) (k : Nat) (hk : k < E.length) : prev n E k ≤ E.getD k 0 ∧ E.getD k 0 ≤ E.getLastD n := by
  refine ⟨?_, rises_last h _ ?_⟩
  · induction E generalizing n k with
    | nil => simp at hk
    | cons e r ih =>
      simp only [rises, Bool.and_eq_true, decide_eq_true_eq] at h
      cases k with
      | zero => exact h.1
      | succ k =>
        have hp : prev n (e :: r) (k + 1) = prev e r k := by cases k <;> rfl
        rw [hp, List.getD_cons_succ]
        exact ih e h.2 k (by simpa using hk)
  · simp only [List.getD, List.getElem?_eq_getElem hk, Option.getD_some]
    exact List.getElem_mem hk
theorem ends_bounds (l : List Int) (n k : Nat) (h : rises 0 (endsOf l n) = true) (hk : k < n) : begOf l k ≤ endAt l k ∧ endAt l k ≤ endAt l (n - 1) := by
  have h1 := rises_get 0 _ h k (by rw [endsOf_length]; exact hk)
  rw [prev_ends _ _ _ hk, endsOf_get _ _ _ hk] at h1
  refine ⟨h1.1, ?_⟩
  obtain ⟨m, rfl⟩ : ∃ m, n = m + 1 := ⟨n - 1, by omega⟩
  have e : (endsOf l (m + 1)).getLastD 0 = endAt l m := by simp [endsOf, List.range_succ]
  rw [e] at h1
  exact h1.2
/-- Rows of bytes, none of which lies in the row to which they are appended. -/
def QApart (row : Option Nat) (us : List Value) (L : List (List Int)) : Prop := ∀ i, i < L.length → L.getD i [] ≠ [] → (us.getD i (.slice none 0 0)).ownBlock ≠ row
theorem QApart.nil (row : Option Nat) : QApart row [] [] := fun i hi => by simp at hi
theorem QVals.grown {w w' : World} {us : List Value} {L : List (List Int)} {row : Option Nat} (h : LVals (Row .u8) [] w us L) (ha : QApart row us L) (hg : w.grownBy w' row) : LVals (Row .u8) [] w' us L :=
  ⟨h.1, fun i hi => (h.2 i hi).grown hg (ha i hi)⟩
theorem QApart.snoc {row : Option Nat} {us : List Value} {L : List (List Int)} {u : Value} {l : List Int} (hl : us.length = L.length) (h : QApart row us L) (hu : l ≠ [] → u.ownBlock ≠ row) : QApart row (us ++ [u]) (L ++ [l]) := by
  intro i hi hne
  rw [List.length_append, List.length_singleton] at hi
  by_cases e : i < L.length
  · have h1 : (L ++ [l]).getD i [] = L.getD i [] := by simp [List.getD, List.getElem?_append_left e]
    have h2 : (us ++ [u]).getD i (.slice none 0 0) = us.getD i (.slice none 0 0) := by simp [List.getD, List.getElem?_append_left (show i < us.length by omega)]
    rw [h1] at hne
    rw [h2]
    exact h i e hne
  · obtain rfl : i = L.length := by omega
    have e1 : (us ++ [u])[L.length]? = some u := by rw [← hl]; simp
    have e2 : (L ++ [l])[L.length]? = some l := by simp
    simp only [List.getD, e1, e2, Option.getD_some] at hne ⊢
    exact hu hne
theorem QApart.fresh {w : World} {us : List Value} {L : List (List Int)} (h : LVals (Row .u8) [] w us L) {g : Nat} (hg : w.heap.size ≤ g) : QApart (some g) us L := by
  intro i hi hne e
  obtain ⟨k, hk, hlt⟩ := (h.2 i hi).block hne
  rw [e] at hk
  injection hk with hk
  omega

set_option maxRecDepth 100000 in
set_option maxHeartbeats 4000000 in
theorem refUnpack_any (v : Value) (l : List Int) (w : World) (hr : Row .u8 w v l) (hl : l.length ≤ 100000) :
    Calls Try.prog 25 #[v] w (UGot w (unpV l)) := by
  obtain ⟨iN, hiN, hzN0, hzN1, hzN2⟩ := info_parts infoInt
  obtain ⟨iB, hiB, hzB0, hzB1, hzB2⟩ := info_parts infoB
  obtain ⟨iS, hiS, hzS0, hzS1, hzS2⟩ := info_parts infoBs
  have HB := Lib.hid hr.bytes
  have HRow := Lib.hid hr
  obtain ⟨ad, cap, rfl, q2, q3, q4, q5⟩ := hr
  have HQ := Lib.hid q5
  clear q4 q5
  by_cases h2 : l.length < 2
  · have hg := unp_short h2
    have HE : Hid (UGot w (unpV l) (.returned (.tuple #[.slice none 0 0, .int .i64 3])) w) := by rw [hg]; exact ⟨_, rfl, Below.refl _ _, QRow.nil _⟩
    have i2 : (l.length : Int) < 2 := by omega
    clear hg h2
    go_enter Try.func25, Try.ntmps25
    go_wp2
    go_ret2
    exact HE.out
  · have i2 : ¬ (l.length : Int) < 2 := by omega
    obtain ⟨b, off, rfl, hlb, hc⟩ := HQ.out (by rintro rfl; simp at h2)
    have HC := Lib.hid hc
    have hc0 := hc 0 (by omega)
    have hc1 := hc 1 (by omega)
    rw [Nat.add_zero] at hc0
    have hb0 := HB.out 0
    have hb1 := HB.out 1
    obtain ⟨n, hn⟩ := Int.eq_ofNat_of_zero_le hb0.1
    obtain ⟨m, hm⟩ := Int.eq_ofNat_of_zero_le hb1.1
    have nb : (n : Int) < 256 := by omega
    have mb : (m : Int) < 256 := by omega
    rw [hn] at hc0
    rw [hm] at hc1
    have i0 : (0 : Int) < (l.length : Int) := by omega
    have i1 : (1 : Int) < (l.length : Int) := by omega
    clear hc
    by_cases hf : l.getD 0 0 = 0 ∨ 16 < l.getD 0 0 ∨ ¬ l.getD 1 0 = 0
    · have hg := unp_form h2 hf
      have HE : Hid (UGot w (unpV l) (.returned (.tuple #[.slice none 0 0, .int .i64 4])) w) := by rw [hg]; exact ⟨_, rfl, Below.refl _ _, QRow.nil _⟩
      rw [hn, hm] at hf
      have hcase : ((n : Int) == 0) = true ∨ (((n : Int) == 0) = false ∧ (16 : Int) < n) ∨ (((n : Int) == 0) = false ∧ ¬ (16 : Int) < n ∧ ((m : Int) == 0) = false) := by
        simp only [beq_iff_eq, beq_eq_false_iff_ne]
        omega
      clear hg h2 hf hn hm hb0 hb1
      rcases hcase with h1 | ⟨h1, h3⟩ | ⟨h1, h3, h4⟩
      all_goals
        go_enter Try.func25, Try.ntmps25
        go_wp2
        go_ret2
        exact HE.out
    · have hn1 : 1 ≤ n ∧ n ≤ 16 ∧ m = 0 := by
        rw [hn, hm] at hf
        have : (m : Int) = 0 := Decidable.byContradiction fun e => hf (.inr (.inr e))
        omega
      obtain ⟨n1, n2, rfl⟩ := hn1
      have j1 : ((n : Int) == 0) = false := by rw [beq_eq_false_iff_ne]; omega
      have j2 : ¬ (16 : Int) < n := by omega
      by_cases h3 : l.length < 2 + 2 * n
      · have hg := unp_ends n hn h2 hf h3
        have HE : Hid (UGot w (unpV l) (.returned (.tuple #[.slice none 0 0, .int .i64 3])) w) := by rw [hg]; exact ⟨_, rfl, Below.refl _ _, QRow.nil _⟩
        have j3 : (l.length : Int) < 2 + 2 * n := by omega
        clear hg h2 h3 hf hn hm hb0 hb1
        go_enter Try.func25, Try.ntmps25
        go_wp2
        go_ret2
        exact HE.out
      · have j3 : ¬ (l.length : Int) < 2 + 2 * n := by omega
        have U1 := Lib.hid (unp_fall n hn h2 hf h3)
        have U2 := Lib.hid (unp_beyond n hn h2 hf h3)
        have U3 := Lib.hid (unp_more n hn h2 hf h3)
        have U4 := Lib.hid (unp_ok n hn h2 hf h3)
        clear h2 hf hn hm hb0 hb1
        go_enter Try.func25, Try.ntmps25
        go_wp2
        go_loopw [6, 7] (fun ev i wr => ∃ k : Nat, k ≤ n ∧ i = .int .i64 k ∧ Hid (rises 0 (endsOf l k) = true) ∧ Hid (wr.ownsRow w.heap.size 3 1 ev k (valsN (endsOf l k))) ∧ Below w.heap.size w wr) (fun _ i _ => n - (intOf i).toNat)
        case atStart => exact ⟨0, Nat.zero_le _, rfl, rfl, by simpa [Hid, endsOf, valsN] using World.ownsRow_nil _ _ _ _, Below.refl _ _⟩
        case round =>
          obtain ⟨k, hk, rfl, HRi, HO, hbel⟩ := hrel
          have hsz := hbel.size
          by_cases hlt : k < n
          · have hlt1 : (k : Int) < (n : Int) := by omega
            have c1 := (hbel.cell (p := ⟨b, off + (2 + 2 * k), none⟩) hlb).trans (HC.out (2 + 2 * k) (by omega))
            have c2 := (hbel.cell (p := ⟨b, off + (3 + 2 * k), none⟩) hlb).trans (HC.out (3 + 2 * k) (by omega))
            have hbx := HB.out (2 + 2 * k)
            have hby := HB.out (3 + 2 * k)
            have hen := endAt_bd HB.out k
            obtain ⟨x, hx⟩ : ∃ x, x = l.getD (2 + 2 * k) 0 := ⟨_, rfl⟩
            obtain ⟨y, hy⟩ : ∃ y, y = l.getD (3 + 2 * k) 0 := ⟨_, rfl⟩
            rw [← hx] at c1 hbx hen
            rw [← hy] at c2 hby hen
            obtain ⟨E, hE⟩ : ∃ E, E = endAt l k := ⟨_, rfl⟩
            rw [← hE] at hen
            obtain ⟨q, hq⟩ : ∃ q, q = 2 * k := ⟨_, rfl⟩
            obtain ⟨p1, hp1⟩ : ∃ q, q = 2 + 2 * k := ⟨_, rfl⟩
            obtain ⟨p2, hp2⟩ : ∃ q, q = 3 + 2 * k := ⟨_, rfl⟩
            rw [← hp1] at c1
            rw [← hp2] at c2
            have w1 : IntKind.i64.wrap (2 * (k : Int)) = (q : Int) := (wrap_id (by omega) (by omega)).trans (by omega)
            have w2 : IntKind.i64.wrap (2 + (q : Int)) = (p1 : Int) := (wrap_id (by omega) (by omega)).trans (by omega)
            have w3 : IntKind.i64.wrap (3 + (q : Int)) = (p2 : Int) := (wrap_id (by omega) (by omega)).trans (by omega)
            obtain ⟨z, hz⟩ : ∃ z, z = 256 * y := ⟨_, rfl⟩
            have w4 : IntKind.i64.wrap x = x := wrap_id (by omega) (by omega)
            have w5 : IntKind.i64.wrap y = y := wrap_id (by omega) (by omega)
            have w6 : IntKind.i64.wrap (256 * y) = z := (wrap_id (by omega) (by omega)).trans (by omega)
            have w7 : IntKind.i64.wrap (x + z) = (E : Int) := (wrap_id (by omega) (by omega)).trans (by omega)
            have g1 : (p1 : Int) < (l.length : Int) := by omega
            have g2 : (p2 : Int) < (l.length : Int) := by omega
            have g3 : (0 : Int) ≤ (p1 : Int) := by omega
            have g4 : (0 : Int) ≤ (p2 : Int) := by omega
            have HNB := ne_low HO.out hlb
            have HX := Lib.hid hx
            have HY := Lib.hid hy
            have HEE := Lib.hid hE
            have eE : E < 65536 := by omega
            clear hp1 hp2 hq hx hy hE hz hen
            have b1 : (n : Int) < 256 := by omega
            go_wp2_with fail
            go_region_held3 (fun w' => w'.cell? ⟨b, off + p1, none⟩ = some (.int .u8 x) ∧ w'.cell? ⟨b, off + p2, none⟩ = some (.int .u8 y))
              (first | go_keep | (go_split_ands; refine ⟨?_, ?_⟩ <;> (rw [hgrow.cell_far _ (by simp; omega) HNB]; assumption)))
              ((refine step_append_lies _ (by rfl) (.tmp 42) (.tmp 59) 57 (by rfl) w.heap.size 3 iN _ 1 8 Try.underlying57 hiN hzN0 hzN1 hzN2 rfl (by decide) u6 k (valsN (endsOf l k)) (by rfl) ((HO.out.alloc _).drew) ⟨wr.heap.size, 0, none⟩ 1 1 [.int .i64 E] (by rfl) (by rfl) (World.news_of_block (cs := #[.int .i64 E]) (t := 3) (fr := (0, 0)) (heap_alloc_new wr _)) (by simp [Value.oneCell']) (by omega) (by unfold maxLen; omega) (by omega) (by simp; omega) (wr.heap.size + 1) (by simp) ?_; intro g cap2 W1 hown1 hgrow hat hlt2))
            have hb1 : Below w.heap.size w W1 := ((hbel.alloc hsz _).drew).grown hgrow (by simp; omega) (fun r hr => (HO.out.lt r hr).1)
            have HO1 : Hid (W1.ownsRow w.heap.size 3 1 (.slice (some ⟨g, 0, none⟩) (k + 1) cap2) (k + 1) (valsN (endsOf l (k + 1)))) := by
              unfold Hid; rw [endsOf_take, valsN_snoc, ← HEE.out]; exact hown1
            have hw1 : w.heap.size ≤ W1.heap.size := hb1.size
            clear hown1 hgrow hat c1 c2 w1 w2 w3 w4 w5 w6 w7 hbel hsz HNB g1 g2 g3 g4 HX HY hbx hby HO
            have d1 := HO1.out.cellAt k (by omega)
            rw [valsN_get _ _ (by rw [endsOf_length]; omega), endsOf_get _ _ _ (by omega), ← HEE.out] at d1
            have hk0' : (0 : Int) ≤ (k : Int) := by omega
            have hk1' : (k : Int) < (k : Int) + 1 := by omega
            have HRn := rises_snoc 0 (endsOf l k) E
            rw [HRi.out, Bool.true_and] at HRn
            rw [HEE.out, ← endsOf_take] at HRn
            by_cases hk0 : 0 < k
            · have hd : decide ((0 : Int) < (k : Int)) = true := by simp; omega
              obtain ⟨kp, hkp⟩ : ∃ kp, kp = k - 1 := ⟨_, rfl⟩
              have v1 : IntKind.i64.wrap ((k : Int) - 1) = (kp : Int) := (wrap_id (by omega) (by omega)).trans (by omega)
              have hkp0 : (0 : Int) ≤ (kp : Int) := by omega
              have hkp1 : (kp : Int) < (k : Int) + 1 := by omega
              have d2 := HO1.out.cellAt kp (by omega)
              rw [valsN_get _ _ (by rw [endsOf_length]; omega), endsOf_get _ _ _ (by omega)] at d2
              have hll : (endsOf l k).getLastD 0 = endAt l kp := by
                obtain ⟨j, rfl⟩ : ∃ j, k = j + 1 := ⟨k - 1, by omega⟩
                rw [hkp]
                simp [endsOf, List.range_succ]
              rw [hll, ← HEE.out] at HRn
              obtain ⟨E0, hE0⟩ : ∃ E0, E0 = endAt l kp := ⟨_, rfl⟩
              rw [← hE0] at d2 HRn
              clear hE0 hll hkp HEE
              by_cases hle : E < E0
              · have g9 : (E : Int) < (E0 : Int) := by omega
                have hfal : rises 0 (endsOf l n) = false := by
                  cases hr : rises 0 (endsOf l n) with
                  | false => rfl
                  | true =>
                    obtain ⟨B, hB⟩ := endsOf_prefix l (k + 1) n (by omega)
                    rw [hB] at hr
                    rw [rises_prefix _ _ _ hr] at HRn
                    simp at HRn
                    omega
                have HEnd : Hid (∀ w', Below w.heap.size w w' → UGot w (unpV l) (.returned (.tuple #[.slice none 0 0, .int .i64 4])) w') := by
                  rw [U1.out hfal]; intro w' h1; exact ⟨_, rfl, h1, QRow.nil _⟩
                clear HRn hfal hle HRi
                go_wp2_with fail
                go_quiet (fail)
                go_wp2
                go_ret2
                exact HEnd.out _ (below_drewN hb1 _)
              · have g9 : ¬ (E : Int) < (E0 : Int) := by omega
                have HR2 : Hid (rises 0 (endsOf l (k + 1)) = true) := by unfold Hid; rw [HRn]; simp; omega
                clear HRn hle HRi
                go_wp2_with fail
                go_quiet (fail)
                go_wp2
                refine ⟨⟨k + 1, by omega, by go_num, HR2, ownsRow_stays HO1.out (below_drewN (Below.refl _ _) _), below_drewN hb1 _⟩, by simp [intOf]; omega⟩
            · have hd : decide ((0 : Int) < (k : Int)) = false := by simp; omega
              have HR2 : Hid (rises 0 (endsOf l (k + 1)) = true) := by
                unfold Hid
                obtain rfl : k = 0 := by omega
                rw [HRn]; simp [endsOf]
              clear HRn HRi HEE
              go_wp2_with fail
              go_quiet (fail)
              go_wp2
              refine ⟨⟨k + 1, by omega, by go_num, HR2, ownsRow_stays HO1.out (below_drewN (Below.refl _ _) _), below_drewN hb1 _⟩, by simp [intOf]; omega⟩
          · have hkn : k = n := by omega
            subst k
            obtain ⟨g, cap2, rfl, hbg, hlg⟩ := HO.out.form (by omega)
            obtain ⟨np, hnp⟩ : ∃ np, np = n - 1 := ⟨_, rfl⟩
            have v1 : IntKind.i64.wrap ((n : Int) - 1) = (np : Int) := (wrap_id (by omega) (by omega)).trans (by omega)
            have hnp0 : (0 : Int) ≤ (np : Int) := by omega
            have hnp1 : (np : Int) < (n : Int) := by omega
            have d2 := HO.out.cellAt np (by omega)
            rw [valsN_get _ _ (by rw [endsOf_length]; omega), endsOf_get _ _ _ (by omega)] at d2
            have U2 := U2.out HRi.out
            have U3 := U3.out HRi.out
            have U4 := U4.out HRi.out
            rw [← hnp] at U2 U3 U4
            have hZb := (endAt_bd HB.out np).2
            obtain ⟨Z, hZ⟩ : ∃ Z, Z = endAt l np := ⟨_, rfl⟩
            rw [← hZ] at d2 U2 U3 U4 hZb
            by_cases h5 : l.length < 2 + 2 * n + Z
            · have HEnd : Hid (UGot w (unpV l) (.returned (.tuple #[.slice none 0 0, .int .i64 3])) wr) := by
                rw [U2 h5]; exact ⟨_, rfl, hbel, QRow.nil _⟩
              have g5 : (l.length : Int) - (2 + 2 * n) < Z := by omega
              clear U1 U2 U3 U4 hZ hnp h5 HRi
              go_wp2
              go_ret2
              exact HEnd.out
            · by_cases h6 : 2 + 2 * n + Z < l.length ∨ 480 < l.length
              · have HEnd : Hid (UGot w (unpV l) (.returned (.tuple #[.slice none 0 0, .int .i64 4])) wr) := by
                  rw [U3 h5 h6]; exact ⟨_, rfl, hbel, QRow.nil _⟩
                have g5 : ¬ (l.length : Int) - (2 + 2 * n) < Z := by omega
                have g6 : (Z : Int) < (l.length : Int) - (2 + 2 * n) ∨ (¬ (Z : Int) < (l.length : Int) - (2 + 2 * n) ∧ (480 : Int) < l.length) := by omega
                clear U1 U2 U3 U4 hZ hnp h5 h6 HRi
                rcases g6 with g6 | ⟨g6, g7⟩
                all_goals
                  go_wp2
                  go_ret2
                  exact HEnd.out
              · have g5 : ¬ (l.length : Int) - (2 + 2 * n) < Z := by omega
                have g6 : ¬ (Z : Int) < (l.length : Int) - (2 + 2 * n) := by omega
                have g7 : ¬ (480 : Int) < l.length := by omega
                have HU := Lib.hid (U4 h5 h6)
                have HZ := Lib.hid hZ
                have HNP := Lib.hid hnp
                have H56 : Hid (2 + 2 * n + Z = l.length) := by unfold Hid; omega
                obtain ⟨W5, rfl⟩ : ∃ W5, W5 = wr := ⟨_, rfl⟩
                clear U1 U2 U3 U4 hZ hnp h5 h6
                go_wp2
                go_loopw [8, 9, 10] (fun ev bv i wz => ∃ (k : Nat) (us : List Value), k ≤ n ∧ i = .int .i64 k ∧ bv = .int .i64 (begOf l k) ∧ Hid (wz.ownsRow W5.heap.size 22 1 ev k us) ∧ Hid (LVals (Row .u8) [] wz us ((cutP (l.drop (2 + 2 * n)) 0 (endsOf l n)).take k)) ∧ Hid (QApart ev.ownBlock us ((cutP (l.drop (2 + 2 * n)) 0 (endsOf l n)).take k)) ∧ Below W5.heap.size W5 wz) (fun _ _ i _ => n - (intOf i).toNat)
                case atStart => exact ⟨0, [], Nat.zero_le _, rfl, rfl, by simpa [Hid] using World.ownsRow_nil _ _ _ _, LVals.nil _ _ _, QApart.nil _, Below.refl _ _⟩
                case round =>
                  obtain ⟨k, us, hk, rfl, rfl, HO2, HL, HP, hbel2⟩ := hrel
                  have hsz2 := hbel2.size
                  by_cases hlt : k < n
                  · have hlt1 : (k : Int) < (n : Int) := by omega
                    have hbd := ends_bounds l n k HRi.out hlt
                    rw [← HNP.out, ← HZ.out] at hbd
                    have hd := (hbel2.cell (p := ⟨g, k, none⟩) hlg).trans (HO.out.cellAt k (by omega))
                    rw [valsN_get _ _ (by rw [endsOf_length]; omega), endsOf_get _ _ _ (by omega)] at hd
                    have hct := cutP_take (l.drop (2 + 2 * n)) l n k hlt
                    obtain ⟨Bg, hBg⟩ : ∃ Bg, Bg = begOf l k := ⟨_, rfl⟩
                    obtain ⟨E, hE⟩ : ∃ E, E = endAt l k := ⟨_, rfl⟩
                    rw [← hBg, ← hE] at hbd hct
                    rw [← hE] at hd
                    have hd2 : ∀ o, (wr.alloc o).cell? ⟨g, k, none⟩ = some (.int .i64 (E : Int)) := fun o => ((below_made wr o).cell (p := ⟨g, k, none⟩) (by simp; omega)).trans hd
                    have hlg2 : g < wr.heap.size := by omega
                    rw [← hBg]
                    have hsum := H56.out
                    obtain ⟨lo, hlo⟩ : ∃ lo, lo = 2 + 2 * n + Bg := ⟨_, rfl⟩
                    obtain ⟨hi, hhi⟩ : ∃ hi, hi = 2 + 2 * n + E := ⟨_, rfl⟩
                    have u1 : IntKind.i64.wrap (2 + 2 * (n : Int) + (Bg : Int)) = (lo : Int) := (wrap_id (by omega) (by omega)).trans (by omega)
                    have u2 : IntKind.i64.wrap (2 + 2 * (n : Int) + (E : Int)) = (hi : Int) := (wrap_id (by omega) (by omega)).trans (by omega)
                    have z1 : (0 : Int) ≤ (lo : Int) := by omega
                    have z2 : (lo : Int) ≤ (hi : Int) := by omega
                    have z3 : (hi : Int) ≤ (cap : Int) := by omega
                    have z4 : (0 : Int) ≤ (k : Int) := by omega
                    have HLO := Lib.hid hlo
                    have HHI := Lib.hid hhi
                    have HEk := Lib.hid hE
                    have HCT := Lib.hid hct
                    clear hlo hhi hBg hE hct hsum
                    obtain ⟨X, hX⟩ : ∃ X, X = (l.drop lo).take (hi - lo) := ⟨_, rfl⟩
                    have hXl : X.length = hi - lo := by rw [hX, List.length_take, List.length_drop]; have := z3; have h1 := HLO.out; have h2 := HHI.out; have h3 := H56.out; omega
                    have hXg : ∀ j, j < hi - lo → X.getD j 0 = l.getD (lo + j) 0 := by
                      intro j hj
                      rw [hX]
                      simp [List.getD, hj]
                    have hXb : ∀ i, 0 ≤ X.getD i 0 ∧ X.getD i 0 < 256 := by
                      intro i
                      by_cases hi1 : i < hi - lo
                      · rw [hXg i hi1]; exact HB.out _
                      · simp [List.getD, show X[i]? = none from List.getElem?_eq_none (by omega)]
                    have hxe : (l.drop (2 + 2 * n)).drop Bg = l.drop lo := by rw [List.drop_drop, HLO.out]
                    have hxe2 : hi - lo = E - Bg := by rw [HLO.out, HHI.out]; omega
                    have HCX : Hid ((cutP (l.drop (2 + 2 * n)) 0 (endsOf l n)).take (k + 1) = (cutP (l.drop (2 + 2 * n)) 0 (endsOf l n)).take k ++ [X]) := by
                      unfold Hid; rw [HCT.out, hxe, hX, hxe2]
                    have hLk : ((cutP (l.drop (2 + 2 * n)) 0 (endsOf l n)).take k).length = k := by rw [List.length_take, cut_length, endsOf_length]; omega
                    have hiL : hi ≤ l.length := by have h2 := HHI.out; have h3 := H56.out; omega
                    obtain ⟨LK, hLK⟩ : ∃ LK, LK = (cutP (l.drop (2 + 2 * n)) 0 (endsOf l n)).take k := ⟨_, rfl⟩
                    rw [← hLK] at HCX hLk HL HP
                    have HNW : ∀ (ad : Addr), (ad = ⟨b, off + lo, none⟩ ∨ hi - lo = 0) → ∀ j u, (vals X)[j]? = some u → (wr.alloc (.cells #[] 5)).cell? (ad.add j) = some u := by
                      intro ad had j u hj
                      obtain ⟨hj2, -⟩ := List.getElem?_eq_some_iff.1 hj
                      rw [vals_length, hXl] at hj2
                      rcases had with rfl | h0
                      · rw [vals_get _ _ (by omega), hXg j hj2] at hj
                        rw [Addr_add, ← hj]
                        refine ((below_made wr _).cell (p := ⟨b, off + lo + j, none⟩) (by simp; omega)).trans ?_
                        refine (hbel2.cell (p := ⟨b, off + lo + j, none⟩) (by simp; omega)).trans ?_
                        refine (hbel.cell (p := ⟨b, off + lo + j, none⟩) hlb).trans ?_
                        rw [Nat.add_assoc]
                        exact HC.out _ (by omega)
                      · omega
                    have HXL := Lib.hid hXl
                    have HXB := Lib.hid hXb
                    have hv1 : (vals X).length = (hi - lo) * 1 := by rw [vals_length, hXl, Nat.mul_one]
                    have hv2 : ∀ u ∈ vals X, u.oneCell' = true := by
                      intro u hu
                      simp only [vals, List.mem_map] at hu
                      obtain ⟨x, -, rfl⟩ := hu
                      rfl
                    have hv3 : 0 + (hi - lo) ≤ maxLen := maxLen_of (by omega)
                    have hv4 : (0 + (hi - lo)) * 1 ≤ 140737488355328 := by omega
                    have HNW2 := Lib.hid HNW
                    have HV1 := Lib.hid hv1
                    have HV2 := Lib.hid hv2
                    have HV3 := Lib.hid hv3
                    have HV4 := Lib.hid hv4
                    clear HNW hv1 hv2 hv3 hv4 hXb hXg hxe hxe2 hXl hX hLK HCT
                    have hcl : (cap = lo ∧ Hid (hi - lo = 0)) ∨ ¬ cap = lo := by
                      by_cases h : cap = lo
                      · exact .inl ⟨h, by unfold Hid; omega⟩
                      · exact .inr h
                    have hk16 : k ≤ 16 := by omega
                    clear hiL
                    rcases hcl with ⟨rfl, hz0⟩ | hcl
                    all_goals
                      go_wp2_with (at_builtin; refine wpList_append_own_at _ rfl (.tmp 106) (.tmp 117) 22 rfl wr.heap.size 5 iB (.int .u8 0) 1 1 Try.underlying22 hiB hzB0 hzB1 hzB2 rfl (by decide) _ _ _ rfl (World.ownsRow_lit wr #[] 0 (Nat.le_refl _) (by decide) rfl) _ _ _ (vals X) rfl HV1.out (HNW2.out _ (by first | exact .inl rfl | exact .inr hz0.out)) HV2.out HV3.out HV4.out (le_alloc _ (Nat.le_refl _)) ?_)
                      intro v1 w1 hown1 hgrow1 _ hblk1
                      have hb1 : Below wr.heap.size wr w1 := (below_made wr _).grown hgrow1 (by simp) (fun r hr => by simp only [Value.ownBlock, Option.some.injEq] at hr; omega)
                      have hown1' : w1.ownsRow wr.heap.size 5 1 v1 X.length (vals X) := by rw [HXL.out]; simpa using hown1
                      have hrx : Row .u8 w1 v1 X := row_of_owns hown1' rfl HXB.out
                      have hfx : ∀ r, v1.ownBlock = some r → wr.heap.size ≤ r := by
                        intro r hr
                        rcases hblk1 with h | h
                        · rw [h] at hr; simp only [Value.ownBlock, Option.some.injEq] at hr; omega
                        · rw [h] at hr; simp only [Option.some.injEq] at hr; omega
                      have HRX := Lib.hid hrx
                      obtain ⟨adx, capx, rfl, -, -, -, -⟩ := hrx
                      have HFX := Lib.hid hfx
                      have HO3 := Lib.hid (ownsRow_stays HO2.out hb1)
                      have HLT := Lib.hid HO2.out.lt
                      have HL3 := Lib.hid (HL.out.mono (row_stays .u8) hb1 (Nat.le_refl _))
                      have hbel3 := hbel2.trans (hb1.mono hsz2)
                      have hsz3 := hbel3.size
                      have hd5 := (hbel3.cell (p := ⟨g, k, none⟩) hlg).trans (HO.out.cellAt k (by omega))
                      have hk63 : k + 1 ≤ maxLen := maxLen_of (by omega)
                      have hkby : (k + 1) * 24 ≤ 140737488355328 := by omega
                      clear hown1 hown1' hgrow1 hblk1 hb1 hfx hd hd2 hbel2 hsz2
                      go_wp2_with (at_builtin; refine wpList_append_own_at _ rfl (.tmp 105) (.tmp 119) 38 rfl W5.heap.size 22 iS (.slice none 0 0) 1 24 Try.underlying38 hiS hzS0 hzS1 hzS2 rfl (by decide) _ _ _ rfl (HO3.out.alloc _) ⟨w1.heap.size, 0, none⟩ 1 1 [.slice adx X.length capx] rfl rfl (news_oneV _ _ _) (oneCell_oneL _ _ _) hk63 hkby (le_alloc _ hsz3) ?_)
                      intro v2 w2 hown2 hgrow2 _ hblk2
                      have hb2 : Below W5.heap.size W5 w2 := (hbel3.alloc hsz3 _).grown hgrow2 (by simp; omega) (fun r hr => (HO3.out.lt r hr).1)
                      have hal := below_made w1 (.cells #[.slice adx X.length capx] 22)
                      have HP3 := Lib.hid (QApart.snoc HL3.out.1 HP.out (u := .slice adx X.length capx) (l := X) (fun hne e => by
                        obtain ⟨r, hr, -⟩ := HRX.out.block hne
                        have h1 := HFX.out r hr
                        rw [e] at hr
                        have h2 := (HLT.out r hr).2
                        omega))
                      have hL4 := (HL3.out.snoc HRX.out).mono (row_stays .u8) hal (Nat.le_refl _)
                      have HL5 := Lib.hid (QVals.grown hL4 HP3.out hgrow2)
                      have HP5 : Hid (QApart v2.ownBlock (us ++ [.slice adx X.length capx]) (LK ++ [X])) := by
                        rcases hblk2 with h | h
                        · unfold Hid; rw [h]; exact HP3.out
                        · unfold Hid; rw [h]; exact QApart.fresh hL4 (Nat.le_of_eq (Array.size_push _))
                      have HO5 := Lib.hid hown2
                      have hd6 := (hb2.cell (p := ⟨g, k, none⟩) hlg).trans (HO.out.cellAt k (by omega))
                      rw [valsN_get _ _ (by rw [endsOf_length]; omega), endsOf_get _ _ _ (by omega), ← HEk.out] at hd6
                      clear hown2 hgrow2 hblk2 hL4 HP3 HL3 hal HLT HRX hd5 hbel3
                      go_wp2
                      go_roundw
                      case rel =>
                        refine ⟨k + 1, us ++ [.slice adx X.length capx], by omega, by go_num, ?_, HO5, ?_, ?_, hb2⟩
                        · show _ = Value.int .i64 ((endAt l k : Nat) : Int)
                          rw [HEk.out]
                        · rw [HCX.out]; exact HL5
                        · rw [HCX.out]; exact HP5
                      case measure => simp [intOf]; omega
                  · have hkn : k = n := by omega
                    subst k
                    have hfull : (cutP (l.drop (2 + 2 * n)) 0 (endsOf l n)).take n = cutP (l.drop (2 + 2 * n)) 0 (endsOf l n) := List.take_of_length_le (by rw [cut_length, endsOf_length]; exact Nat.le_refl _)
                    have HEnd : Hid (UGot w (unpV l) (.returned (.tuple #[u8, .int .i64 0])) wr) := by
                      rw [HU.out]
                      have hl1 := HL.out
                      rw [hfull] at hl1
                      exact ⟨u8, rfl, hbel.trans (hbel2.mono hbel.size), lrow_of_owns HO2.out (by rw [cut_length, endsOf_length]) hl1⟩
                    clear hfull
                    go_wp2
                    go_ret2
                    exact HEnd.out
end Go.Proofs.Ytbjdlfeipidlbaa.Rec
