/- The document's Store once more: what it answers lies in new memory (made out of XNumJ, XNumK). -/
import Derived.Test.YtncbfagmdldclaaNumK
namespace Go.Proofs.Ytncbfagmdldclaa.Num
open Go.RowKit
set_option linter.unusedVariables false

def StoredF (w : World) (l : List Int) (a x v : Int) (e : Ending) (w' : World) : Prop :=
  ∃ u, e = .returned (.tuple #[u, .int .i64 (ste l a x v)]) ∧ Below w.heap.size w w' ∧ Row .u8 w' u (if ste l a x v = 0 then stl l a.toNat x.toNat v else []) ∧ ∀ k, u.ownBlock = some k → w.heap.size ≤ k

set_option maxRecDepth 100000 in
theorem refStoreF_ok (b off cap : Nat) (l : List Int) (m n : Nat) (v : Int) (w : World) (hl : l.length ≤ cap) (hc : cap ≤ 9223372036854775807) (hlen : l.length ≤ 2000)
    (hcell : ∀ i, i < l.length → w.cell? ⟨b, off + i, none⟩ = some (.int .u8 (l.getD i 0))) (hby : ∀ i, 0 ≤ l.getD i 0 ∧ l.getD i 0 < 256) (hblk : b < w.heap.size)
    (h0 : 0 ≤ v) (h1 : v < 18446744073709551616) (hf : fits v n = true) (hx1 : 1 ≤ n) (hx2 : n ≤ 8) (hp : plc l.length m n = 0) (hat : m + n ≤ l.length) :
    Calls Try.prog 42 #[.slice (some ⟨b, off, none⟩) l.length cap, .int .i64 m, .int .i64 n, .int .u64 v] w (StoredF w l m n v) := by
  have hw : isW n = true := by simp [fits] at hf; exact hf.1
  have hL := stl_length l m n v (by omega) (by omega)
  have Hst : Hid (∀ e w', (∃ u, e = .returned (.tuple #[u, .int .i64 0]) ∧ Below w.heap.size w w' ∧ w'.ownsRow w.heap.size 5 1 u l.length (vals ((stl l m n v).take l.length))) → StoredF w l m n v e w') := by
    rintro e w' ⟨u, rfl, hb, ho⟩
    have e0 : ste l m n v = 0 := by simp [ste, hf, hp]
    refine ⟨u, by rw [e0], hb, ?_⟩
    rw [if_pos e0, Int.toNat_natCast, Int.toNat_natCast]
    rw [List.take_of_length_le (by omega)] at ho
    exact ⟨row_of_owns ho hL (stl_bd l m n v h0 h1 hby), fun k hk => (ho.lt k hk).1⟩
  refine Calls.mono ?_ Hst.out
  have Hw := Lib.hid hw
  have Hf := Lib.hid hf
  have Hp := Lib.hid hp
  have HC := Lib.hid hcell
  have HL := Lib.hid hL
  clear hf hp hcell hw hL Hst hby
  obtain ⟨i0, hi, hz0, hz1, hz2⟩ := info_parts infoU8
  go_enter Try.func42, Try.ntmps42
  go_wp2_with (first
    | (go_at_call 48; refine (refWidth_any _ _).mono ?_; rintro e w' ⟨rfl, rfl⟩; rw [Hw.out])
    | (go_at_call 49; refine (refFits_any _ _ _ h0 h1).mono ?_; rintro e w' ⟨rfl, rfl⟩; rw [Hf.out])
    | (go_at_call 40; refine (refMay_yes _ _ _ _ Hw.out (by omega) (by omega)).mono ?_; rintro e w' ⟨rfl, rfl⟩; rw [Hp.out]))
  go_loopw [3, 11, 12] (fun vv out i wr => ∃ k : Nat, k ≤ l.length ∧ i = .int .i64 k ∧ vv = .int .u64 (v / 256 ^ min (k - m) n) ∧ wr.ownsRow w.heap.size 5 1 out k (vals ((stl l m n v).take k)) ∧ Below w.heap.size w wr) (fun _ _ i _ => l.length - (intOf i).toNat)
  case atStart => exact ⟨0, Nat.zero_le _, rfl, by simp, by simpa [vals] using World.ownsRow_nil _ _ _ _, Below.refl _ _⟩
  case round =>
    obtain ⟨k, hk, rfl, rfl, hown, hbel⟩ := hrel
    have HO := Lib.hid hown
    have hsz := hbel.size
    clear hown
    by_cases hlt : k < l.length
    · have hck := Lib.hid ((hbel.cell (p := ⟨b, off + k, none⟩) (show b < w.heap.size from hblk)).trans (HC.out k hlt))
      by_cases h3 : k < m
      · have hE := Lib.hid (stl_low l m n k v h3 (by omega))
        have hc1 := hck.out
        obtain ⟨x, hx⟩ : ∃ x, x = l.getD k 0 := ⟨_, rfl⟩
        rw [← hx] at hc1 hE
        clear hx hck
        have he1 : v / 256 ^ min (k - m) n = v := by rw [show min (k - m) n = 0 by omega]; simp
        have he2 := Lib.hid (show v / 256 ^ min (k + 1 - m) n = v by rw [show min (k + 1 - m) n = 0 by omega]; simp)
        rw [he1]
        clear he1
        have hb63 : k + 1 ≤ maxLen := maxLen_of (by omega)
        have hbby : (k + 1) * 1 ≤ 140737488355328 := by omega
        go_wp2_with (first
          | (at_builtin; refine wpList_append_own _ rfl (.tmp 45) (.tmp 50) 32 rfl w.heap.size 5 i0 (.int .u8 0) 1 1 Try.underlying32 hi hz0 hz1 hz2 rfl (by decide) _ _ _ rfl (HO.out.alloc _) ⟨wr.heap.size, 0, none⟩ 1 1 [.int .u8 x] rfl rfl (news_one _ _ _ _) (oneCell_one _ _) hb63 hbby (le_alloc _ hsz) ?_))
        intro v' w1 hown' hgrow _
        have hb1 : Below w.heap.size w w1 := (hbel.alloc hsz _).grown hgrow (by simp; omega) (fun r hr => (HO.out.lt r hr).1)
        have hown2 : Hid (w1.ownsRow w.heap.size 5 1 v' (k + 1) (vals ((stl l m n v).take (k + 1)))) := by
          unfold Hid
          rw [vals_snoc _ _ (by rw [HL.out]; exact hlt), hE.out]
          exact hown'
        clear hown' hgrow hbel
        go_wp2
        go_roundw
        case rel => exact ⟨k + 1, by omega, by go_num, by rw [he2.out], hown2.out, hb1⟩
        case measure => simp [intOf]; omega
      · by_cases h4 : k < m + n
        · have hE := Lib.hid (stl_mid l m n k v (by omega) (by omega) hx2 (by omega))
          have hG := Lib.hid (parts_get v (k - m) (by omega) h0 h1)
          have hc1 := hck.out
          have g0 : 0 ≤ v / 256 ^ (k - m) := Int.ediv_nonneg h0 (Int.pow_nonneg (by omega))
          have g1 : v / 256 ^ (k - m) ≤ v := Int.ediv_le_self _ h0
          rw [show min (k - m) n = k - m from by omega]
          have he2 := Lib.hid (show v / 256 ^ min (k + 1 - m) n = v / 256 ^ (k - m) / 256 by
            rw [show min (k + 1 - m) n = (k - m) + 1 by omega, Int.pow_succ, Int.ediv_ediv_of_nonneg (Int.pow_nonneg (by omega))])
          obtain ⟨V, hV⟩ : ∃ V, V = v / 256 ^ (k - m) := ⟨_, rfl⟩
          rw [← hV] at g0 g1 hG he2 ⊢
          clear hV
          have h7 : ¬ ((m : Int) + (n : Int) ≤ (k : Int)) := by omega
          have h8 : ¬ ((k : Int) < (m : Int)) := by omega
          have hb63 : k + 1 ≤ maxLen := maxLen_of (by omega)
          have hbby : (k + 1) * 1 ≤ 140737488355328 := by omega
          go_wp2_with (first
            | (at_builtin; refine wpList_append_own _ rfl (.tmp 52) (.tmp 56) 32 rfl w.heap.size 5 i0 (.int .u8 0) 1 1 Try.underlying32 hi hz0 hz1 hz2 rfl (by decide) _ _ _ rfl (HO.out.alloc _) ⟨wr.heap.size, 0, none⟩ 1 1 [.int .u8 (V % 256)] rfl rfl (news_one _ _ _ _) (oneCell_one _ _) hb63 hbby (le_alloc _ hsz) ?_))
          intro v' w1 hown' hgrow _
          have hb1 : Below w.heap.size w w1 := (hbel.alloc hsz _).grown hgrow (by simp; omega) (fun r hr => (HO.out.lt r hr).1)
          have hown2 : Hid (w1.ownsRow w.heap.size 5 1 v' (k + 1) (vals ((stl l m n v).take (k + 1)))) := by
            unfold Hid
            rw [vals_snoc _ _ (by rw [HL.out]; exact hlt), hE.out, hG.out]
            exact hown'
          clear hown' hgrow hbel
          go_wp2
          go_roundw
          case rel => exact ⟨k + 1, by omega, by go_num, by rw [he2.out], hown2.out, hb1⟩
          case measure => simp [intOf]; omega
        · have hE := Lib.hid (stl_high l m n k v (by omega) hx2 (by omega))
          have hc1 := hck.out
          obtain ⟨x, hx⟩ : ∃ x, x = l.getD k 0 := ⟨_, rfl⟩
          rw [← hx] at hc1 hE
          clear hx hck
          rw [show min (k - m) n = n from by omega]
          have he2 := Lib.hid (show v / 256 ^ min (k + 1 - m) n = v / 256 ^ n by rw [show min (k + 1 - m) n = n by omega])
          obtain ⟨V, hV⟩ : ∃ V, V = v / 256 ^ n := ⟨_, rfl⟩
          rw [← hV] at he2 ⊢
          clear hV
          have h7 : (m : Int) + (n : Int) ≤ (k : Int) := by omega
          have h8 : ¬ ((k : Int) < (m : Int)) := by omega
          have hb63 : k + 1 ≤ maxLen := maxLen_of (by omega)
          have hbby : (k + 1) * 1 ≤ 140737488355328 := by omega
          go_wp2_with (first
            | (at_builtin; refine wpList_append_own _ rfl (.tmp 45) (.tmp 50) 32 rfl w.heap.size 5 i0 (.int .u8 0) 1 1 Try.underlying32 hi hz0 hz1 hz2 rfl (by decide) _ _ _ rfl (HO.out.alloc _) ⟨wr.heap.size, 0, none⟩ 1 1 [.int .u8 x] rfl rfl (news_one _ _ _ _) (oneCell_one _ _) hb63 hbby (le_alloc _ hsz) ?_))
          intro v' w1 hown' hgrow _
          have hb1 : Below w.heap.size w w1 := (hbel.alloc hsz _).grown hgrow (by simp; omega) (fun r hr => (HO.out.lt r hr).1)
          have hown2 : Hid (w1.ownsRow w.heap.size 5 1 v' (k + 1) (vals ((stl l m n v).take (k + 1)))) := by
            unfold Hid
            rw [vals_snoc _ _ (by rw [HL.out]; exact hlt), hE.out]
            exact hown'
          clear hown' hgrow hbel
          go_wp2
          go_roundw
          case rel => exact ⟨k + 1, by omega, by go_num, by rw [he2.out], hown2.out, hb1⟩
          case measure => simp [intOf]; omega
    · obtain rfl : k = l.length := by omega
      go_wp2
      go_ret2
      exact ⟨_, rfl, hbel, HO.out⟩

theorem refStoreF_any (u : Value) (a x v : Int) (l : List Int) (w : World) (hr : Row .u8 w u l) (h0 : 0 ≤ v) (h1 : v < 18446744073709551616) (hlen : l.length ≤ 2000) :
    Calls Try.prog 42 #[u, .int .i64 a, .int .i64 x, .int .u64 v] w (StoredF w l a x v) := by
  have hby := hr.bytes
  obtain ⟨ad, cap, rfl, h2, h3, h4, h5⟩ := hr
  by_cases hw : isW x = true
  · obtain ⟨b1, b2⟩ := isW_bd hw
    by_cases hf : fits v x = true
    · by_cases hp : plc l.length a x = 0
      · obtain ⟨p1, p2, p3⟩ := plc_ok hp
        obtain ⟨b, off, rfl, hlt, hc⟩ := h5 (by rintro rfl; simp at p2; omega)
        obtain ⟨m, rfl⟩ := Int.eq_ofNat_of_zero_le p1
        obtain ⟨n, rfl⟩ := Int.eq_ofNat_of_zero_le (show 0 ≤ x by omega)
        exact refStoreF_ok b off cap l m n v w h2 h3 hlen hc hby hlt h0 h1 hf (by omega) (by omega) hp (by omega)
      · have e0 : ste l a x v = plc l.length a x := by simp [ste, hf]
        have Hst : Hid (∀ e w', e = .returned (.tuple #[.slice none 0 0, .int .i64 (plc l.length a x)]) ∧ w = w' → StoredF w l a x v e w') := by
          rintro e w' ⟨rfl, rfl⟩
          exact ⟨_, by rw [e0], Below.refl _ _, by rw [if_neg (by rw [e0]; exact hp)]; exact ⟨Row.nil _ _, fun k hk => by cases hk⟩⟩
        refine Calls.mono ?_ Hst.out
        have Hf := Lib.hid hf
        have Hw := Lib.hid hw
        clear hf h5 h4 hby e0 Hst hw
        obtain ⟨p, hpp⟩ : ∃ p, p = plc l.length a x := ⟨_, rfl⟩
        rw [← hpp] at hp ⊢
        have Hp := Lib.hid hpp.symm
        have hne : (p == 0) = false := by simpa using hp
        clear hpp hp
        go_enter Try.func42, Try.ntmps42
        go_wp2_with (first
          | (go_at_call 48; refine (refWidth_any _ _).mono ?_; rintro e w' ⟨rfl, rfl⟩; rw [Hw.out])
          | (go_at_call 49; refine (refFits_any _ _ _ h0 h1).mono ?_; rintro e w' ⟨rfl, rfl⟩; rw [Hf.out])
          | (go_at_call 40; refine (refMay_yes _ _ _ _ Hw.out (by omega) (by omega)).mono ?_; rintro e w' ⟨rfl, rfl⟩; rw [Hp.out]))
        go_ret2
        exact ⟨rfl, rfl⟩
    · have hf' : fits v x = false := by simpa using hf
      have e0 : ste l a x v = 2 := by simp [ste, hf']
      have Hst : Hid (∀ e w', e = .returned (.tuple #[.slice none 0 0, .int .i64 2]) ∧ w = w' → StoredF w l a x v e w') := by
        rintro e w' ⟨rfl, rfl⟩
        exact ⟨_, by rw [e0], Below.refl _ _, by rw [if_neg (by rw [e0]; decide)]; exact ⟨Row.nil _ _, fun k hk => by cases hk⟩⟩
      refine Calls.mono ?_ Hst.out
      have Hf := Lib.hid hf'
      have Hw := Lib.hid hw
      clear hf hf' h5 h4 hby e0 Hst hw
      go_enter Try.func42, Try.ntmps42
      go_wp2_with (first
        | (go_at_call 48; refine (refWidth_any _ _).mono ?_; rintro e w' ⟨rfl, rfl⟩; rw [Hw.out])
        | (go_at_call 49; refine (refFits_any _ _ _ h0 h1).mono ?_; rintro e w' ⟨rfl, rfl⟩; rw [Hf.out]))
      go_ret2
      exact ⟨rfl, rfl⟩
  · have hw' : isW x = false := by simpa using hw
    have hf' : fits v x = false := by simp [fits, hw']
    have e0 : ste l a x v = 2 := by simp [ste, hf']
    have Hst : Hid (∀ e w', e = .returned (.tuple #[.slice none 0 0, .int .i64 2]) ∧ w = w' → StoredF w l a x v e w') := by
      rintro e w' ⟨rfl, rfl⟩
      exact ⟨_, by rw [e0], Below.refl _ _, by rw [if_neg (by rw [e0]; decide)]; exact ⟨Row.nil _ _, fun k hk => by cases hk⟩⟩
    refine Calls.mono ?_ Hst.out
    have Hw := Lib.hid hw'
    clear hf' h5 h4 hby e0 Hst hw hw'
    go_enter Try.func42, Try.ntmps42
    go_wp2_with (first
      | (go_at_call 48; refine (refWidth_any _ _).mono ?_; rintro e w' ⟨rfl, rfl⟩; rw [Hw.out])
      | (go_at_call 40; refine (refMay_no _ _ _ _ Hw.out).mono ?_; rintro e w' ⟨rfl, rfl⟩))
    go_ret2
    exact ⟨rfl, rfl⟩

end Go.Proofs.Ytncbfagmdldclaa.Num
