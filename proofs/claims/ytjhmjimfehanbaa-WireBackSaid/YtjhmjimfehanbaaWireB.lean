/- Contracts of the document's All, Same, Few for wire. -/
import Derived.Test.YtjhmjimfehanbaaWireA
import Derived.Maps.AppendAt
namespace Go.Proofs.Ytjhmjimfehanbaa.Wire
open Go.RowKit Fold Name
set_option linter.unusedVariables false

theorem getW_next (b : List Int) (k bg nx : Nat) (acc : List ByteArray) : (getW b k bg nx acc).2.2 = 0 → (if nx = 0 then k < (getW b k bg nx acc).2.1 ∧ (getW b k bg nx acc).2.1 ≤ b.length else (getW b k bg nx acc).2.1 = nx) := by
  fun_induction getW b k bg nx acc with
  | case1 => intro _; split <;> simp_all <;> omega
  | case2 => intro h; simp at h
  | case3 k bg nx acc h1 h2 h3 h4 h5 h6 ih =>
    intro h
    have := ih h
    by_cases hx : nx = 0
    · simp [hx] at this ⊢; omega
    · simp [hx] at this ⊢; exact this
  | case4 => intro h; simp at h
  | case5 => intro h; simp at h
  | case6 => intro h; simp at h
  | case7 k bg nx acc h1 h2 h3 h4 h5 h6 h7 ih =>
    intro h
    have := ih h
    by_cases hx : nx = 0
    · simp [hx] at this ⊢; omega
    · simp [hx] at this ⊢; exact this
  | case8 => intro h; simp at h
  | case9 => intro h; simp at h
  | case10 => intro h; simp at h

theorem dropN_get {l : List (List ByteArray)} {k : Nat} (h : k < l.length) : l.drop k = l.getD k [] :: l.drop (k + 1) := by
  have e : l.getD k [] = l[k] := by simp [List.getD, h]
  rw [e, List.drop_eq_getElem_cons h]

/-- All names from a place on. -/
def allW (b : List Int) (k : Nat) (out : List (List ByteArray)) : List (List ByteArray) × Int :=
  if k < b.length then
    if (getW b k k 0 []).2.2 = 0 then
      if k < (getW b k k 0 []).2.1 then allW b (getW b k k 0 []).2.1 (out ++ [(getW b k k 0 []).1]) else ([], 99)
    else ([], (getW b k k 0 []).2.2)
  else (out, 0)
termination_by b.length - k
def AGot (w : World) (r : List (List ByteArray) × Int) (e : Ending) (w' : World) : Prop :=
  ∃ u, e = .returned (.tuple #[u, .int .i64 r.2]) ∧ Below w.heap.size w w' ∧ NRow w' u r.1
theorem getV_in {l : List Int} {k : Nat} (h : k < l.length) : getV l k = getW l k k 0 [] := by rw [getV, if_neg (by omega), Int.toNat_natCast]

theorem infoLs : (Try.prog.info? 24).map (fun i => (i.zero, i.size, i.bytes)) = some (some (.slice none 0 0), 1, 24) := by kernel_rfl

set_option maxRecDepth 100000 in
set_option maxHeartbeats 2000000 in
theorem refAll_any (v : Value) (l : List Int) (w : World) (hr : Row .u8 w v l) (hl : l.length ≤ 100000) :
    Calls Try.prog 12 #[v] w (AGot w (allW l 0 [])) := by
  obtain ⟨i0, hi, hz0, hz1, hz2⟩ := info_parts infoLs
  have HRow := Lib.hid hr
  obtain ⟨ad, cap, rfl, q2, q3, q4, q5⟩ := hr
  clear q4 q5
  go_enter Try.func12, Try.ntmps12
  go_wp2
  go_loopw [4, 5] (fun o i wr => ∃ (k : Nat) (L : List (List ByteArray)) (us : List Value), k ≤ l.length ∧ L.length ≤ k ∧ i = .int .i64 k ∧ Hid (allW l k L = allW l 0 []) ∧ Hid (wr.ownsRow w.heap.size 24 1 o L.length us) ∧ Hid (NVals wr us L) ∧ Hid (NApart o.ownBlock us L) ∧ Below w.heap.size w wr) (fun _ i _ => l.length - (intOf i).toNat)
  case atStart => exact ⟨0, [], [], Nat.zero_le _, Nat.zero_le _, rfl, rfl, by simpa [Hid] using World.ownsRow_nil _ _ _ _, NVals.nil _, NApart.nil _, Below.refl _ _⟩
  case round =>
    obtain ⟨k, L, us, hk, hLk, rfl, HA, HO, HN, HP, hbel⟩ := hrel
    have hsz := hbel.size
    by_cases hlt : k < l.length
    · have hlt1 : (k : Int) < (l.length : Int) := by omega
      have hG := refGet_any (.slice ad l.length cap) (k : Int) l wr (HRow.out.mono hbel (Nat.le_refl _)) hl
      rw [getV_in hlt] at hG
      have hA := HA.out
      rw [allW, if_pos hlt] at hA
      have hnx := getW_next l k k 0 []
      obtain ⟨r, hrr⟩ : ∃ r, r = getW l k k 0 [] := ⟨_, rfl⟩
      rw [← hrr] at hG hA hnx
      obtain ⟨x, n, c⟩ := r
      simp only [] at hG hA hnx
      have HG := Lib.hid hG
      clear hrr hG HA
      by_cases hc : c = 0
      · subst hc
        have hn2 := hnx rfl
        simp only [if_pos] at hn2
        rw [if_pos rfl, if_pos hn2.1] at hA
        have HA2 := Lib.hid hA
        have hb63 : L.length + 1 ≤ maxLen := maxLen_of (by omega)
        have hbby : (L.length + 1) * 24 ≤ 140737488355328 := by omega
        clear hA hnx
        go_wp2_with fail
        refine HG.out.mono ?_
        rintro e w3 ⟨u, rfl, hb3, hu⟩
        simp only []
        have HU := Lib.hid hu
        obtain ⟨⟨adu, capu, rfl, -, -, -, -⟩, -⟩ := hu
        have HO3 := Lib.hid (ownsRow_stays HO.out hb3)
        have HN3 := Lib.hid (HN.out.mono hb3 (Nat.le_refl _))
        have HLT := Lib.hid HO.out.lt
        have hbel3 := hbel.trans (hb3.mono hsz)
        have hsz3 := hbel3.size
        clear hb3 hbel HO HN HG
        go_wp2_with (at_builtin; refine wpList_append_own_at _ rfl (.tmp 23) (.tmp 25) 32 rfl w.heap.size 24 i0 (.slice none 0 0) 1 24 Try.underlying32 hi hz0 hz1 hz2 rfl (by decide) _ _ _ rfl (HO3.out.alloc _) ⟨w3.heap.size, 0, none⟩ 1 1 [.slice adu x.length capu] rfl rfl (news_oneV _ _ _) (oneCell_oneL _ _ _) hb63 hbby (le_alloc _ hsz3) ?_)
        intro v' w5 hown' hgrow _ hblk
        have hb1 : Below w.heap.size w w5 := (hbel3.alloc hsz3 _).grown hgrow (by simp; omega) (fun r hr => (HO3.out.lt r hr).1)
        have hal := below_made w3 (.cells #[.slice adu x.length capu] 24)
        have HP3 := Lib.hid (NApart.snoc HN3.out.1 HP.out (u := .slice adu x.length capu) (l := x) (fun hne e => by
          obtain ⟨g, hg, -⟩ := HU.out.1.block hne
          have h1 := HU.out.2 hne g hg
          rw [e] at hg
          have h2 := (HLT.out g hg).2
          omega))
        have hN4 := (HN3.out.snoc HU.out.1).mono hal (Nat.le_refl _)
        have HN5 := Lib.hid (hN4.grown HP3.out hgrow)
        have HP5 : Hid (NApart v'.ownBlock (us ++ [.slice adu x.length capu]) (L ++ [x])) := by
          rcases hblk with h | h
          · unfold Hid; rw [h]; exact HP3.out
          · unfold Hid; rw [h]; exact NApart.fresh hN4 (Nat.le_of_eq (Array.size_push _))
        have HO5 : Hid (w5.ownsRow w.heap.size 24 1 v' (L ++ [x]).length (us ++ [.slice adu x.length capu])) := by
          unfold Hid
          rw [List.length_append]
          exact hown'
        clear hown' hgrow hblk hN4 HP3 HN3 hal HLT HU HP
        go_wp2
        go_roundw
        case rel => exact ⟨n, L ++ [x], us ++ [.slice adu x.length capu], hn2.2, by simp; omega, rfl, HA2, HO5, HN5, HP5, hb1⟩
        case measure => simp [intOf]; omega
      · have hc1 : (c != 0) = true := by simpa using hc
        rw [if_neg hc] at hA
        have HE : Hid (∀ w', Below w.heap.size w w' → AGot w (allW l 0 []) (.returned (.tuple #[.slice none 0 0, .int .i64 c])) w') := by
          rw [← hA]; intro w' h1; exact ⟨_, rfl, h1, NRow.nil _⟩
        clear hA hnx hc
        go_wp2_with fail
        refine HG.out.mono ?_
        rintro e w3 ⟨u, rfl, hb3, -⟩
        simp only []
        have hbel3 := hbel.trans (hb3.mono hsz)
        clear hb3 hbel
        go_wp2
        go_ret2
        exact HE.out _ hbel3
    · have hA := HA.out
      rw [allW, if_neg hlt] at hA
      have HE : Hid (∀ u w', Below w.heap.size w w' → NRow w' u L → AGot w (allW l 0 []) (.returned (.tuple #[u, .int .i64 0])) w') := by
        rw [← hA]; intro u w' h1 h2; exact ⟨u, rfl, h1, h2⟩
      have HN2 := Lib.hid (nrow_of_owns HO.out rfl HN.out)
      clear hA HA
      go_wp2
      go_ret2
      exact HE.out _ _ hbel HN2.out

set_option maxRecDepth 100000 in
theorem sameN_any (v1 v2 : Value) (a b : List (List ByteArray)) (w : World) (h1 : NRow w v1 a) (h2 : NRow w v2 b) :
    Calls Try.prog 13 #[v1, v2] w fun e w' => e = .returned (.bool (decide (a = b))) ∧ ∃ m, w' = w.drewN m := by
  obtain ⟨ad, cap, U, rfl, q2, q3, q4, q5⟩ := h1
  obtain ⟨ad2, cap2, U2, rfl, p2, p3, p4, p5⟩ := h2
  have HC := Lib.hid q5
  have HC2 := Lib.hid p5
  have HS := Lib.hid q4
  have HS2 := Lib.hid p4
  clear q4 q5 p4 p5
  by_cases hl : a.length = b.length
  · have hl1 : ((a.length : Int) != (b.length : Int)) = false := by simp; omega
    have hlen : b.length = a.length := hl.symm
    rw [hlen]
    rw [hlen] at hl1 p2
    have HL := Lib.hid hl
    clear hl hlen
    go_enter Try.func13, Try.ntmps13
    go_wp2
    go_loopw [5] (fun i wr => ∃ k : Nat, k ≤ a.length ∧ i = .int .i64 k ∧ Hid (decide (a.drop k = b.drop k) = decide (a = b)) ∧ Hid (∃ m, wr = w.drewN m)) (fun i _ => a.length - (intOf i).toNat)
    case atStart => exact ⟨0, Nat.zero_le _, rfl, rfl, 0, rfl⟩
    case round =>
      obtain ⟨k, hk, rfl, HD, HW⟩ := hrel
      by_cases hlt : k < a.length
      · have hlt1 : (k : Int) < (a.length : Int) := by omega
        have hlb : k < b.length := by rw [← HL.out]; exact hlt
        have hbel := below_drawn (Below.refl w.heap.size w) HW.out
        obtain ⟨b1, off1, rfl, hb1, hc1⟩ := HC.out (by rintro rfl; simp at hlt)
        obtain ⟨b2, off2, rfl, hb2, hc2⟩ := HC2.out (by rintro rfl; simp at hlb)
        have hcell1 := (hbel.cell (p := ⟨b1, off1 + k, none⟩) hb1).trans (hc1 k hlt)
        have hcell2 := (hbel.cell (p := ⟨b2, off2 + k, none⟩) hb2).trans (hc2 k hlb)
        have hs1 := (HS.out k hlt).mono hbel (Nat.le_refl _)
        have hs2 := (HS2.out k hlb).mono hbel (Nat.le_refl _)
        have hS := fun n => sameL_any (U k) (U2 k) _ _ (wr.drewN n) (hs1.mono (below_drewN' (Below.refl _ _) n) (Nat.le_refl _)) (hs2.mono (below_drewN' (Below.refl _ _) n) (Nat.le_refl _))
        have hD := HD.out
        rw [dropN_get hlt, dropN_get hlb] at hD
        obtain ⟨x, hx⟩ : ∃ x, x = a.getD k [] := ⟨_, rfl⟩
        obtain ⟨y, hy⟩ : ∃ y, y = b.getD k [] := ⟨_, rfl⟩
        rw [← hx] at hS hD
        rw [← hy] at hS hD
        obtain ⟨V1, hV1⟩ : ∃ V1, V1 = U k := ⟨_, rfl⟩
        obtain ⟨V2, hV2⟩ : ∃ V2, V2 = U2 k := ⟨_, rfl⟩
        rw [← hV1] at hcell1 hS
        rw [← hV2] at hcell2 hS
        clear hc1 hc2 hx hy hbel HD hs1 hs2 hV1 hV2
        by_cases he : x = y
        · subst he
          have HD2 : Hid (decide (a.drop (k + 1) = b.drop (k + 1)) = decide (a = b)) := by simpa [Hid] using hD
          simp only [decide_true] at hS
          clear hD
          go_wp2_with fail
          go_quiet ((go_at_call 10; exact Calls.quiet_of (hS _)))
          go_wp2
          go_roundw
          case rel => exact ⟨k + 1, by omega, by go_num, HD2, drewN_more HW.out _⟩
          case measure => simp [intOf]; omega
        · have HD2 : Hid (decide (a = b) = false) := by rw [← hD]; simp [Hid, he]
          rw [decide_eq_false he] at hS
          clear hD he
          go_wp2_with fail
          go_quiet ((go_at_call 10; exact Calls.quiet_of (hS _)))
          go_wp2
          go_ret
          exact ⟨ret_bool HD2.out.symm, drewN_more HW.out _⟩
      · obtain rfl : k = a.length := by omega
        have HD2 : Hid (decide (a = b) = true) := by
          have := HD.out
          rw [List.drop_length, List.drop_eq_nil_of_le (by rw [← HL.out]; exact Nat.le_refl _)] at this
          rw [← this]
          rfl
        go_wp2
        go_ret
        exact ⟨ret_bool HD2.out.symm, HW.out⟩
  · have hl1 : ((a.length : Int) != (b.length : Int)) = true := by simp; omega
    have HD : Hid (decide (a = b) = false) := by unfold Hid; simp; rintro rfl; exact hl rfl
    clear hl
    go_enter Try.func13, Try.ntmps13
    go_wp2
    go_ret
    exact ⟨ret_bool HD.out.symm, 0, rfl⟩

/-- Are there few names, and short ones? -/
def tot (L : List (List ByteArray)) : Nat := (L.map fun l => wire l - 1).sum
def few5 (L : List (List ByteArray)) : Bool := decide (L.length ≤ 100) && (L.all few && decide (tot L ≤ 6000))
theorem tot_take_succ (L : List (List ByteArray)) (k : Nat) (h : k < L.length) : tot (L.take (k + 1)) = tot (L.take k) + (wire (L.getD k []) - 1) := by
  have e : L.getD k [] = L[k] := by simp [List.getD, h]
  unfold tot
  rw [e, List.take_succ_eq_append_getElem h, List.map_append, List.sum_append, List.map_cons, List.map_nil, List.sum_cons, List.sum_nil]
  omega
theorem tot_take_le (L : List (List ByteArray)) (k : Nat) : tot (L.take k) ≤ tot L := by
  unfold tot
  have h : (L.map fun l => wire l - 1).sum = ((L.take k).map fun l => wire l - 1).sum + ((L.drop k).map fun l => wire l - 1).sum := by rw [← List.sum_append, ← List.map_append, List.take_append_drop]
  omega
theorem all_take_succ (L : List (List ByteArray)) (k : Nat) (h : k < L.length) : (L.take (k + 1)).all few = ((L.take k).all few && few (L.getD k [])) := by
  have e : L.getD k [] = L[k] := by simp [List.getD, h]
  rw [e, List.take_succ_eq_append_getElem h, List.all_append]
  simp
theorem all_take_le (L : List (List ByteArray)) (k : Nat) (h : L.all few = true) : (L.take k).all few = true := by
  rw [List.all_eq_true] at h ⊢
  exact fun x hx => h x (List.mem_of_mem_take hx)

set_option maxRecDepth 100000 in
set_option maxHeartbeats 2000000 in
theorem fewN_any (v : Value) (L : List (List ByteArray)) (w : World) (hr : NRow w v L) :
    Calls Try.prog 14 #[v] w fun e w' => e = .returned (.bool (few5 L)) ∧ w = w' := by
  obtain ⟨ad, cap, U, rfl, q2, q3, q4, q5⟩ := hr
  have HC := Lib.hid q5
  have HS := Lib.hid q4
  clear q4 q5
  go_enter Try.func14, Try.ntmps14
  go_wp2
  go_loop [3, 4] (fun m i => ∃ (k : Nat) (x : Int), k ≤ L.length ∧ i = .int .i64 k ∧ m = .int .i64 x ∧ -4000 ≤ x ∧ x ≤ 6000 ∧ Hid (x = 6000 - tot (L.take k)) ∧ Hid ((L.take k).all few = true)) (fun _ i => L.length - (intOf i).toNat)
  case atStart => exact ⟨0, 6000, Nat.zero_le _, rfl, rfl, by omega, by omega, by simp [Hid, tot], rfl⟩
  case round =>
    obtain ⟨k, x, hk, rfl, rfl, hx1, hx2, HT, HA⟩ := hrel
    by_cases hlt : k < L.length
    · have hlt1 : (k : Int) < (L.length : Int) := by omega
      by_cases h100 : (k : Int) ≤ 100
      · by_cases hx0 : 0 ≤ x
        · obtain ⟨b, off, rfl, hlb, hc⟩ := HC.out (by rintro rfl; simp at hlt)
          have hcell := hc k hlt
          have hs := HS.out k hlt
          have ht := tot_take_succ L k hlt
          have ha := all_take_succ L k hlt
          have hall := Lib.hid (all_take_le L (k + 1))
          obtain ⟨l, hl⟩ : ∃ l, l = L.getD k [] := ⟨_, rfl⟩
          rw [← hl] at hs ht ha
          have hF := few_any (U k) l w hs
          obtain ⟨V, hV⟩ : ∃ V, V = U k := ⟨_, rfl⟩
          rw [← hV] at hcell hs hF
          clear hc hl hV
          have HF := Lib.hid hF
          clear hF
          by_cases hf : few l = true
          · rw [hf] at HF
            have hw := few_out hf
            have hpos := wire_pos l
            rw [hf, HA.out] at ha
            obtain ⟨ad2, cap2, rfl, s2, s3, s4, s5⟩ := hs
            have HC2 := Lib.hid s5
            have HT2 : Hid (x - (wire l - 1) = 6000 - tot (L.take (k + 1))) := by have := HT.out; unfold Hid; omega
            have HA2 := Lib.hid ha
            have hlo : -4000 ≤ x - (wire l - 1) := by omega
            clear ht ha hf s4 s5 hall
            go_wp2_with fail
            refine HF.out.mono ?_
            rintro e w1 ⟨rfl, rfl⟩
            go_wp2
            go_loop [3, 5] (fun m j => ∃ (n : Nat), n ≤ l.length ∧ j = .int .i64 n ∧ m = .int .i64 (x - (wire (l.take n) - 1 : Nat)) ∧ True) (fun _ j => l.length - (intOf j).toNat)
            case atStart => exact ⟨0, Nat.zero_le _, rfl, by simp [wire], trivial⟩
            case round =>
              obtain ⟨n, hn, rfl, rfl, -⟩ := hrel
              by_cases hlt2 : n < l.length
              · have hlt3 : (n : Int) < (l.length : Int) := by omega
                obtain ⟨b2, off2, rfl, hlb2, hc2⟩ := HC2.out (by rintro rfl; simp at hlt2)
                have hcell2 := hc2 n hlt2
                have h1 := wire_take_succ l n hlt2
                have h2 := wire_take_le l (n + 1)
                have h3 := wire_pos (l.take n)
                obtain ⟨s, hs⟩ : ∃ s, s = l.getD n ByteArray.empty := ⟨_, rfl⟩
                rw [← hs] at hcell2 h1
                obtain ⟨N, hN⟩ : ∃ N, N = wire (l.take n) - 1 := ⟨_, rfl⟩
                rw [← hN]
                have hN2 : wire (l.take (n + 1)) - 1 = N + s.size + 1 := by omega
                have hN3 : N + s.size + 1 ≤ 3400 := by omega
                have HN2 := Lib.hid hN2
                clear hc2 hs h1 h2 h3 hN hN2
                go_wp2
                go_round
                case rel => exact ⟨n + 1, by omega, by go_num, by rw [HN2.out]; go_num, trivial⟩
                case measure => simp [intOf]; omega
              · obtain rfl : n = l.length := by omega
                rw [List.take_length]
                obtain ⟨y, hy⟩ : ∃ y, y = x - (wire l - 1 : Nat) := ⟨_, rfl⟩
                have hy2 : y = x - (wire l - 1) := by omega
                rw [← hy]
                have HT3 : Hid (y = 6000 - tot (L.take (k + 1))) := by rw [hy2]; exact HT2
                have hlo2 : -4000 ≤ y := by omega
                have hhi2 : y ≤ 6000 := by omega
                clear hy hy2 HT2 hlo
                go_wp2
                go_round
                case rel => exact ⟨k + 1, y, by omega, by go_num, rfl, hlo2, hhi2, HT3, HA2⟩
                case measure => simp [intOf]; omega
          · have hf2 : few l = false := by simpa using hf
            rw [hf2] at HF
            rw [hf2, Bool.and_false] at ha
            have HE : Hid (few5 L = false) := by
              unfold Hid few5
              cases hL : L.all few with
              | false => simp
              | true => have := hall.out hL; rw [ha] at this; simp at this
            clear ha ht hf hf2 hall
            go_wp2_with fail
            refine HF.out.mono ?_
            rintro e w1 ⟨rfl, rfl⟩
            go_wp2
            go_ret
            exact ⟨ret_bool HE.out.symm, rfl⟩
        · have HE : Hid (few5 L = false) := by
            have := tot_take_le L k
            have := HT.out
            unfold Hid few5
            have : decide (tot L ≤ 6000) = false := by simp; omega
            rw [this]; simp
          by_cases hl : (L.length : Int) ≤ 100
          · go_wp2
            go_ret
            exact ⟨ret_bool HE.out.symm, rfl⟩
          · go_wp2
            go_ret
            exact ⟨ret_bool HE.out.symm, rfl⟩
      · have HE : Hid (few5 L = false) := by
          unfold Hid few5
          have : decide (L.length ≤ 100) = false := by simp; omega
          rw [this]; simp
        have hl : ¬ (L.length : Int) ≤ 100 := by omega
        go_wp2
        go_ret
        exact ⟨ret_bool HE.out.symm, rfl⟩
    · obtain rfl : k = L.length := by omega
      have hT := HT.out
      have hA := HA.out
      rw [List.take_length] at hT hA
      by_cases hl : (L.length : Int) ≤ 100
      · by_cases hx0 : 0 ≤ x
        · have HE : Hid (few5 L = true) := by unfold Hid few5; rw [hA]; simp; omega
          clear hT hA
          go_wp2
          go_ret
          exact ⟨ret_bool HE.out.symm, rfl⟩
        · have HE : Hid (few5 L = false) := by
            unfold Hid few5
            have : decide (tot L ≤ 6000) = false := by simp; omega
            rw [this]; simp
          clear hT hA
          go_wp2
          go_ret
          exact ⟨ret_bool HE.out.symm, rfl⟩
      · have HE : Hid (few5 L = false) := by
          unfold Hid few5
          have : decide (L.length ≤ 100) = false := by simp; omega
          rw [this]; simp
        clear hT hA
        go_wp2
        go_ret
        exact ⟨ret_bool HE.out.symm, rfl⟩
end Go.Proofs.Ytjhmjimfehanbaa.Wire
