/- The contract of the document's Parse. -/
import Derived.Test.YthnlcfnfbilbdaaDoorNameC
namespace Go.Proofs.YthnlcfnfbilbdaaDoor.Name
open Go.RowKit Fold
set_option linter.unusedVariables false

theorem bs_cut (s : ByteArray) (a b : Nat) : bs (s.extract a b) = ((bs s).drop a).take (b - a) := by
  unfold bs
  rw [Lib.extract_data, List.map_take, List.map_drop]
theorem snoc_cons {α : Type} (l : List α) (x : α) (r : List α) : (l ++ [x]) ++ r = l ++ x :: r := by simp
/-- What is still to come of a text T, at place k, if a part began at f. -/
def restP (T : ByteArray) (k f : Nat) : List ByteArray := if k ≤ T.size then (cutA (bs (T.extract f k)) ((bs T).drop k)).map (fun p => strOfNums (low p)) else []
theorem restP_start (T : ByteArray) : restP T 0 0 = (cutA [] (bs T)).map (fun p => strOfNums (low p)) := by
  unfold restP
  rw [if_pos (Nat.zero_le _), bs_cut]
  simp
theorem restP_over (T : ByteArray) (f : Nat) : restP T (T.size + 1) f = [] := by unfold restP; rw [if_neg (by omega)]
theorem restP_end {T : ByteArray} {f : Nat} : restP T T.size f = lowS (T.extract f T.size) :: restP T (T.size + 1) (T.size + 1) := by
  rw [restP_over]
  unfold restP
  rw [if_pos (Nat.le_refl _), List.drop_eq_nil_of_le (by rw [bs_length]; omega)]
  rfl
theorem bs_elem {T : ByteArray} {k : Nat} (h : k < T.size) : (bs T).drop k = ((T[k]'h).toNat : Int) :: (bs T).drop (k + 1) := by
  rw [List.drop_eq_getElem_cons (by rw [bs_length]; exact h)]
  have := bs_getD T k h
  rw [List.getD, List.getElem?_eq_getElem (by rw [bs_length]; exact h), Option.getD_some] at this
  rw [this]
theorem restP_dot {T : ByteArray} {k f : Nat} (h : k < T.size) (hd : (T[k]'h).toNat = 46) : restP T k f = lowS (T.extract f k) :: restP T (k + 1) (k + 1) := by
  unfold restP
  rw [if_pos (by omega), if_pos (by omega), bs_elem h, cutA, if_pos (by omega), List.map_cons, bs_cut T (k + 1), Nat.sub_self, List.take_zero]
  rfl
theorem restP_go {T : ByteArray} {k f : Nat} (h : k < T.size) (hd : ¬ (T[k]'h).toNat = 46) (hf : f ≤ k) : restP T k f = restP T (k + 1) f := by
  unfold restP
  rw [if_pos (by omega), if_pos (by omega), bs_elem h, cutA, if_neg (by omega)]
  have e : bs (T.extract f k) ++ [((T[k]'h).toNat : Int)] = bs (T.extract f (k + 1)) := by
    rw [bs_cut, bs_cut, show k + 1 - f = (k - f) + 1 by omega, List.take_add_one, List.getElem?_drop, show f + (k - f) = k by omega]
    congr 1
    have := bs_getD T k h
    rw [List.getD, List.getElem?_eq_getElem (by rw [bs_length]; exact h), Option.getD_some] at this
    rw [List.getElem?_eq_getElem (by rw [bs_length]; exact h), this]
    rfl
  rw [e]

theorem infoStr : (Tryd.prog.info? 9).map (fun i => (i.zero, i.size, i.bytes)) = some (some (.string ByteArray.empty), 1, 16) := by kernel_rfl
theorem trim_none {s : ByteArray} (h : s.size = 0) : trim (bs s) = bs s := by
  have : bs s = [] := List.eq_nil_of_length_eq_zero (by rw [bs_length]; exact h)
  rw [this]
  rfl
theorem bs_last {s : ByteArray} {n : Nat} (h : s.size = n + 1) : bs s = bs (s.extract 0 n) ++ [((s[n]'(by omega)).toNat : Int)] := by
  have h1 := bs_elem (T := s) (k := n) (by omega)
  rw [bs_cut, List.drop_zero, Nat.sub_zero]
  conv => lhs; rw [← List.take_append_drop n (bs s)]
  rw [h1, List.drop_eq_nil_of_le (by rw [bs_length]; omega)]
theorem trim_stay {s : ByteArray} (h : s.size - 1 < s.size) (hd : ¬ (s[s.size - 1]'h).toNat = 46) : trim (bs s) = bs s := by
  have e := bs_last (s := s) (n := s.size - 1) (by omega)
  unfold trim
  rw [if_neg]
  rw [e]
  simp
  omega
theorem trim_goes {s : ByteArray} (h : s.size - 1 < s.size) (hd : (s[s.size - 1]'h).toNat = 46) : trim (bs s) = bs (s.extract 0 (s.size - 1)) := by
  have e := bs_last (s := s) (n := s.size - 1) (by omega)
  rw [hd] at e
  unfold trim
  conv => lhs; rw [e]
  simp

set_option maxRecDepth 100000 in
theorem refParse_any (s : ByteArray) (w : World) (hs : s.size ≤ 3000) :
    Calls Tryd.prog 9 #[.string s] w (Parsed w s) := by
  obtain ⟨i0, hi, hz0, hz1, hz2⟩ := info_parts infoStr
  by_cases hd : s = dotB
  · have h1 : (s.toList == [46]) = true := by rw [str_dot]; simpa using hd
    have HP : Hid (pch s = 0 ∧ plb s = []) := ⟨by rw [pch, if_pos hd], by rw [plb, if_pos hd]⟩
    clear hd
    go_enter Tryd.func9, Tryd.ntmps9
    go_wp2
    go_ret2
    exact ⟨_, ret_pair rfl (by rw [HP.out.1]; rfl), Below.refl _ _, by rw [HP.out.2]; exact SRow.nil _⟩
  · have h1 : (s.toList == [46]) = false := by rw [str_dot]; simpa using hd
    have hp1 : pch s = chk (prs s) := by rw [pch, if_neg hd]
    have hp2 : plb s = if chk (prs s) = 0 then prs s else [] := by rw [plb, if_neg hd]
    have hr := prs_ref s
    clear hd
    by_cases hn : s.size = 0
    · rw [trim_none hn, ← restP_start] at hr
      have HR : Hid ([] ++ restP s 0 0 = prs s) := hr
      have hx0 : ¬ (0 : Int) < s.size := by omega
      have HN := Lib.hid hn
      clear hn hr
      go_enter Tryd.func9, Tryd.ntmps9
      go_wp2
      go_loopw [4, 5, 6] (fun L f i wr => ∃ (k f' : Nat) (done : List ByteArray), k ≤ s.size + 1 ∧ f' ≤ k ∧ done.length ≤ k ∧ i = .int .i64 k ∧ f = .int .i64 f' ∧ Hid (done ++ restP s k f' = prs s) ∧ Hid (wr.ownsRow w.heap.size 9 1 L done.length (valsS done)) ∧ Below w.heap.size w wr) (fun _ _ i _ => s.size + 1 - (intOf i).toNat)
      case atStart => exact ⟨0, 0, [], by omega, by omega, by simp, rfl, rfl, HR, by simpa [valsS, Hid] using World.ownsRow_nil _ _ _ _, Below.refl _ _⟩
      case round =>
        obtain ⟨k, f', done, hk, hf, hdl, rfl, rfl, HD, HO, hbel⟩ := hrel
        clear HR
        have hsz := hbel.size
        by_cases hlt : k < s.size
        · exact absurd HN.out (by omega)
        · by_cases hend : k = s.size
          · subst hend
            have hx2 : (((s.size : Nat) : Int) == (s.size : Int)) = true := by rw [beq_iff_eq]
            have HD2 := Lib.hid (HD.out)
            rw [restP_end, ← snoc_cons] at HD2
            clear hlt
            have hxs : (s.extract f' s.size).size ≤ 3000 := by rw [ByteArray.size_extract]; omega
            have HL := Lib.hid (fun u => refLower_any (s.extract f' s.size) u hxs)
            have hf2 : (f' : Int) ≤ ((s.size : Nat) : Int) := by omega
            obtain ⟨y, hy⟩ : ∃ y, y = s.extract f' s.size := ⟨_, rfl⟩
            rw [← hy] at HL HD2
            obtain ⟨x, hx⟩ : ∃ x, x = lowS y := ⟨_, rfl⟩
            rw [← hx] at HL HD2
            have hE := Lib.hid (valsS_snoc done x)
            have hb63 : done.length + 1 ≤ maxLen := maxLen_of (by omega)
            have hbby : (done.length + 1) * 16 ≤ 140737488355328 := by omega
            clear HD hx 
            go_wp2_with fail
            rw [← hy]
            refine (HL.out _).mono ?_
            rintro e w3 ⟨rfl, hb3⟩
            have HO3 := Lib.hid (ownsRow_stays HO.out hb3)
            have hbel3 := hbel.trans (hb3.mono hsz)
            have hsz3 := hbel3.size
            clear hb3 hbel HO
            go_wp2_with (at_builtin; refine wpList_append_own _ rfl (.tmp 42) (.tmp 48) 23 rfl w.heap.size 9 i0 (.string ByteArray.empty) 1 16 Tryd.underlying23 hi hz0 hz1 hz2 rfl (by decide) _ _ _ rfl (HO3.out.alloc _) ⟨w3.heap.size, 0, none⟩ 1 1 [.string x] rfl rfl (news_oneS _ _ _) (oneCell_oneS _) hb63 hbby (le_alloc _ hsz3) ?_)
            intro v' w5 hown' hgrow _
            have hb1 : Below w.heap.size w w5 := (hbel3.alloc hsz3 _).grown hgrow (by simp; omega) (fun r hr => (HO3.out.lt r hr).1)
            have hown2 : Hid (w5.ownsRow w.heap.size 9 1 v' (done ++ [x]).length (valsS (done ++ [x]))) := by
              unfold Hid
              rw [hE.out, List.length_append]
              exact hown'
            clear hown' hgrow
            go_wp2
            go_roundw
            case rel => exact ⟨s.size + 1, s.size + 1, done ++ [x], by omega, by omega, by simp; omega, by go_num, by go_num, HD2, hown2, hb1⟩
            case measure => simp [intOf]
          · obtain rfl : k = s.size + 1 := by omega
            have hx1 : ¬ ((s.size + 1 : Nat) : Int) ≤ (s.size : Int) := by omega
            have hdone : done = prs s := by have := HD.out; rw [restP_over _ _, List.append_nil] at this; exact this
            have HRow := Lib.hid (srow_of_owns HO.out rfl (fun i hi => by rw [hdone] at hi ⊢; have := prs_get_size s i hi; omega))
            have HC := Lib.hid (refCheck_any _ _ _ HRow.out (by rw [hdone]; have := wire_prs s; omega))
            clear HD HO hlt hend hk hf hdl
            by_cases hc : chk done = 0
            · have HP : Hid (∀ u, SRow wr u done → Parsed w s (.returned (.tuple #[u, .int .i64 0])) wr) := fun u hu => ⟨u, by rw [hp1, ← hdone, hc], hbel, by rw [hp2, ← hdone, if_pos hc]; exact hu⟩
              rw [hc] at HC
              clear hc hdone hp1 hp2 hbel
              go_wp2_with fail
              refine HC.out.mono ?_
              rintro e w4 ⟨rfl, rfl⟩
              go_wp2
              go_ret2
              exact HP.out _ HRow.out
            · have hn2 : (chk done != 0) = true := by simpa using hc
              have HP : Hid (Parsed w s (.returned (.tuple #[.slice none 0 0, .int .i64 (chk done)])) wr) := ⟨_, by rw [hp1, ← hdone], hbel, by rw [hp2, ← hdone, if_neg hc]; exact SRow.nil _⟩
              obtain ⟨c, hm⟩ : ∃ c, c = chk done := ⟨_, rfl⟩
              rw [← hm] at HC hn2 HP
              clear hc hm hdone hp1 hp2 hbel
              go_wp2_with fail
              refine HC.out.mono ?_
              rintro e w4 ⟨rfl, rfl⟩
              go_wp2
              go_ret2
              exact HP.out
    · have hx0 : (0 : Int) < s.size := by omega
      have hx1 : s.size - 1 < s.size := by omega
      have hx2 : (1 : Int) ≤ s.size := by omega
      have hx3 : (s.size : Int) - 1 < s.size := by omega
      have hx4 : 0 ≤ (s.size : Int) - 1 := by omega
      by_cases hdot : (s[s.size - 1]'hx1).toNat = 46
      · rw [trim_goes hx1 hdot, ← restP_start] at hr
        have hx5 : (((s[s.size - 1]'hx1).toNat : Int) == 46) = true := by rw [beq_iff_eq]; omega
        have hTs : (s.extract 0 (s.size - 1)).size ≤ 3000 := by rw [ByteArray.size_extract]; omega
        obtain ⟨T, hT⟩ : ∃ T, T = s.extract 0 (s.size - 1) := ⟨_, rfl⟩
        rw [← hT] at hr hTs
        have HR : Hid ([] ++ restP T 0 0 = prs s) := hr
        clear hn hr hdot
        go_enter Tryd.func9, Tryd.ntmps9
        go_wp2
        rw [← hT]
        clear hT
        go_loopw [4, 5, 6] (fun L f i wr => ∃ (k f' : Nat) (done : List ByteArray), k ≤ T.size + 1 ∧ f' ≤ k ∧ done.length ≤ k ∧ i = .int .i64 k ∧ f = .int .i64 f' ∧ Hid (done ++ restP T k f' = prs s) ∧ Hid (wr.ownsRow w.heap.size 9 1 L done.length (valsS done)) ∧ Below w.heap.size w wr) (fun _ _ i _ => T.size + 1 - (intOf i).toNat)
        case atStart => exact ⟨0, 0, [], by omega, by omega, by simp, rfl, rfl, HR, by simpa [valsS, Hid] using World.ownsRow_nil _ _ _ _, Below.refl _ _⟩
        case round =>
          obtain ⟨k, f', done, hk, hf, hdl, rfl, rfl, HD, HO, hbel⟩ := hrel
          clear HR
          have hsz := hbel.size
          by_cases hlt : k < T.size
          · have hx1 : (k : Int) ≤ (T.size : Int) := by omega
            have hx2 : ((k : Int) == (T.size : Int)) = false := by rw [beq_eq_false_iff_ne]; omega
            have hx3 : (k : Int) < (T.size : Int) := by omega
            by_cases hdot : (T[k]'hlt).toNat = 46
            · have hb8 : (((T[k]'hlt).toNat : Int) == 46) = true := by rw [beq_iff_eq]; omega
              have HD2 := Lib.hid (HD.out)
              rw [restP_dot hlt hdot, ← snoc_cons] at HD2
              have hxs : (T.extract f' k).size ≤ 3000 := by rw [ByteArray.size_extract]; omega
              have HL := Lib.hid (fun u => refLower_any (T.extract f' k) u hxs)
              have hf2 : (f' : Int) ≤ ((k : Nat) : Int) := by omega
              obtain ⟨y, hy⟩ : ∃ y, y = T.extract f' k := ⟨_, rfl⟩
              rw [← hy] at HL HD2
              obtain ⟨x, hx⟩ : ∃ x, x = lowS y := ⟨_, rfl⟩
              rw [← hx] at HL HD2
              have hE := Lib.hid (valsS_snoc done x)
              have hb63 : done.length + 1 ≤ maxLen := maxLen_of (by omega)
              have hbby : (done.length + 1) * 16 ≤ 140737488355328 := by omega
              clear HD hx hdot
              go_wp2_with fail
              rw [← hy]
              refine (HL.out _).mono ?_
              rintro e w3 ⟨rfl, hb3⟩
              have HO3 := Lib.hid (ownsRow_stays HO.out hb3)
              have hbel3 := hbel.trans (hb3.mono hsz)
              have hsz3 := hbel3.size
              clear hb3 hbel HO
              go_wp2_with (at_builtin; refine wpList_append_own _ rfl (.tmp 42) (.tmp 48) 23 rfl w.heap.size 9 i0 (.string ByteArray.empty) 1 16 Tryd.underlying23 hi hz0 hz1 hz2 rfl (by decide) _ _ _ rfl (HO3.out.alloc _) ⟨w3.heap.size, 0, none⟩ 1 1 [.string x] rfl rfl (news_oneS _ _ _) (oneCell_oneS _) hb63 hbby (le_alloc _ hsz3) ?_)
              intro v' w5 hown' hgrow _
              have hb1 : Below w.heap.size w w5 := (hbel3.alloc hsz3 _).grown hgrow (by simp; omega) (fun r hr => (HO3.out.lt r hr).1)
              have hown2 : Hid (w5.ownsRow w.heap.size 9 1 v' (done ++ [x]).length (valsS (done ++ [x]))) := by
                unfold Hid
                rw [hE.out, List.length_append]
                exact hown'
              clear hown' hgrow
              go_wp2
              go_roundw
              case rel => exact ⟨k + 1, k + 1, done ++ [x], by omega, by omega, by simp; omega, by go_num, by go_num, HD2, hown2, hb1⟩
              case measure => simp [intOf]; omega
            · have hb8 : (((T[k]'hlt).toNat : Int) == 46) = false := by rw [beq_eq_false_iff_ne]; omega
              have HD2 := Lib.hid (HD.out)
              rw [restP_go hlt hdot hf] at HD2
              clear HD hdot
              go_wp2
              go_roundw
              case rel => exact ⟨k + 1, f', done, by omega, by omega, by omega, by go_num, rfl, HD2, HO, hbel⟩
              case measure => simp [intOf]; omega
          · by_cases hend : k = T.size
            · subst hend
              have hx2 : (((T.size : Nat) : Int) == (T.size : Int)) = true := by rw [beq_iff_eq]
              have HD2 := Lib.hid (HD.out)
              rw [restP_end, ← snoc_cons] at HD2
              clear hlt
              have hxs : (T.extract f' T.size).size ≤ 3000 := by rw [ByteArray.size_extract]; omega
              have HL := Lib.hid (fun u => refLower_any (T.extract f' T.size) u hxs)
              have hf2 : (f' : Int) ≤ ((T.size : Nat) : Int) := by omega
              obtain ⟨y, hy⟩ : ∃ y, y = T.extract f' T.size := ⟨_, rfl⟩
              rw [← hy] at HL HD2
              obtain ⟨x, hx⟩ : ∃ x, x = lowS y := ⟨_, rfl⟩
              rw [← hx] at HL HD2
              have hE := Lib.hid (valsS_snoc done x)
              have hb63 : done.length + 1 ≤ maxLen := maxLen_of (by omega)
              have hbby : (done.length + 1) * 16 ≤ 140737488355328 := by omega
              clear HD hx 
              go_wp2_with fail
              rw [← hy]
              refine (HL.out _).mono ?_
              rintro e w3 ⟨rfl, hb3⟩
              have HO3 := Lib.hid (ownsRow_stays HO.out hb3)
              have hbel3 := hbel.trans (hb3.mono hsz)
              have hsz3 := hbel3.size
              clear hb3 hbel HO
              go_wp2_with (at_builtin; refine wpList_append_own _ rfl (.tmp 42) (.tmp 48) 23 rfl w.heap.size 9 i0 (.string ByteArray.empty) 1 16 Tryd.underlying23 hi hz0 hz1 hz2 rfl (by decide) _ _ _ rfl (HO3.out.alloc _) ⟨w3.heap.size, 0, none⟩ 1 1 [.string x] rfl rfl (news_oneS _ _ _) (oneCell_oneS _) hb63 hbby (le_alloc _ hsz3) ?_)
              intro v' w5 hown' hgrow _
              have hb1 : Below w.heap.size w w5 := (hbel3.alloc hsz3 _).grown hgrow (by simp; omega) (fun r hr => (HO3.out.lt r hr).1)
              have hown2 : Hid (w5.ownsRow w.heap.size 9 1 v' (done ++ [x]).length (valsS (done ++ [x]))) := by
                unfold Hid
                rw [hE.out, List.length_append]
                exact hown'
              clear hown' hgrow
              go_wp2
              go_roundw
              case rel => exact ⟨T.size + 1, T.size + 1, done ++ [x], by omega, by omega, by simp; omega, by go_num, by go_num, HD2, hown2, hb1⟩
              case measure => simp [intOf]
            · obtain rfl : k = T.size + 1 := by omega
              have hx1 : ¬ ((T.size + 1 : Nat) : Int) ≤ (T.size : Int) := by omega
              have hdone : done = prs s := by have := HD.out; rw [restP_over _ _, List.append_nil] at this; exact this
              have HRow := Lib.hid (srow_of_owns HO.out rfl (fun i hi => by rw [hdone] at hi ⊢; have := prs_get_size s i hi; omega))
              have HC := Lib.hid (refCheck_any _ _ _ HRow.out (by rw [hdone]; have := wire_prs s; omega))
              clear HD HO hlt hend hk hf hdl
              by_cases hc : chk done = 0
              · have HP : Hid (∀ u, SRow wr u done → Parsed w s (.returned (.tuple #[u, .int .i64 0])) wr) := fun u hu => ⟨u, by rw [hp1, ← hdone, hc], hbel, by rw [hp2, ← hdone, if_pos hc]; exact hu⟩
                rw [hc] at HC
                clear hc hdone hp1 hp2 hbel
                go_wp2_with fail
                refine HC.out.mono ?_
                rintro e w4 ⟨rfl, rfl⟩
                go_wp2
                go_ret2
                exact HP.out _ HRow.out
              · have hn2 : (chk done != 0) = true := by simpa using hc
                have HP : Hid (Parsed w s (.returned (.tuple #[.slice none 0 0, .int .i64 (chk done)])) wr) := ⟨_, by rw [hp1, ← hdone], hbel, by rw [hp2, ← hdone, if_neg hc]; exact SRow.nil _⟩
                obtain ⟨c, hm⟩ : ∃ c, c = chk done := ⟨_, rfl⟩
                rw [← hm] at HC hn2 HP
                clear hc hm hdone hp1 hp2 hbel
                go_wp2_with fail
                refine HC.out.mono ?_
                rintro e w4 ⟨rfl, rfl⟩
                go_wp2
                go_ret2
                exact HP.out
      · rw [trim_stay hx1 hdot, ← restP_start] at hr
        have hx5 : (((s[s.size - 1]'hx1).toNat : Int) == 46) = false := by rw [beq_eq_false_iff_ne]; omega
        have HR : Hid ([] ++ restP s 0 0 = prs s) := hr
        clear hn hr hdot
        go_enter Tryd.func9, Tryd.ntmps9
        go_wp2
        go_loopw [4, 5, 6] (fun L f i wr => ∃ (k f' : Nat) (done : List ByteArray), k ≤ s.size + 1 ∧ f' ≤ k ∧ done.length ≤ k ∧ i = .int .i64 k ∧ f = .int .i64 f' ∧ Hid (done ++ restP s k f' = prs s) ∧ Hid (wr.ownsRow w.heap.size 9 1 L done.length (valsS done)) ∧ Below w.heap.size w wr) (fun _ _ i _ => s.size + 1 - (intOf i).toNat)
        case atStart => exact ⟨0, 0, [], by omega, by omega, by simp, rfl, rfl, HR, by simpa [valsS, Hid] using World.ownsRow_nil _ _ _ _, Below.refl _ _⟩
        case round =>
          obtain ⟨k, f', done, hk, hf, hdl, rfl, rfl, HD, HO, hbel⟩ := hrel
          clear HR
          have hsz := hbel.size
          by_cases hlt : k < s.size
          · have hx1 : (k : Int) ≤ (s.size : Int) := by omega
            have hx2 : ((k : Int) == (s.size : Int)) = false := by rw [beq_eq_false_iff_ne]; omega
            have hx3 : (k : Int) < (s.size : Int) := by omega
            by_cases hdot : (s[k]'hlt).toNat = 46
            · have hb8 : (((s[k]'hlt).toNat : Int) == 46) = true := by rw [beq_iff_eq]; omega
              have HD2 := Lib.hid (HD.out)
              rw [restP_dot hlt hdot, ← snoc_cons] at HD2
              have hxs : (s.extract f' k).size ≤ 3000 := by rw [ByteArray.size_extract]; omega
              have HL := Lib.hid (fun u => refLower_any (s.extract f' k) u hxs)
              have hf2 : (f' : Int) ≤ ((k : Nat) : Int) := by omega
              obtain ⟨y, hy⟩ : ∃ y, y = s.extract f' k := ⟨_, rfl⟩
              rw [← hy] at HL HD2
              obtain ⟨x, hx⟩ : ∃ x, x = lowS y := ⟨_, rfl⟩
              rw [← hx] at HL HD2
              have hE := Lib.hid (valsS_snoc done x)
              have hb63 : done.length + 1 ≤ maxLen := maxLen_of (by omega)
              have hbby : (done.length + 1) * 16 ≤ 140737488355328 := by omega
              clear HD hx hdot
              go_wp2_with fail
              rw [← hy]
              refine (HL.out _).mono ?_
              rintro e w3 ⟨rfl, hb3⟩
              have HO3 := Lib.hid (ownsRow_stays HO.out hb3)
              have hbel3 := hbel.trans (hb3.mono hsz)
              have hsz3 := hbel3.size
              clear hb3 hbel HO
              go_wp2_with (at_builtin; refine wpList_append_own _ rfl (.tmp 42) (.tmp 48) 23 rfl w.heap.size 9 i0 (.string ByteArray.empty) 1 16 Tryd.underlying23 hi hz0 hz1 hz2 rfl (by decide) _ _ _ rfl (HO3.out.alloc _) ⟨w3.heap.size, 0, none⟩ 1 1 [.string x] rfl rfl (news_oneS _ _ _) (oneCell_oneS _) hb63 hbby (le_alloc _ hsz3) ?_)
              intro v' w5 hown' hgrow _
              have hb1 : Below w.heap.size w w5 := (hbel3.alloc hsz3 _).grown hgrow (by simp; omega) (fun r hr => (HO3.out.lt r hr).1)
              have hown2 : Hid (w5.ownsRow w.heap.size 9 1 v' (done ++ [x]).length (valsS (done ++ [x]))) := by
                unfold Hid
                rw [hE.out, List.length_append]
                exact hown'
              clear hown' hgrow
              go_wp2
              go_roundw
              case rel => exact ⟨k + 1, k + 1, done ++ [x], by omega, by omega, by simp; omega, by go_num, by go_num, HD2, hown2, hb1⟩
              case measure => simp [intOf]; omega
            · have hb8 : (((s[k]'hlt).toNat : Int) == 46) = false := by rw [beq_eq_false_iff_ne]; omega
              have HD2 := Lib.hid (HD.out)
              rw [restP_go hlt hdot hf] at HD2
              clear HD hdot
              go_wp2
              go_roundw
              case rel => exact ⟨k + 1, f', done, by omega, by omega, by omega, by go_num, rfl, HD2, HO, hbel⟩
              case measure => simp [intOf]; omega
          · by_cases hend : k = s.size
            · subst hend
              have hx2 : (((s.size : Nat) : Int) == (s.size : Int)) = true := by rw [beq_iff_eq]
              have HD2 := Lib.hid (HD.out)
              rw [restP_end, ← snoc_cons] at HD2
              clear hlt
              have hxs : (s.extract f' s.size).size ≤ 3000 := by rw [ByteArray.size_extract]; omega
              have HL := Lib.hid (fun u => refLower_any (s.extract f' s.size) u hxs)
              have hf2 : (f' : Int) ≤ ((s.size : Nat) : Int) := by omega
              obtain ⟨y, hy⟩ : ∃ y, y = s.extract f' s.size := ⟨_, rfl⟩
              rw [← hy] at HL HD2
              obtain ⟨x, hx⟩ : ∃ x, x = lowS y := ⟨_, rfl⟩
              rw [← hx] at HL HD2
              have hE := Lib.hid (valsS_snoc done x)
              have hb63 : done.length + 1 ≤ maxLen := maxLen_of (by omega)
              have hbby : (done.length + 1) * 16 ≤ 140737488355328 := by omega
              clear HD hx 
              go_wp2_with fail
              rw [← hy]
              refine (HL.out _).mono ?_
              rintro e w3 ⟨rfl, hb3⟩
              have HO3 := Lib.hid (ownsRow_stays HO.out hb3)
              have hbel3 := hbel.trans (hb3.mono hsz)
              have hsz3 := hbel3.size
              clear hb3 hbel HO
              go_wp2_with (at_builtin; refine wpList_append_own _ rfl (.tmp 42) (.tmp 48) 23 rfl w.heap.size 9 i0 (.string ByteArray.empty) 1 16 Tryd.underlying23 hi hz0 hz1 hz2 rfl (by decide) _ _ _ rfl (HO3.out.alloc _) ⟨w3.heap.size, 0, none⟩ 1 1 [.string x] rfl rfl (news_oneS _ _ _) (oneCell_oneS _) hb63 hbby (le_alloc _ hsz3) ?_)
              intro v' w5 hown' hgrow _
              have hb1 : Below w.heap.size w w5 := (hbel3.alloc hsz3 _).grown hgrow (by simp; omega) (fun r hr => (HO3.out.lt r hr).1)
              have hown2 : Hid (w5.ownsRow w.heap.size 9 1 v' (done ++ [x]).length (valsS (done ++ [x]))) := by
                unfold Hid
                rw [hE.out, List.length_append]
                exact hown'
              clear hown' hgrow
              go_wp2
              go_roundw
              case rel => exact ⟨s.size + 1, s.size + 1, done ++ [x], by omega, by omega, by simp; omega, by go_num, by go_num, HD2, hown2, hb1⟩
              case measure => simp [intOf]
            · obtain rfl : k = s.size + 1 := by omega
              have hx1 : ¬ ((s.size + 1 : Nat) : Int) ≤ (s.size : Int) := by omega
              have hdone : done = prs s := by have := HD.out; rw [restP_over _ _, List.append_nil] at this; exact this
              have HRow := Lib.hid (srow_of_owns HO.out rfl (fun i hi => by rw [hdone] at hi ⊢; have := prs_get_size s i hi; omega))
              have HC := Lib.hid (refCheck_any _ _ _ HRow.out (by rw [hdone]; have := wire_prs s; omega))
              clear HD HO hlt hend hk hf hdl
              by_cases hc : chk done = 0
              · have HP : Hid (∀ u, SRow wr u done → Parsed w s (.returned (.tuple #[u, .int .i64 0])) wr) := fun u hu => ⟨u, by rw [hp1, ← hdone, hc], hbel, by rw [hp2, ← hdone, if_pos hc]; exact hu⟩
                rw [hc] at HC
                clear hc hdone hp1 hp2 hbel
                go_wp2_with fail
                refine HC.out.mono ?_
                rintro e w4 ⟨rfl, rfl⟩
                go_wp2
                go_ret2
                exact HP.out _ HRow.out
              · have hn2 : (chk done != 0) = true := by simpa using hc
                have HP : Hid (Parsed w s (.returned (.tuple #[.slice none 0 0, .int .i64 (chk done)])) wr) := ⟨_, by rw [hp1, ← hdone], hbel, by rw [hp2, ← hdone, if_neg hc]; exact SRow.nil _⟩
                obtain ⟨c, hm⟩ : ∃ c, c = chk done := ⟨_, rfl⟩
                rw [← hm] at HC hn2 HP
                clear hc hm hdone hp1 hp2 hbel
                go_wp2_with fail
                refine HC.out.mono ?_
                rintro e w4 ⟨rfl, rfl⟩
                go_wp2
                go_ret2
                exact HP.out
end Go.Proofs.YthnlcfnfbilbdaaDoor.Name
