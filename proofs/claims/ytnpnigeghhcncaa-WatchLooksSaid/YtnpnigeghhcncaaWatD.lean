/- Contracts of the landed watch: what is looked at and marked. -/
import Derived.Test.YtnpnigeghhcncaaWatC
namespace Go.Proofs.Ytnpnigeghhcncaa.Wat
open Go.RowKit Num Arn
set_option linter.unusedVariables false

def alnB (a n : Int) : Bool := isW n && decide (a % n = 0)
theorem lookA_eq (x : List Int) (a n k : Int) : lookA x a n k = (alnB a n && (decide (k ≠ 0) && decide (kndA x a n = k))) := by
  unfold lookA alnB
  by_cases hf : fitB x.length a n = true
  · rw [hf]
    cases isW n <;> simp
  · have hk : kndA x a n = 0 := by rw [kndA, if_neg hf]
    have hf' : fitB x.length a n = false := by simpa using hf
    rw [hk, hf']
    by_cases h0 : k = 0
    · subst h0; simp
    · have : ¬ (0 : Int) = k := fun e => h0 e.symm
      simp [this]
theorem tmod_zero (a n : Int) : Int.tmod a n = 0 ↔ a % n = 0 := by
  rw [← Int.dvd_iff_tmod_eq_zero, ← Int.dvd_iff_emod_eq_zero]

theorem aligned_any (a n : Int) (w : World) : Calls Try.prog 26 #[.int .i64 a, .int .i64 n] w fun e w' => e = .returned (.bool (alnB a n)) ∧ w = w' := by
  have HT := Lib.hid (tmod_zero a n)
  by_cases h1 : n = 1
  · subst h1
    go_enter Try.func26, Try.ntmps26
    go_wp2
    go_ret
    exact ⟨ret_bool (by simp [alnB, isW]), rfl⟩
  · by_cases h2 : n = 2
    · subst h2
      go_enter Try.func26, Try.ntmps26
      go_wp2
      go_ret
      exact ⟨ret_bool (by rw [Bool.eq_iff_iff]; simp [alnB, isW]; exact HT.out), rfl⟩
    · by_cases h4 : n = 4
      · subst h4
        go_enter Try.func26, Try.ntmps26
        go_wp2
        go_ret
        exact ⟨ret_bool (by rw [Bool.eq_iff_iff]; simp [alnB, isW]; exact HT.out), rfl⟩
      · by_cases h8 : n = 8
        · subst h8
          go_enter Try.func26, Try.ntmps26
          go_wp2
          go_ret
          exact ⟨ret_bool (by rw [Bool.eq_iff_iff]; simp [alnB, isW]; exact HT.out), rfl⟩
        · have HW : Hid (alnB a n = false) := by simp [Hid, alnB, isW, h1, h2, h4, h8]
          have e1 : (n == 1) = false := by simpa using h1
          have e2 : (n == 2) = false := by simpa using h2
          have e4 : (n == 4) = false := by simpa using h4
          have e8 : (n == 8) = false := by simpa using h8
          go_enter Try.func26, Try.ntmps26
          go_wp2
          go_ret
          exact ⟨ret_bool HW.out.symm, rfl⟩

theorem frozen_block {w : World} {g : Nat} {c : Array Value} {e : TypeId} (h : w.heap[g]? = some (.cells c e (0, 0))) (i : Nat) : w.frozen? ⟨g, i, none⟩ = false := by simp [World.frozen?, h]
/-- A counter is set. -/
theorem WaT.tick {T : TypeId} {h : Hw} {w : World} {v : Value} {x : List Int} {lk ft : Nat} (ha : WaT T h w v x lk ft) (m : Nat) : WaT T h (w.setCell ⟨h.g, 1, none⟩ (.int .i64 (m : Int))) v x m ft := by
  have hne := ha.ne
  obtain ⟨h0, h1, h2, h3⟩ := ha
  exact ⟨h0, heap_setCell_own h1 _, (Below.heap_setCell _ _ _ _ (by exact fun e => hne e.symm)).trans h2, h3⟩
theorem WaT.tock {T : TypeId} {h : Hw} {w : World} {v : Value} {x : List Int} {lk ft : Nat} (ha : WaT T h w v x lk ft) (m : Nat) : WaT T h (w.setCell ⟨h.g, 2, none⟩ (.int .i64 (m : Int))) v x lk m := by
  have hne := ha.ne
  obtain ⟨h0, h1, h2, h3⟩ := ha
  exact ⟨h0, heap_setCell_own h1 _, (Below.heap_setCell _ _ _ _ (by exact fun e => hne e.symm)).trans h2, h3⟩
theorem WaT.free {T : TypeId} {h : Hw} {w : World} {v : Value} {x : List Int} {lk ft : Nat} (ha : WaT T h w v x lk ft) (o : Nat) : w.frozen? ⟨h.g, o, none⟩ = false := by
  obtain ⟨h0, h1, h2, h3⟩ := ha
  exact frozen_block h1 o

def Looked (T : TypeId) (h : Hw) (w : World) (v : Value) (x : List Int) (lk ft : Nat) (r : Bool) (e : Ending) (w' : World) : Prop :=
  e = .returned (.bool r) ∧ WaT T h w' v x (lk + 1) (if r then ft else ft + 1) ∧ Fr w.heap.size (blkW h) w w'

set_option maxRecDepth 100000 in
set_option maxHeartbeats 2000000 in
theorem look_any (h : Hw) (v : Value) (x : List Int) (lk ft : Nat) (a n k : Int) (w : World) (ha : WaC h w v x lk ft) (h64 : is64 a) (hlk : lk ≤ 1000000) (hft : ft ≤ 1000000) :
    Calls Try.prog 11 #[v, .int .i64 a, .int .i64 n, .int .i64 k] w (Looked 51 h w v x lk ft (lookA x a n k)) := by
  have HM := Lib.hid (made_any h v x lk ft w ha)
  obtain ⟨lk1, hlk1⟩ : ∃ m : Nat, m = lk + 1 := ⟨_, rfl⟩
  obtain ⟨ft1, hft1⟩ : ∃ m : Nat, m = ft + 1 := ⟨_, rfl⟩
  have hs : wrap64 ((lk : Int) + 1) = (lk1 : Int) := by rw [IntWalk.wrap64_in _ (by omega)]; omega
  have hs2 : wrap64 ((ft : Int) + 1) = (ft1 : Int) := by rw [IntWalk.wrap64_in _ (by omega)]; omega
  have ha1 := ha.tick lk1
  have hf1 : Fr w.heap.size (blkW h) w (w.setCell ⟨h.g, 1, none⟩ (.int .i64 (lk1 : Int))) := (Fr.refl _ _ w).setCell (.inr (.inl rfl)) _
  obtain ⟨-, c1, c2⟩ := ha.cells
  have f1 := ha.free 1
  have hv := ha.1
  subst hv
  obtain ⟨w1, hw1⟩ : ∃ w1, w1 = w.setCell ⟨h.g, 1, none⟩ (.int .i64 (lk1 : Int)) := ⟨_, rfl⟩
  rw [← hw1] at ha1 hf1
  have HA := Lib.hid (aligned_any a n w1)
  have HK := Lib.hid (kind_any h _ x lk1 ft a n w1 ha1 h64)
  obtain ⟨-, -, d2⟩ := ha1.cells
  have f2 := ha1.free 2
  have HA1 := Lib.hid ha1
  have HF1 := Lib.hid hf1
  have hl := lookA_eq x a n k
  obtain ⟨r, hr⟩ : ∃ r, r = lookA x a n k := ⟨_, rfl⟩
  obtain ⟨q, hq⟩ : ∃ q, q = kndA x a n := ⟨_, rfl⟩
  obtain ⟨g, hg⟩ : ∃ g, g = alnB a n := ⟨_, rfl⟩
  rw [← hr, ← hq, ← hg] at hl
  rw [← hq] at HK
  rw [← hg] at HA
  rw [← hr]
  have HFin : Hid (∀ w3, Below w1.heap.size w1 w3 → Looked 51 h w (.pointer (some ⟨h.g, 0, none⟩)) x lk ft true (.returned (.bool true)) w3 ∧ Looked 51 h w (.pointer (some ⟨h.g, 0, none⟩)) x lk ft false (.returned (.bool false)) (w3.setCell ⟨h.g, 2, none⟩ (.int .i64 (ft1 : Int))) ∧ w3.cell? ⟨h.g, 2, none⟩ = some (.int .i64 (ft : Int)) ∧ w3.frozen? ⟨h.g, 2, none⟩ = false) := by
    intro w3 hb
    have h3 := HA1.out.below hb
    have hf3 := HF1.out.below hb (HF1.out.size)
    rw [hlk1] at h3
    rw [hft1]
    exact ⟨⟨rfl, h3, hf3⟩, ⟨rfl, h3.tock (ft + 1), hf3.setCell (.inr (.inl rfl)) _⟩, h3.cells.2.2, h3.free 2⟩
  rw [hw1] at HA HK HFin d2 f2
  clear ha h64 hr hq hg ha1 hf1 hlk hft hlk1 hft1 HA1 HF1 hw1
  by_cases h1 : g = true
  · subst h1
    by_cases h2 : k = 0
    · subst h2
      obtain rfl : r = false := by rw [hl]; simp
      obtain ⟨-, hz, -, -⟩ := HFin.out _ (Below.refl _ _)
      have HZ := Lib.hid hz
      clear hl hz
      go_enter Try.func11, Try.ntmps11
      go_wp2_with fail
      refine HM.out.mono ?_
      rintro e w' ⟨rfl, rfl⟩
      go_wp2_with fail
      refine HA.out.mono ?_
      rintro e w' ⟨rfl, rfl⟩
      go_wp2
      go_ret
      exact HZ.out
    · have h2' : (k == 0) = false := by simpa using h2
      by_cases h3 : q = k
      · subst h3
        obtain rfl : r = true := by rw [hl]; simp [h2]
        clear hl
        go_enter Try.func11, Try.ntmps11
        go_wp2_with fail
        refine HM.out.mono ?_
        rintro e w' ⟨rfl, rfl⟩
        go_wp2_with fail
        refine HA.out.mono ?_
        rintro e w' ⟨rfl, rfl⟩
        go_wp2_with fail
        refine HK.out.mono ?_
        rintro e w3 ⟨rfl, hb⟩
        obtain ⟨hz, -, -, -⟩ := HFin.out _ hb
        have HZ := Lib.hid hz
        clear hz
        go_wp2
        go_ret
        exact HZ.out
      · obtain rfl : r = false := by rw [hl]; simp [h3]
        have h3' : (q == k) = false := by simpa using h3
        clear hl
        go_enter Try.func11, Try.ntmps11
        go_wp2_with fail
        refine HM.out.mono ?_
        rintro e w' ⟨rfl, rfl⟩
        go_wp2_with fail
        refine HA.out.mono ?_
        rintro e w' ⟨rfl, rfl⟩
        go_wp2_with fail
        refine HK.out.mono ?_
        rintro e w3 ⟨rfl, hb⟩
        obtain ⟨-, hz, e2, f3⟩ := HFin.out _ hb
        have HZ := Lib.hid hz
        clear hz
        go_wp2
        go_ret
        exact HZ.out
  · obtain rfl : g = false := by simpa using h1
    obtain rfl : r = false := by rw [hl]; simp
    obtain ⟨-, hz, -, -⟩ := HFin.out _ (Below.refl _ _)
    have HZ := Lib.hid hz
    clear hl hz
    go_enter Try.func11, Try.ntmps11
    go_wp2_with fail
    refine HM.out.mono ?_
    rintro e w' ⟨rfl, rfl⟩
    go_wp2_with fail
    refine HA.out.mono ?_
    rintro e w' ⟨rfl, rfl⟩
    go_wp2
    go_ret
    exact HZ.out

theorem wrL_set (x M : List Int) (o i : Nat) (y : Int) (hi : i < M.length) (ho : o + M.length ≤ x.length) : (wrL x o M).set (o + i) y = wrL x o (M.set i y) := by
  unfold wrL
  rw [List.length_set, List.set_append_right _ _ (by rw [List.length_take]; omega), List.length_take, Nat.min_eq_left (by omega), show o + i - o = i by omega, List.set_append_left _ _ hi]
theorem rep_set (n i : Nat) (k z : Int) (h : i < n) : (List.replicate i k ++ List.replicate (n - i) z).set i k = List.replicate (i + 1) k ++ List.replicate (n - (i + 1)) z := by
  rw [List.set_append_right _ _ (by simp), List.length_replicate, Nat.sub_self, show n - i = (n - (i + 1)) + 1 by omega, List.replicate_succ, List.set_cons_zero, List.replicate_succ']
  simp

set_option maxRecDepth 100000 in
set_option maxHeartbeats 2000000 in
theorem markP_any (b o n c : Nat) (x : List Int) (k : Int) (w : World) (hb : w.heap[b]? = some (.cells (vals x).toArray 5 (0, 0))) (hfit : o + n ≤ x.length) (hl : x.length ≤ 1048576) (h0 : 0 ≤ k) (h8 : k ≤ 8) :
    Calls Try.prog 30 #[.slice (some ⟨b, o, none⟩) n c, .int .i64 k] w fun e w' => e = .returned (.tuple #[]) ∧ w'.heap[b]? = some (.cells (vals (wrL x o (List.replicate n k))).toArray 5 (0, 0)) ∧ Fr w.heap.size (fun m => m = b) w w' := by
  by_cases hn : n = 0
  · subst hn
    have HE : Hid (w.heap[b]? = some (.cells (vals (wrL x o (List.replicate 0 k))).toArray 5 (0, 0))) := by
      unfold Hid
      rw [List.replicate_zero, wrL_nil]
      exact hb
    have hcl0 : ∀ ty W, (Builtin.clear_ #[37] ty #[.slice (some ⟨b, o, none⟩) 0 c]).run Try.prog W = .ok (.tuple #[]) W := fun ty W => by
      simp [Builtin.clear_, run_underlying (P := Try.prog) Try.underlying37]
    clear hb
    by_cases hk : k = 0
    · subst hk
      go_enter Try.func30, Try.ntmps30
      go_wp2
      refine bodyPost_ret (results_none rfl _ _ _) rfl ⟨rfl, HE.out, Fr.refl _ _ _⟩
    · have hk2 : (k == 0) = false := by simpa using hk
      go_enter Try.func30, Try.ntmps30
      go_wp2
      go_loopw [10] (fun i wr => i = .int .i64 0 ∧ wr = w) (fun _ _ => 0)
      case atStart => exact ⟨rfl, rfl⟩
      case round =>
        obtain ⟨rfl, rfl⟩ := hrel
        go_wp2
        refine bodyPost_end (results_none rfl _ _ _) rfl ⟨rfl, HE.out, Fr.refl _ _ _⟩
  · have hn1 : 0 < n := by omega
    obtain ⟨w1, hw1⟩ : ∃ w1, w1 = w.setCells b o (List.replicate n (.int .u8 0)) := ⟨_, rfl⟩
    have hcl : ∀ ty, (Builtin.clear_ #[37] ty #[.slice (some ⟨b, o, none⟩) n c]).run Try.prog w = .ok (.tuple #[]) w1 := fun ty => by
      rw [hw1]
      refine Lib.run_clear_slice w _ 5 ty (.int .u8 0) Try.underlying37 zeroU8 rfl rfl b o n c hn1 (fun j hj => ?_) (fun j hj => ?_)
      · rw [cell_block hb, List.getElem?_toArray, vals_get _ _ (by omega)]; rfl
      · unfold World.frozen?; simp only [hb]; simp
    have HW1 : Hid (w1.heap[b]? = some (.cells (vals (wrL x o (List.replicate n 0))).toArray 5 (0, 0))) := by
      rw [hw1, ← vals_zeros]
      exact heap_setCells_own _ _ _ _ hb (by rw [List.length_replicate]; exact hfit)
    have HFr : Hid (Fr w.heap.size (fun m => m = b) w w1) := by rw [hw1]; exact Arn.Fr.setCells (S := fun m => m = b) rfl _ _ _ (Fr.refl _ _ _)
    clear hb hw1
    by_cases hk : k = 0
    · subst hk
      go_enter Try.func30, Try.ntmps30
      go_wp2
      refine bodyPost_ret (results_none rfl _ _ _) rfl ⟨rfl, HW1.out, HFr.out⟩
    · have hk2 : (k == 0) = false := by simpa using hk
      have hwk : IntKind.u8.wrap k = k := by simp [IntKind.wrap, IntKind.bits, IntKind.signed]; omega
      go_enter Try.func30, Try.ntmps30
      go_wp2
      go_loopw [10] (fun i wr => ∃ m : Nat, m ≤ n ∧ i = .int .i64 m ∧ Hid (wr.heap[b]? = some (.cells (vals (wrL x o (List.replicate m k ++ List.replicate (n - m) 0))).toArray 5 (0, 0))) ∧ Hid (Fr w.heap.size (fun m => m = b) w wr)) (fun i _ => n - (intOf i).toNat)
      case atStart => exact ⟨0, Nat.zero_le _, rfl, by simpa [Hid] using HW1.out, HFr.out⟩
      case round =>
        obtain ⟨m, hm, rfl, HH, HF⟩ := hrel
        by_cases hlt : m < n
        · have hlt1 : (m : Int) < (n : Int) := by omega
          have hlt0 : (0 : Int) ≤ (m : Int) := by omega
          have hlen : (List.replicate m k ++ List.replicate (n - m) 0).length = n := by simp; omega
          obtain ⟨L, hL⟩ : ∃ L, L = wrL x o (List.replicate m k ++ List.replicate (n - m) 0) := ⟨_, rfl⟩
          have hLl : L.length = x.length := by rw [hL]; exact wrL_length _ _ _ (by rw [hlen]; exact hfit)
          have hblk := HH.out
          rw [← hL] at hblk
          have hcell : wr.cell? ⟨b, o + m, none⟩ = some (.int .u8 (L.getD (o + m) 0)) := by
            rw [cell_block hblk, List.getElem?_toArray, vals_get _ _ (by omega)]
          have hfr := frozen_block hblk (o + m)
          have HN : Hid ((wr.setCell ⟨b, o + m, none⟩ (.int .u8 k)).heap[b]? = some (.cells (vals (wrL x o (List.replicate (m + 1) k ++ List.replicate (n - (m + 1)) 0))).toArray 5 (0, 0))) := by
            have h1 := heap_setCell_own (o := o + m) hblk (.int .u8 k)
            rw [vals_set, hL, wrL_set _ _ _ _ _ (by rw [hlen]; exact hlt) (by rw [hlen]; exact hfit), rep_set _ _ _ _ hlt] at h1
            exact h1
          have HFN : Hid (Fr w.heap.size (fun m => m = b) w (wr.setCell ⟨b, o + m, none⟩ (.int .u8 k))) := HF.out.setCell (.inr rfl) _
          clear hblk hL hlen hLl HH HF
          go_wp2
          go_roundw
          case rel => exact ⟨m + 1, by omega, by go_num, HN.out, HFN.out⟩
          case measure => simp [intOf]; omega
        · obtain rfl : m = n := by omega
          have HE : Hid (wr.heap[b]? = some (.cells (vals (wrL x o (List.replicate m k))).toArray 5 (0, 0))) := by simpa [Hid] using HH.out
          go_wp2
          refine bodyPost_end (results_none rfl _ _ _) rfl ⟨rfl, HE.out, HF.out⟩

def Marked (T : TypeId) (h : Hw) (w : World) (v : Value) (lk ft : Nat) (r : List Int × Int) (e : Ending) (w' : World) : Prop :=
  e = .returned (.int .i64 r.2) ∧ WaT T h w' v r.1 lk ft ∧ Fr w.heap.size (blkW h) w w'

set_option maxRecDepth 100000 in
set_option maxHeartbeats 2000000 in
theorem mark_any (h : Hw) (v : Value) (x : List Int) (lk ft : Nat) (a n k : Int) (w : World) (ha : WaC h w v x lk ft) (h64 : is64 a) :
    Calls Try.prog 17 #[v, .int .i64 a, .int .i64 n, .int .i64 k] w (Marked 51 h w v lk ft (mrkA x a n k)) := by
  have hl := ha.len
  have HM := Lib.hid (made_any h v x lk ft w ha)
  have HSame : Hid (∀ e, Marked 51 h w v lk ft (x, e) (.returned (.int .i64 e)) w) := fun e => ⟨rfl, ha, Fr.refl _ _ _⟩
  have hml := mrkA_length x a n k
  have hmk := mrkA_kinds ha.2.2.2.2 a n k
  have HA := Lib.hid ha
  have hv := ha.1
  subst hv
  by_cases k0 : k < 0
  · have hr : mrkA x a n k = (x, 2) := by rw [mrkA, if_pos (.inl k0)]
    rw [hr]
    clear hr hml hmk ha
    go_enter Try.func17, Try.ntmps17
    go_wp2_with fail
    refine HM.out.mono ?_
    rintro e w' ⟨rfl, rfl⟩
    go_wp2
    go_ret
    exact HSame.out 2
  · by_cases k8 : 8 < k
    · have hr : mrkA x a n k = (x, 2) := by rw [mrkA, if_pos (.inr k8)]
      rw [hr]
      clear hr hml hmk ha
      go_enter Try.func17, Try.ntmps17
      go_wp2_with fail
      refine HM.out.mono ?_
      rintro e w' ⟨rfl, rfl⟩
      go_wp2
      go_ret
      exact HSame.out 2
    · have d8 : decide ((8 : Int) < k) = false := by rw [decide_eq_false_iff_not]; omega
      by_cases hf : fitB x.length a n = true
      · obtain ⟨p, q, rfl, rfl, hpq⟩ := fitB_nat hf
        have HP := Lib.hid (part_yes h _ x lk ft p q w ha hpq)
        by_cases ha4 : (p : Int) % 4 = 0
        · have ta : Int.tmod (p : Int) 4 = 0 := (tmod_zero _ _).2 ha4
          by_cases hq4 : (q : Int) % 4 = 0
          · have tq : Int.tmod (q : Int) 4 = 0 := (tmod_zero _ _).2 hq4
            have hr : mrkA x p q k = (wrL x p (List.replicate q k), 0) := by
              rw [mrkA, if_neg (by omega), if_neg (by rw [hf]; decide), if_neg (by omega)]
              rfl
            rw [hr] at hml hmk ⊢
            have hpt : ptA x.length p + q ≤ x.length := by unfold ptA; split <;> omega
            have HMk := Lib.hid (markP_any h.b (ptA x.length p) q (x.length - p) x k w ha.2.2.1 hpt hl.2 (by omega) (by omega))
            have hwr : wrL x (ptA x.length p) (List.replicate q k) = wrL x p (List.replicate q k) := by
              unfold ptA
              split
              · obtain rfl : q = 0 := by omega
                rw [List.replicate_zero, wrL_nil, wrL_nil]
              · rfl
            rw [hwr] at HMk
            have HFin : Hid (∀ w3, w3.heap[h.b]? = some (.cells (vals (wrL x p (List.replicate q k))).toArray 5 (0, 0)) → Fr w.heap.size (fun m => m = h.b) w w3 → Marked 51 h w (.pointer (some ⟨h.g, 0, none⟩)) lk ft (wrL x p (List.replicate q k), 0) (.returned (.int .i64 0)) w3) := by
              intro w3 h3 hf3
              have hne := ha.ne
              have hlt := ha.lt
              obtain ⟨a0, a1, a2, a3, a4⟩ := ha
              refine ⟨rfl, ⟨rfl, ?_, h3, by rw [hml]; exact a3, hmk⟩, hf3.mono (Nat.le_refl _) (fun m _ hm => .inr hm)⟩
              simp only [] at hml ⊢
              rw [hml]
              exact (hf3.block _ (hlt _ (.inl rfl)) hne).trans a1
            obtain ⟨o, ho⟩ : ∃ o, o = ptA x.length p := ⟨_, rfl⟩
            obtain ⟨c, hc⟩ : ∃ c, c = x.length - p := ⟨_, rfl⟩
            rw [← ho, ← hc] at HP HMk
            clear hr hml hmk ha hf hpt hwr ha4 hq4 HA ho hc
            go_enter Try.func17, Try.ntmps17
            go_wp2_with fail
            refine HM.out.mono ?_
            rintro e w' ⟨rfl, rfl⟩
            go_wp2_with fail
            refine HP.out.mono ?_
            rintro e w' ⟨rfl, rfl⟩
            go_wp2_with fail
            refine HMk.out.mono ?_
            rintro e w3 ⟨rfl, h3, hf3⟩
            have HZ := Lib.hid (HFin.out w3 h3 hf3)
            clear h3 hf3
            go_wp2
            go_ret
            exact HZ.out
          · have tq : ¬ Int.tmod (q : Int) 4 = 0 := fun e => hq4 ((tmod_zero _ _).1 e)
            have hr : mrkA x p q k = (x, 9) := by
              rw [mrkA, if_neg (by omega), if_neg (by rw [hf]; decide), if_pos (.inr hq4)]
            rw [hr]
            clear hr hml hmk ha hf HA
            go_enter Try.func17, Try.ntmps17
            go_wp2_with fail
            refine HM.out.mono ?_
            rintro e w' ⟨rfl, rfl⟩
            go_wp2_with fail
            refine HP.out.mono ?_
            rintro e w' ⟨rfl, rfl⟩
            go_wp2
            go_ret
            exact HSame.out 9
        · have ta : ¬ Int.tmod (p : Int) 4 = 0 := fun e => ha4 ((tmod_zero _ _).1 e)
          have hr : mrkA x p q k = (x, 9) := by
            rw [mrkA, if_neg (by omega), if_neg (by rw [hf]; decide), if_pos (.inl ha4)]
          rw [hr]
          clear hr hml hmk ha hf HA
          go_enter Try.func17, Try.ntmps17
          go_wp2_with fail
          refine HM.out.mono ?_
          rintro e w' ⟨rfl, rfl⟩
          go_wp2_with fail
          refine HP.out.mono ?_
          rintro e w' ⟨rfl, rfl⟩
          go_wp2
          go_ret
          exact HSame.out 9
      · have hf' : fitB x.length a n = false := by simpa using hf
        have hr : mrkA x a n k = (x, 6) := by rw [mrkA, if_neg (by omega), if_pos hf']
        rw [hr]
        have HP := Lib.hid (part_no h _ x lk ft a n w ha h64 hf')
        clear hr hml hmk ha hf hf' HA
        go_enter Try.func17, Try.ntmps17
        go_wp2_with fail
        refine HM.out.mono ?_
        rintro e w' ⟨rfl, rfl⟩
        go_wp2_with fail
        refine HP.out.mono ?_
        rintro e w' ⟨rfl, rfl⟩
        go_wp2
        go_ret
        exact HSame.out 6
end Go.Proofs.Ytnpnigeghhcncaa.Wat
