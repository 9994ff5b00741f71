/- What is asked of the functions of records; the example; the walks of the statements RecordsPack, RecordsUnpack. -/
import Derived.Test.YtmjklelajnadcaaRecB
import Derived.Test.YtmjklelajnadcaaRecC
import Derived.Lib.SlBytesConst
namespace Go.Proofs.Ytmjklelajnadcaa.Rec
open Go.RowKit
set_option linter.unusedVariables false

/-- A row of bytes that may be written, at block B or behind. -/
def WRow (B : Nat) (w : World) (v : Value) (l : List Int) : Prop :=
  Row .u8 w v l ∧ ∀ b off n cap, v = .slice (some ⟨b, off, none⟩) n cap → l ≠ [] → B ≤ b ∧ ∀ i, i < l.length → w.frozen? ⟨b, off + i, none⟩ = false
def WLRow (B : Nat) (w : World) (v : Value) (L : List (List Int)) : Prop := LRow (WRow B) [] w v L
theorem WLRow.qrow {B : Nat} {w : World} {v : Value} {L : List (List Int)} (h : WLRow B w v L) : QRow w v L := by
  obtain ⟨a, cap, U, h1, h2, h3, h4, h5⟩ := h
  exact ⟨a, cap, U, h1, h2, h3, fun i hi => (h4 i hi).1, h5⟩

/-- What is unpacked: rows of the call's own. -/
def OGot (w : World) (r : List (List Int) × Int) (e : Ending) (w' : World) : Prop :=
  ∃ u, e = .returned (.tuple #[u, .int .i64 r.2]) ∧ Below w.heap.size w w' ∧ WLRow w.heap.size w' u r.1
theorem OGot.got {w : World} {r : List (List Int) × Int} {e : Ending} {w' : World} (h : OGot w r e w') : UGot w r e w' := by
  obtain ⟨u, h1, h2, h3⟩ := h
  exact ⟨u, h1, h2, h3.qrow⟩
/-- What is packed: bytes of the call's own. -/
def PNew (w : World) (L : List (List Int)) (e : Ending) (w' : World) : Prop :=
  ∃ u, e = .returned (.tuple #[u, .int .i64 (szE L)]) ∧ Below w.heap.size w w' ∧ Row .u8 w' u (pckB L) ∧ (pckB L ≠ [] → ∀ k, u.ownBlock = some k → w.heap.size ≤ k)
/-- What the functions of records do: what the walks of the statements ask. -/
structure Does : Prop where
  size : ∀ v L w, QRow w v L → few6 L = true → Calls Try.prog 12 #[v] w fun e w' => e = .returned (.tuple #[.int .i64 (szN L), .int .i64 (szE L)]) ∧ Below w.heap.size w w'
  pack : ∀ v L w, QRow w v L → few6 L = true → Calls Try.prog 10 #[v] w (PNew w L)
  unpack : ∀ v l w, Row .u8 w v l → l.length ≤ 3000 → Calls Try.prog 14 #[v] w (OGot w (unpV l))
  same : ∀ v1 v2 a b w, QRow w v1 a → QRow w v2 b → Calls Try.prog 17 #[v1, v2] w fun e w' => e = .returned (.bool (decide (a = b))) ∧ Below w.heap.size w w'
  clone : ∀ v L w, QRow w v L → few6 L = true → Calls Try.prog 18 #[v] w fun e w' => ∃ u, e = .returned u ∧ Below w.heap.size w w' ∧ WLRow w.heap.size w' u L

theorem dec_self {α : Type} [DecidableEq α] (a : α) : decide (a = a) = true := by simp
theorem size_alloc (w : World) (o : Obj) : (w.alloc o).heap.size = w.heap.size + 1 := Array.size_push _

def exL : List (List Int) := [[97, 98], []]
theorem ex1 : szE exL = 0 := by decide
theorem ex2 : pckB exL = [2, 0, 2, 0, 2, 0, 97, 98] := by rw [pckB, if_pos ex1]; decide
theorem ex3 : unpV [2, 0, 2, 0, 2, 0, 97, 98] = (exL, 0) := by
  have h := unp_pack exL ex1
  have h2 := ex2
  rw [pckB, if_pos ex1] at h2
  rw [h2] at h
  exact h
theorem ex4 : unpV [2, 0, 2] = ([], 3) := by rw [unpV, if_neg (by decide), if_neg (by decide), if_pos (by decide)]
theorem ex5 : few6 exL = true := by decide
theorem ex6 : (strOfNums [2, 0, 2, 0, 2, 0, 97, 98]).toList = [2, 0, 2, 0, 2, 0, 97, 98] := by rw [ByteArray.toList_eq]; kernel_rfl
theorem ex7 : (strOfNums [97, 98]).toList = [97, 98] := by rw [ByteArray.toList_eq]; kernel_rfl
theorem made_ex (w : World) :
    QRow ((w.alloc (.cells #[.int .u8 97, .int .u8 98] 5 (2, 3))).alloc (.cells #[.slice (some ⟨w.heap.size, 0, none⟩) 2 2, .slice none 0 0] 25)) (.slice (some ⟨w.heap.size + 1, 0, none⟩) 2 2) exL ∧
    Below w.heap.size w ((w.alloc (.cells #[.int .u8 97, .int .u8 98] 5 (2, 3))).alloc (.cells #[.slice (some ⟨w.heap.size, 0, none⟩) 2 2, .slice none 0 0] 25)) := by
  have s1 := size_alloc w (.cells #[.int .u8 97, .int .u8 98] 5 (2, 3))
  have m1 : Row .u8 (w.alloc (.cells #[.int .u8 97, .int .u8 98] 5 (2, 3))) (.slice (some ⟨w.heap.size, 0, none⟩) 2 2) [97, 98] := Row.made_mark w [97, 98] 5 _ (2, 3) rfl (fun i hi => by
    match i, hi with
    | 0, _ => rfl
    | 1, _ => rfl) (by simp)
  have nv : LVals (Row .u8) [] (w.alloc (.cells #[.int .u8 97, .int .u8 98] 5 (2, 3))) [.slice (some ⟨w.heap.size, 0, none⟩) 2 2, .slice none 0 0] exL := ((LVals.nil _ _ _).snoc m1).snoc (Row.nil _ _)
  have := LRow.made (row_stays .u8) _ _ _ 25 _ rfl nv (by decide)
  rw [s1] at this
  exact ⟨this, ((Below.refl _ w).alloc (Nat.le_refl _) _).alloc (by rw [s1]; omega) _⟩

set_option maxRecDepth 100000 in
set_option maxHeartbeats 2000000 in
theorem packs_any (D : Does) (w : World) :
    Calls Try.prog 9 #[] w fun e w' => e = .returned (.bool true) ∧ Below w.heap.size w w' := by
  have HD := Lib.hid D
  obtain ⟨M, B1⟩ := made_ex w
  have HM := Lib.hid M
  have kc : (convert 25 25 (.slice (some ⟨w.heap.size, 0, none⟩) 2 2)).run Try.prog (w.alloc (.cells #[.int .u8 97, .int .u8 98] 5)) = .ok (.slice (some ⟨w.heap.size, 0, none⟩) 2 2) (w.alloc (.cells #[.int .u8 97, .int .u8 98] 5 (2, 3))) := Lib.run_convert_bytes_const (P := Try.prog) w 25 5 #[.int .u8 97, .int .u8 98] 2 2 Try.underlying25 Try.underlying5
  clear M
  go_enter Try.func9, Try.ntmps9
  go_wp2_with fail
  refine (HD.out.pack _ _ _ HM.out ex5).mono ?_
  rintro e w1 ⟨u1, he, hb1, hr1, -⟩
  rw [ex1] at he
  rw [ex2] at hr1
  subst he
  have hb1' := B1.trans (hb1.mono B1.size)
  clear HM B1 hb1 kc
  have HR1 := Lib.hid hr1
  obtain ⟨ad1, cap1, rfl, hcap1, hcap1', -, hc1⟩ := hr1
  obtain ⟨b1, off1, rfl, -, -⟩ := hc1 (by simp)
  clear hc1
  go_wp2_with fail
  refine (HD.out.unpack _ _ _ HR1.out (by decide)).mono ?_
  rintro e w2 hg
  obtain ⟨u2, he, hb2, hr2⟩ := hg.got
  rw [ex3] at he hr2
  subst he
  have HR2 := Lib.hid (HR1.out.mono hb2 (Nat.le_refl _))
  have HS2 := Lib.hid hr2
  have hb2' := hb1'.trans (hb2.mono hb1'.size)
  clear HR1 hr2 hb1' hb2 hg
  have HQ : Hid (Row .u8 w2 (.slice (some ⟨b1, off1, none⟩) 3 cap1) [2, 0, 2]) := Row.take HR2.out (n := 3) (by decide)
  have hc3 : (3 : Int) ≤ (cap1 : Int) := by simp at hcap1; omega
  have hc3' : 3 ≤ cap1 := by omega
  go_wp2_with fail
  refine (HD.out.unpack _ _ _ HQ.out (by decide)).mono ?_
  rintro e w3 hg
  obtain ⟨u3, he, hb3, -⟩ := hg.got
  rw [ex4] at he
  subst he
  have hr3 := HR2.out.mono hb3 (Nat.le_refl _)
  have hs3 := HS2.out.mono hb3 (Nat.le_refl _)
  have hb3' := hb2'.trans (hb3.mono hb2'.size)
  clear HR2 HS2 HQ hb2' hb3 hg
  have hconv : (convert 25 9 (.slice (some ⟨b1, off1, none⟩) 8 cap1)).run Try.prog w3 = .ok (.string (strOfNums [2, 0, 2, 0, 2, 0, 97, 98])) w3 := Row.string (P := Try.prog) hr3 25 9 5 Try.underlying25 Try.underlying5 Try.underlying9
  have hstr := ex6
  obtain ⟨a2, c2, U, rfl, g2, g3, g4, g5⟩ := hs3
  obtain ⟨bb, oo, rfl, -, hcells⟩ := g5 (by decide)
  have r0 : Row .u8 w3 (U 0) [97, 98] := g4 0 (by decide)
  have r1 : Row .u8 w3 (U 1) [] := g4 1 (by decide)
  have d0 : w3.cell? ⟨bb, oo, none⟩ = some (U 0) := hcells 0 (by decide)
  have d1 : w3.cell? ⟨bb, oo + 1, none⟩ = some (U 1) := hcells 1 (by decide)
  have hstr2 := ex7
  obtain ⟨x0, hx0⟩ : ∃ x, x = U 0 := ⟨_, rfl⟩
  obtain ⟨x1, hx1⟩ : ∃ x, x = U 1 := ⟨_, rfl⟩
  rw [← hx0] at r0 d0
  rw [← hx1] at r1 d1
  have r0' := r0
  obtain ⟨a0, k0, rfl, -, -, -, -⟩ := r0
  have hconv2 : (convert 25 9 (.slice a0 2 k0)).run Try.prog w3 = .ok (.string (strOfNums [97, 98])) w3 := Row.string (P := Try.prog) r0' 25 9 5 Try.underlying25 Try.underlying5 Try.underlying9
  obtain ⟨a1, k1, rfl, -, -, -, -⟩ := r1
  have hlen : exL.length = 2 := rfl
  clear r0' hcells g4 g5 hx0 hx1 hr3 hcap1
  go_wp2
  go_ret
  exact ⟨rfl, hb3'⟩

set_option maxRecDepth 100000 in
theorem recordsPack_walk (D : Does) (v : Value) (L : List (List Int)) (w : World) (hr : QRow w v L) :
    Calls Try.prog 3 #[v] w fun e w' => e = .returned (.bool true) ∧ Below w.heap.size w w' := by
  have HD := Lib.hid D
  have HR := Lib.hid hr
  clear hr
  by_cases hf : few6 L = true
  · have HF := Lib.hid (few6_out hf)
    have HFW := Lib.hid (few_any v L w HR.out)
    rw [hf] at HFW
    have HFF := Lib.hid hf
    clear hf
    go_enter Try.func3, Try.ntmps3
    go_wp2_with fail
    refine HFW.out.mono ?_
    rintro e w' ⟨rfl, rfl⟩
    clear HFW
    go_wp2_with fail
    refine (HD.out.pack _ _ _ HR.out HFF.out).mono ?_
    rintro e w1 ⟨u1, rfl, hb1, hr1, -⟩
    have HR1 := Lib.hid (HR.out.mono hb1 (Nat.le_refl _))
    have HP1 := Lib.hid hr1
    clear hr1 HR
    go_wp2_with fail
    refine (refPack_any _ _ _ HR1.out (by have := HF.out; omega)).mono ?_
    rintro e w2 ⟨u2, rfl, hb2, hr2⟩
    have HR2 := Lib.hid (HR1.out.mono hb2 (Nat.le_refl _))
    have HP2 := Lib.hid (HP1.out.mono hb2 (Nat.le_refl _))
    have HQ2 := Lib.hid hr2
    have hb2' := hb1.trans (hb2.mono hb1.size)
    clear hr2 hb1 hb2 HR1 HP1
    go_wp2_with fail
    refine (HD.out.size _ _ _ HR2.out HFF.out).mono ?_
    rintro e w3 ⟨rfl, hb3⟩
    have HR3 := Lib.hid (HR2.out.mono hb3 (Nat.le_refl _))
    have hp3 := HP2.out.mono hb3 (Nat.le_refl _)
    have hq3 := HQ2.out.mono hb3 (Nat.le_refl _)
    have hb3' := hb2'.trans (hb3.mono hb2'.size)
    clear hb2' hb3 HR2 HP2 HQ2
    have hc1 := Row.string (P := Try.prog) hp3 25 9 5 Try.underlying25 Try.underlying5 Try.underlying9
    have hc2 := Row.string (P := Try.prog) hq3 25 9 5 Try.underlying25 Try.underlying5 Try.underlying9
    clear hp3 hq3
    go_wp2_with fail
    refine (refSize_any _ _ _ HR3.out (by have := HF.out; omega)).mono ?_
    rintro e w4 ⟨rfl, rfl⟩
    clear HR3
    go_wp2_with fail
    refine (packs_any HD.out _).mono ?_
    rintro e w5 ⟨rfl, hb5⟩
    go_wp2
    go_ret
    exact ⟨rfl, hb3'.trans (hb5.mono hb3'.size)⟩
  · have hf2 : few6 L = false := by simpa using hf
    have HFW := Lib.hid (few_any v L w HR.out)
    rw [hf2] at HFW
    clear hf hf2
    go_enter Try.func3, Try.ntmps3
    go_wp2_with fail
    refine HFW.out.mono ?_
    rintro e w' ⟨rfl, rfl⟩
    clear HFW
    go_wp2_with fail
    refine (packs_any HD.out _).mono ?_
    rintro e w1 ⟨rfl, hb⟩
    go_wp2
    go_ret
    exact ⟨rfl, hb⟩

set_option maxRecDepth 100000 in
theorem recordsUnpack_walk (D : Does) (v : Value) (l : List Int) (w : World) (hr : Row .u8 w v l) :
    Calls Try.prog 4 #[v] w fun e w' => e = .returned (.bool true) ∧ Below w.heap.size w w' := by
  have HD := Lib.hid D
  have HR := Lib.hid hr
  obtain ⟨ad, cap, rfl, -, -, -, -⟩ := hr
  by_cases h : (3000 : Int) < l.length
  · go_enter Try.func4, Try.ntmps4
    go_wp2_with fail
    refine (packs_any HD.out _).mono ?_
    rintro e w1 ⟨rfl, hb⟩
    go_wp2
    go_ret
    exact ⟨rfl, hb⟩
  · have HG := Lib.hid (fun u hu => HD.out.unpack (.slice ad l.length cap) l u hu (by omega))
    have HG2 := Lib.hid (fun u hu => refUnpack_any (.slice ad l.length cap) l u hu (by omega))
    obtain ⟨r, hrr⟩ : ∃ r, r = unpV l := ⟨_, rfl⟩
    rw [← hrr] at HG HG2
    obtain ⟨x, c⟩ := r
    clear hrr
    go_enter Try.func4, Try.ntmps4
    go_wp2_with fail
    refine (HG.out _ HR.out).mono ?_
    rintro e w1 hg
    obtain ⟨u1, rfl, hb1, hr1⟩ := hg.got
    simp only []
    have HR1 := Lib.hid (HR.out.mono hb1 (Nat.le_refl _))
    have HS1 := Lib.hid hr1
    simp only [] at HS1
    clear hr1 hg
    go_wp2_with fail
    refine (HG2.out _ HR1.out).mono ?_
    rintro e w2 ⟨u2, rfl, hb2, hr2⟩
    simp only []
    have HS2 := Lib.hid (HS1.out.mono hb2 (Nat.le_refl _))
    have HS3 := Lib.hid hr2
    simp only [] at HS3
    have hb2' := hb1.trans (hb2.mono hb1.size)
    clear hr2 hb1 hb2 HS1 HR1
    go_wp2_with fail
    refine (sameQ_any _ _ _ _ _ HS2.out HS3.out).mono ?_
    rintro e w3 ⟨he, hm3⟩
    rw [dec_self] at he
    subst he
    have hb3' := below_drawn hb2' hm3
    clear hm3 hb2'
    go_wp2_with fail
    refine (packs_any HD.out _).mono ?_
    rintro e w4 ⟨rfl, hb4⟩
    go_wp2
    go_ret
    exact ⟨rfl, hb3'.trans (hb4.mono hb3'.size)⟩

set_option maxRecDepth 100000 in
theorem recordsSame_walk (D : Does) (v1 v2 : Value) (a b : List (List Int)) (w : World) (hr1 : QRow w v1 a) (hr2 : QRow w v2 b) :
    Calls Try.prog 5 #[v1, v2] w fun e w' => e = .returned (.bool true) ∧ Below w.heap.size w w' := by
  have HD := Lib.hid D
  have HA := Lib.hid hr1
  have HB := Lib.hid hr2
  have HF1 := Lib.hid (few_any v1 a w hr1)
  have HF2 := Lib.hid (few_any v2 b w hr2)
  clear hr1 hr2
  by_cases hf : few6 a = true
  · rw [hf] at HF1
    by_cases hf2 : few6 b = true
    · rw [hf2] at HF2
      have HFF := Lib.hid hf
      clear hf hf2
      go_enter Try.func5, Try.ntmps5
      go_wp2_with fail
      refine HF1.out.mono ?_
      rintro e w' ⟨rfl, rfl⟩
      go_wp2_with fail
      refine HF2.out.mono ?_
      rintro e w' ⟨rfl, rfl⟩
      clear HF1 HF2
      go_wp2_with fail
      refine (HD.out.same _ _ _ _ _ HA.out HB.out).mono ?_
      rintro e w1 ⟨rfl, hb1⟩
      have HA1 := Lib.hid (HA.out.mono hb1 (Nat.le_refl _))
      have HB1 := Lib.hid (HB.out.mono hb1 (Nat.le_refl _))
      clear HA HB
      go_wp2_with fail
      refine (sameQ_any _ _ _ _ _ HA1.out HB1.out).mono ?_
      rintro e w2 ⟨rfl, hm2⟩
      have hb2 := below_drawn (Below.refl w1.heap.size w1) hm2
      have HA2 := Lib.hid (HA1.out.mono hb2 (Nat.le_refl _))
      have hb2' := hb1.trans (hb2.mono hb1.size)
      obtain ⟨d, hd⟩ : ∃ d, d = decide (a = b) := ⟨_, rfl⟩
      rw [← hd]
      clear hd hm2 hb1 hb2 HA1 HB1
      go_wp2_with fail
      refine (HD.out.same _ _ _ _ _ HA2.out HA2.out).mono ?_
      rintro e w3 ⟨he, hb3⟩
      rw [dec_self] at he
      subst he
      have HA3 := Lib.hid (HA2.out.mono hb3 (Nat.le_refl _))
      have hb3' := hb2'.trans (hb3.mono hb2'.size)
      clear hb2' hb3 HA2
      go_wp2_with fail
      refine (HD.out.clone _ _ _ HA3.out HFF.out).mono ?_
      rintro e w4 ⟨u4, rfl, hb4, hr4⟩
      have HA4 := Lib.hid (HA3.out.mono hb4 (Nat.le_refl _))
      have HC4 := Lib.hid hr4.qrow
      have hb4' := hb3'.trans (hb4.mono hb3'.size)
      clear hb3' hb4 HA3 hr4
      go_wp2_with fail
      refine (sameQ_any _ _ _ _ _ HC4.out HA4.out).mono ?_
      rintro e w5 ⟨he, hm5⟩
      rw [dec_self] at he
      subst he
      have hb5' := below_drawn hb4' hm5
      clear hb4' hm5 HA4 HC4
      go_wp2_with fail
      refine (packs_any HD.out _).mono ?_
      rintro e w6 ⟨rfl, hb6⟩
      go_wp2
      go_ret
      exact ⟨rfl, hb5'.trans (hb6.mono hb5'.size)⟩
    · have hf3 : few6 b = false := by simpa using hf2
      rw [hf3] at HF2
      clear hf hf2 hf3
      go_enter Try.func5, Try.ntmps5
      go_wp2_with fail
      refine HF1.out.mono ?_
      rintro e w' ⟨rfl, rfl⟩
      go_wp2_with fail
      refine HF2.out.mono ?_
      rintro e w' ⟨rfl, rfl⟩
      clear HF1 HF2
      go_wp2_with fail
      refine (packs_any HD.out _).mono ?_
      rintro e w1 ⟨rfl, hb⟩
      go_wp2
      go_ret
      exact ⟨rfl, hb⟩
  · have hf3 : few6 a = false := by simpa using hf
    rw [hf3] at HF1
    clear hf hf3
    go_enter Try.func5, Try.ntmps5
    go_wp2_with fail
    refine HF1.out.mono ?_
    rintro e w' ⟨rfl, rfl⟩
    clear HF1
    go_wp2_with fail
    refine (packs_any HD.out _).mono ?_
    rintro e w1 ⟨rfl, hb⟩
    go_wp2
    go_ret
    exact ⟨rfl, hb⟩

theorem pck_length (L : List (List Int)) : (pckB L).length = szN L := by
  unfold pckB szN
  split
  · exact packL_length L
  · rfl
theorem few6_in {L : List (List Int)} (h1 : L.length ≤ 60) (h2 : dat L ≤ 3000) : few6 L = true := by simp [few6, h1, h2]
theorem few6_sz {L : List (List Int)} (h : szE L = 0) : few6 L = true ∧ szL L ≤ 480 := by
  have hb : 1 ≤ L.length ∧ L.length ≤ 16 ∧ szL L ≤ 480 := by
    unfold szE at h
    split at h
    · omega
    · split at h <;> omega
  refine ⟨few6_in (by omega) ?_, hb.2.2⟩
  have := hb.2.2
  unfold szL at this
  omega
theorem unp_or (l : List Int) (hb : ∀ i, 0 ≤ l.getD i 0 ∧ l.getD i 0 < 256) : (∃ q, unpV l = (q, 0) ∧ packL q = l ∧ szE q = 0 ∧ few6 q = true) ∨ (∃ c, unpV l = ([], c) ∧ (c == 0) = false) := by
  by_cases h : (unpV l).2 = 0
  · obtain ⟨h1, h2⟩ := pack_unp l hb h
    exact .inl ⟨(unpV l).1, Prod.ext rfl h, h1, h2, (few6_sz h2).1⟩
  · exact .inr ⟨(unpV l).2, Prod.ext (unp_fail l h) rfl, by simpa using h⟩

set_option maxRecDepth 100000 in
set_option maxHeartbeats 2000000 in
theorem recordsBack_walk (D : Does) (v1 v2 : Value) (L : List (List Int)) (l : List Int) (w : World) (hr1 : QRow w v1 L) (hr2 : Row .u8 w v2 l) :
    Calls Try.prog 6 #[v1, v2] w fun e w' => e = .returned (.bool true) ∧ Below w.heap.size w w' := by
  have HD := Lib.hid D
  have HA := Lib.hid hr1
  have HB := Lib.hid hr2
  have HF1 := Lib.hid (few_any v1 L w hr1)
  have HT := Lib.hid (unp_or l hr2.bytes)
  obtain ⟨ad, cap, rfl, -, -, -, -⟩ := hr2
  clear hr1
  by_cases hf : few6 L = true
  · rw [hf] at HF1
    have HFF := Lib.hid hf
    clear hf
    by_cases hl : (3000 : Int) < l.length
    · go_enter Try.func6, Try.ntmps6
      go_wp2_with fail
      refine HF1.out.mono ?_
      rintro e w' ⟨rfl, rfl⟩
      clear HF1
      go_wp2_with fail
      refine (packs_any HD.out _).mono ?_
      rintro e w1 ⟨rfl, hb⟩
      go_wp2
      go_ret
      exact ⟨rfl, hb⟩
    · go_enter Try.func6, Try.ntmps6
      go_wp2_with fail
      refine HF1.out.mono ?_
      rintro e w' ⟨rfl, rfl⟩
      clear HF1
      go_wp2_with fail
      refine (HD.out.pack _ _ _ HA.out HFF.out).mono ?_
      rintro e w1 ⟨u1, rfl, hb1, hp1, -⟩
      have HA1 := Lib.hid (HA.out.mono hb1 (Nat.le_refl _))
      have HB1 := Lib.hid (HB.out.mono hb1 (Nat.le_refl _))
      have HP1 := Lib.hid hp1
      clear HA HB hp1
      go_wp2_with fail
      refine (HD.out.size _ _ _ HA1.out HFF.out).mono ?_
      rintro e w2 ⟨rfl, hb2⟩
      have HA2 := Lib.hid (HA1.out.mono hb2 (Nat.le_refl _))
      have HB2 := Lib.hid (HB1.out.mono hb2 (Nat.le_refl _))
      have hp2 := HP1.out.mono hb2 (Nat.le_refl _)
      have HP2 := Lib.hid hp2
      have hb2' := hb1.trans (hb2.mono hb1.size)
      obtain ⟨ad1, cap1, rfl, -, -, -, -⟩ := hp2
      have HPL := Lib.hid (pck_length L)
      obtain ⟨pl, hpl⟩ : ∃ p, p = (pckB L).length := ⟨_, rfl⟩
      have hsn : szN L = pl := by rw [hpl]; exact HPL.out.symm
      rw [← hpl, hsn]
      rw [← hpl] at HP2
      have HPL2 := Lib.hid hpl
      clear HA1 HB1 HP1 hb1 hb2 HPL hsn hpl
      by_cases he : szE L = 0
      · have hz := few6_sz he
        have HPK : Hid (pckB L = packL L) := by unfold Hid; rw [pckB, if_pos he]
        have HU := Lib.hid (unp_pack L he)
        have HLL : Hid ((packL L).length ≤ 3000) := by unfold Hid; rw [packL_length]; omega
        rw [he]
        rw [HPK.out] at HP2 HPL2
        have HPL3 : Hid (pl = (packL L).length) := HPL2.out
        clear he hz HPK HPL2
        go_wp2_with fail
        refine (HD.out.unpack _ (packL L) _ HP2.out HLL.out).mono ?_
        rintro e w3 hg
        obtain ⟨u3, he3, hb3, hr3⟩ := hg.got
        rw [HU.out] at he3 hr3
        simp only [] at he3 hr3
        subst he3
        have HA3 := Lib.hid (HA2.out.mono hb3 (Nat.le_refl _))
        have HB3 := Lib.hid (HB2.out.mono hb3 (Nat.le_refl _))
        have HQ3 := Lib.hid hr3
        have hb3' := hb2'.trans (hb3.mono hb2'.size)
        clear HA2 HB2 HP2 hb2' hb3 hg hr3
        go_wp2_with fail
        refine (sameQ_any _ _ _ _ _ HQ3.out HA3.out).mono ?_
        rintro e w4 ⟨he, hm4⟩
        rw [dec_self] at he
        subst he
        have hb4 := below_drawn hb3' hm4
        have HR4 := Lib.hid (HB3.out.mono (below_drawn (Below.refl w3.heap.size w3) hm4) (Nat.le_refl _))
        clear hb3' hm4 HA3 HB3 HQ3
        go_wp2_with fail
        refine (HD.out.unpack _ _ _ HR4.out (by omega)).mono ?_
        rintro e w5 hg
        obtain ⟨u5, rfl, hb5, hr5⟩ := hg.got
        simp only []
        have HR5 := Lib.hid (HR4.out.mono hb5 (Nat.le_refl _))
        have hb5' := hb4.trans (hb5.mono hb4.size)
        have HS5 := Lib.hid hr5
        clear HR4 hb4 hb5 hg hr5
        rcases HT.out with ⟨q, h1, h2, h3, h4⟩ | ⟨c, h1, h2⟩
        · rw [h1] at HS5
          simp only [] at HS5
          have HK := Lib.hid h4
          have HE := Lib.hid h3
          have HPQ : Hid (pckB q = l) := by unfold Hid; rw [pckB, if_pos h3, h2]
          rw [h1]
          simp only []
          clear h1 h2 h3 h4 HT
          go_wp2_with fail
          refine (HD.out.pack _ _ _ HS5.out HK.out).mono ?_
          rintro e w6 ⟨u6, he, hb6, hr6, -⟩
          rw [HE.out] at he
          rw [HPQ.out] at hr6
          subst he
          have hb6' := hb5'.trans (hb6.mono hb5'.size)
          have hl6 := HR5.out.mono hb6 (Nat.le_refl _)
          have hc1 := Row.string (P := Try.prog) hr6 25 9 5 Try.underlying25 Try.underlying5 Try.underlying9
          have hc2 := Row.string (P := Try.prog) hl6 25 9 5 Try.underlying25 Try.underlying5 Try.underlying9
          clear HR5 HS5 HK HE HPQ hb5' hb6 hr6 hl6
          go_wp2_with fail
          refine (packs_any HD.out _).mono ?_
          rintro e w7 ⟨rfl, hb7⟩
          go_wp2
          go_ret
          exact ⟨rfl, hb6'.trans (hb7.mono hb6'.size)⟩
        · rw [h1] at HS5
          simp only [] at HS5
          rw [h1]
          simp only []
          have h5 := HS5.out
          obtain ⟨a5, c5, U5, rfl, -, -, -, -⟩ := h5
          have h6 : (c != 0) = true := by rw [bne, h2]; rfl
          clear h1 HT HS5 HR5
          go_wp2_with fail
          refine (packs_any HD.out _).mono ?_
          rintro e w7 ⟨rfl, hb7⟩
          go_wp2
          go_ret
          exact ⟨rfl, hb5'.trans (hb7.mono hb5'.size)⟩
      · have hn : (szE L == 0) = false := by simpa using he
        have hb4 := hb2'
        have HR4 := HB2
        clear he hb2' HB2 HA2 HP2
        go_wp2_with fail
        refine (HD.out.unpack _ _ _ HR4.out (by omega)).mono ?_
        rintro e w5 hg
        obtain ⟨u5, rfl, hb5, hr5⟩ := hg.got
        simp only []
        have HR5 := Lib.hid (HR4.out.mono hb5 (Nat.le_refl _))
        have hb5' := hb4.trans (hb5.mono hb4.size)
        have HS5 := Lib.hid hr5
        clear HR4 hb4 hb5 hg hr5
        rcases HT.out with ⟨q, h1, h2, h3, h4⟩ | ⟨c, h1, h2⟩
        · rw [h1] at HS5
          simp only [] at HS5
          have HK := Lib.hid h4
          have HE := Lib.hid h3
          have HPQ : Hid (pckB q = l) := by unfold Hid; rw [pckB, if_pos h3, h2]
          rw [h1]
          simp only []
          clear h1 h2 h3 h4 HT
          go_wp2_with fail
          refine (HD.out.pack _ _ _ HS5.out HK.out).mono ?_
          rintro e w6 ⟨u6, he, hb6, hr6, -⟩
          rw [HE.out] at he
          rw [HPQ.out] at hr6
          subst he
          have hb6' := hb5'.trans (hb6.mono hb5'.size)
          have hl6 := HR5.out.mono hb6 (Nat.le_refl _)
          have hc1 := Row.string (P := Try.prog) hr6 25 9 5 Try.underlying25 Try.underlying5 Try.underlying9
          have hc2 := Row.string (P := Try.prog) hl6 25 9 5 Try.underlying25 Try.underlying5 Try.underlying9
          clear HR5 HS5 HK HE HPQ hb5' hb6 hr6 hl6
          go_wp2_with fail
          refine (packs_any HD.out _).mono ?_
          rintro e w7 ⟨rfl, hb7⟩
          go_wp2
          go_ret
          exact ⟨rfl, hb6'.trans (hb7.mono hb6'.size)⟩
        · rw [h1] at HS5
          simp only [] at HS5
          rw [h1]
          simp only []
          have h5 := HS5.out
          obtain ⟨a5, c5, U5, rfl, -, -, -, -⟩ := h5
          have h6 : (c != 0) = true := by rw [bne, h2]; rfl
          clear h1 HT HS5 HR5
          go_wp2_with fail
          refine (packs_any HD.out _).mono ?_
          rintro e w7 ⟨rfl, hb7⟩
          go_wp2
          go_ret
          exact ⟨rfl, hb5'.trans (hb7.mono hb5'.size)⟩
  · have hf3 : few6 L = false := by simpa using hf
    rw [hf3] at HF1
    clear hf hf3
    go_enter Try.func6, Try.ntmps6
    go_wp2_with fail
    refine HF1.out.mono ?_
    rintro e w' ⟨rfl, rfl⟩
    clear HF1
    go_wp2_with fail
    refine (packs_any HD.out _).mono ?_
    rintro e w1 ⟨rfl, hb⟩
    go_wp2
    go_ret
    exact ⟨rfl, hb⟩
end Go.Proofs.Ytmjklelajnadcaa.Rec
