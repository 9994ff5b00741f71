/- What is asked of wire's functions; wires; the walks of the statements WireGets, WireAll. -/
import Derived.Test.YtjhmjimfehanbaaWireN
namespace Go.Proofs.Ytjhmjimfehanbaa.Wire
open Go.RowKit Fold Name
set_option linter.unusedVariables false

def PGot (w : World) (r : List Int × List Int × Int) (e : Ending) (w' : World) : Prop :=
  ∃ u p, e = .returned (.tuple #[u, p, .int .i64 r.2.2]) ∧ Below w.heap.size w w' ∧ Row .u8 w' u r.1 ∧ Row .i64 w' p r.2.1
def PutGot (w : World) (l : List ByteArray) (e : Ending) (w' : World) : Prop :=
  ∃ u, e = .returned (.tuple #[u, .int .i64 (chk l)]) ∧ Below w.heap.size w w' ∧ Row .u8 w' u (putB l)

/-- What wire's functions do: what the walks of the statements ask. -/
structure Does : Prop where
  get : ∀ v a l w, Row .u8 w v l → l.length ≤ 100000 → -9223372036854775808 ≤ a → a ≤ 9223372036854775807 → Calls Try.prog 8 #[v, .int .i64 a] w (Got w (getV l a))
  all : ∀ v l w, Row .u8 w v l → l.length ≤ 100000 → Calls Try.prog 11 #[v] w (AGot w (allW l 0 []))
  pack : ∀ v L w, NRow w v L → few5 L = true → Calls Try.prog 15 #[v] w (PGot w (packW L))
  put : ∀ v l w, SRow w v l → wire l ≤ 1000000 → Calls Try.prog 16 #[v] w (PutGot w l)

theorem NRow.made (w : World) (us : List Value) (L : List (List ByteArray)) (e : TypeId) (c : Array Value) (hc : c = us.toArray) (hu : NVals w us L) (hn : L.length ≤ 9223372036854775807) : NRow (w.alloc (.cells c e)) (.slice (some ⟨w.heap.size, 0, none⟩) L.length L.length) L := by
  refine ⟨_, _, fun i => us.getD i (.slice none 0 0), rfl, Nat.le_refl _, hn, fun i hi => (hu.2 i hi).mono (below_made w _) (Nat.le_refl _), fun _ => ⟨w.heap.size, 0, rfl, ?_, fun i hi => ?_⟩⟩
  · have : (w.alloc (.cells c e)).heap.size = w.heap.size + 1 := Array.size_push _
    omega
  · have hi2 : i < us.length := by rw [hu.1]; exact hi
    rw [Nat.zero_add, cell_block (heap_alloc_new w _), hc]
    simp [List.getD, hi2]
theorem madeS2 (w : World) (x y : ByteArray) (hx : x.size ≤ 9223372036854775807) (hy : y.size ≤ 9223372036854775807) : SRow (w.alloc (.cells #[.string x, .string y] 9)) (.slice (some ⟨w.heap.size, 0, none⟩) 2 2) [x, y] :=
  SRow.made w [x, y] 9 _ rfl (fun i hi => by
    match i, hi with
    | 0, _ => exact hx
    | 1, _ => exact hy) (by simp)

theorem wex1 : packW [[⟨#[97]⟩, ⟨#[98]⟩], [⟨#[99]⟩, ⟨#[66]⟩]] = ([1, 97, 1, 98, 0, 1, 99, 192, 2], [0, 5], 0) := by kernel_rfl
theorem wex2 : getV [1, 97, 1, 98, 0, 1, 99, 192, 2] 5 = ([⟨#[99]⟩, ⟨#[98]⟩], 9, 0) := by
  have h := (packW_packed (L := [[⟨#[97]⟩, ⟨#[98]⟩], [⟨#[99]⟩, ⟨#[66]⟩]]) (by rw [wex1])).1
  rw [wex1] at h
  exact h.got (i := 1) (p := 5) (e := 9) (by decide) (by decide) (by decide)
theorem wex3 : getV [192, 0] 0 = ([], 0, 4) := by
  rw [getV, if_neg (by decide), getW_ahead (by decide) (by decide) (by decide) (by decide)]
theorem wex4 : few5 [[⟨#[97]⟩, ⟨#[98]⟩], [⟨#[99]⟩, ⟨#[66]⟩]] = true := by kernel_rfl
theorem wex5 : (strOfNums [1, 97, 1, 98, 0, 1, 99, 192, 2]).toList = [1, 97, 1, 98, 0, 1, 99, 192, 2] := by rw [ByteArray.toList_eq]; kernel_rfl
theorem dec_self' {α : Type} [DecidableEq α] (a : α) : decide (a = a) = true := by simp

theorem size_alloc (w : World) (o : Obj) : (w.alloc o).heap.size = w.heap.size + 1 := Array.size_push _
theorem madeN22 (w : World) (x y z t : ByteArray) (hx : x.size ≤ 9223372036854775807) (hy : y.size ≤ 9223372036854775807) (hz : z.size ≤ 9223372036854775807) (ht : t.size ≤ 9223372036854775807) :
    NRow (((w.alloc (.cells #[.string x, .string y] 9)).alloc (.cells #[.string z, .string t] 9)).alloc (.cells #[.slice (some ⟨w.heap.size, 0, none⟩) 2 2, .slice (some ⟨w.heap.size + 1, 0, none⟩) 2 2] 24)) (.slice (some ⟨w.heap.size + 1 + 1, 0, none⟩) 2 2) [[x, y], [z, t]] ∧
    Below w.heap.size w (((w.alloc (.cells #[.string x, .string y] 9)).alloc (.cells #[.string z, .string t] 9)).alloc (.cells #[.slice (some ⟨w.heap.size, 0, none⟩) 2 2, .slice (some ⟨w.heap.size + 1, 0, none⟩) 2 2] 24)) := by
  have s1 := size_alloc w (.cells #[.string x, .string y] 9)
  have s2 := size_alloc (w.alloc (.cells #[.string x, .string y] 9)) (.cells #[.string z, .string t] 9)
  have m1 := madeS2 w x y hx hy
  have m2 := madeS2 (w.alloc (.cells #[.string x, .string y] 9)) z t hz ht
  rw [s1] at s2 m2
  have m1' := m1.mono (below_made (w.alloc (.cells #[.string x, .string y] 9)) (.cells #[.string z, .string t] 9)) (Nat.le_refl _)
  have nv : NVals ((w.alloc (.cells #[.string x, .string y] 9)).alloc (.cells #[.string z, .string t] 9)) [.slice (some ⟨w.heap.size, 0, none⟩) 2 2, .slice (some ⟨w.heap.size + 1, 0, none⟩) 2 2] [[x, y], [z, t]] := ((NVals.nil _).snoc m1').snoc m2
  have := NRow.made _ _ _ 24 _ rfl nv (by simp)
  rw [s2] at this
  exact ⟨this, (((Below.refl _ w).alloc (Nat.le_refl _) _).alloc (by rw [s1]; omega) _).alloc (by rw [s2]; omega) _⟩
theorem made192 (w : World) : Row .u8 (w.alloc (.cells #[.int .u8 192, .int .u8 0] 5)) (.slice (some ⟨w.heap.size, 0, none⟩) 2 2) [192, 0] :=
  Row.made w [192, 0] 5 _ rfl (fun i hi => by
    match i, hi with
    | 0, _ => rfl
    | 1, _ => rfl) (by simp)

set_option maxRecDepth 100000 in
set_option maxHeartbeats 2000000 in
theorem wires_any (D : Does) (w : World) :
    Calls Try.prog 7 #[] w fun e w' => e = .returned (.bool true) ∧ Below w.heap.size w w' := by
  have HD := Lib.hid D
  obtain ⟨M, B1⟩ := madeN22 w ⟨#[97]⟩ ⟨#[98]⟩ ⟨#[99]⟩ ⟨#[66]⟩ (by decide) (by decide) (by decide) (by decide)
  have HM := Lib.hid M
  clear M
  go_enter Try.func7, Try.ntmps7
  go_wp2_with fail
  refine (HD.out.pack _ _ _ HM.out wex4).mono ?_
  rintro e w1 ⟨u1, p1, he, hb1, hr1, hp1⟩
  rw [wex1] at he hr1 hp1
  subst he
  have hb1' := B1.trans (hb1.mono B1.size)
  clear HM B1 hb1
  have HR1 := Lib.hid hr1
  have HP1 := Lib.hid hp1
  clear hr1 hp1
  go_wp2_with fail
  refine (HD.out.get _ _ _ _ HR1.out (by decide) (by decide) (by decide)).mono ?_
  rintro e w2 ⟨u2, he, hb2, hr2⟩
  rw [wex2] at he hr2
  subst he
  have HR2 := Lib.hid (HR1.out.mono hb2 (Nat.le_refl _))
  have HP2 := Lib.hid (HP1.out.mono hb2 (Nat.le_refl _))
  have HS2 := Lib.hid hr2.1
  have hb2' := hb1'.trans (hb2.mono hb1'.size)
  clear HR1 HP1 hr2 hb1' hb2
  have HQ := Lib.hid (made192 w2)
  have B2 := below_made w2 (.cells #[.int .u8 192, .int .u8 0] 5)
  go_wp2_with fail
  refine (HD.out.get _ _ _ _ HQ.out (by decide) (by decide) (by decide)).mono ?_
  rintro e w3 ⟨u3, he, hb3, -⟩
  rw [wex3] at he
  subst he
  have B3 := B2.trans (hb3.mono B2.size)
  have HR3 := Lib.hid (HR2.out.mono B3 (Nat.le_refl _))
  have HP3 := HP2.out.mono B3 (Nat.le_refl _)
  have HS3 := Lib.hid (HS2.out.mono B3 (Nat.le_refl _))
  have hb3' := hb2'.trans (B3.mono hb2'.size)
  clear HR2 HP2 HS2 HQ B2 hb2' hb3 B3
  have hconv := Row.string (P := Try.prog) HR3.out 22 9 5 Try.underlying22 Try.underlying5 Try.underlying9
  have hstr := wex5
  obtain ⟨adp, capp, rfl, -, hcapp, -, hcp⟩ := HP3
  obtain ⟨bp, offp, rfl, -, hcells⟩ := hcp (by simp)
  have c0 := hcells 0 (by decide)
  have c1 := hcells 1 (by decide)
  rw [Nat.add_zero] at c0
  have c0' : w3.cell? ⟨bp, offp, none⟩ = some (.int .i64 0) := c0
  have c1' : w3.cell? ⟨bp, offp + 1, none⟩ = some (.int .i64 5) := c1
  clear hcp hcells c0 c1
  go_wp2_with fail
  have M1 := madeS2 w3 ⟨#[99]⟩ ⟨#[98]⟩ (by decide) (by decide)
  have B4 := below_made w3 (.cells #[.string ⟨#[99]⟩, .string ⟨#[98]⟩] 9)
  refine (sameL_any _ _ _ _ _ (HS3.out.mono B4 (Nat.le_refl _)) M1).mono ?_
  rintro e w5 ⟨he, hm5⟩
  rw [dec_self'] at he
  subst he
  have hb5 := hb3'.trans ((below_drawn B4 hm5).mono hb3'.size)
  clear M1 B4 hm5
  go_wp2
  go_ret
  exact ⟨rfl, hb5⟩

theorem wireGets_walk (D : Does) (v : Value) (a : Int) (l : List Int) (w : World) (hr : Row .u8 w v l) (ha1 : -9223372036854775808 ≤ a) (ha2 : a ≤ 9223372036854775807) :
    Calls Try.prog 3 #[v, .int .i64 a] w fun e w' => e = .returned (.bool true) ∧ Below w.heap.size w w' := by
  have HD := Lib.hid D
  have HR := Lib.hid hr
  obtain ⟨ad, cap, rfl, -, -, -, -⟩ := hr
  by_cases h : (3000 : Int) < l.length
  · go_enter Try.func3, Try.ntmps3
    go_wp2_with fail
    refine (wires_any HD.out _).mono ?_
    rintro e w1 ⟨rfl, hb⟩
    go_wp2
    go_ret
    exact ⟨rfl, hb⟩
  · have HG := Lib.hid (fun u hu => HD.out.get (.slice ad l.length cap) a l u hu (by omega) ha1 ha2)
    have HG2 := Lib.hid (fun u hu => refGet_any (.slice ad l.length cap) a l u hu (by omega))
    obtain ⟨r, hrr⟩ : ∃ r, r = getV l a := ⟨_, rfl⟩
    unfold Got at HG HG2
    rw [← hrr] at HG HG2
    obtain ⟨x, n, c⟩ := r
    simp only [] at HG HG2
    clear hrr
    go_enter Try.func3, Try.ntmps3
    go_wp2_with fail
    refine (HG.out _ HR.out).mono ?_
    rintro e w1 ⟨u1, rfl, hb1, hr1⟩
    simp only []
    have HR1 := Lib.hid (HR.out.mono hb1 (Nat.le_refl _))
    have HS1 := Lib.hid hr1.1
    clear hr1
    go_wp2_with fail
    refine (HG2.out _ HR1.out).mono ?_
    rintro e w2 ⟨u2, rfl, hb2, hr2⟩
    simp only []
    have HS2 := Lib.hid (HS1.out.mono hb2 (Nat.le_refl _))
    have HS3 := Lib.hid hr2.1
    have hb2' := hb1.trans (hb2.mono hb1.size)
    clear hr2 hb1 hb2 HS1 HR1
    go_wp2_with fail
    refine (sameL_any _ _ _ _ _ HS2.out HS3.out).mono ?_
    rintro e w3 ⟨he, hm3⟩
    rw [dec_self'] at he
    subst he
    have hb3' := below_drawn hb2' hm3
    clear hm3 hb2'
    go_wp2_with fail
    refine (wires_any HD.out _).mono ?_
    rintro e w4 ⟨rfl, hb4⟩
    go_wp2
    go_ret
    exact ⟨rfl, hb3'.trans (hb4.mono hb3'.size)⟩

theorem wireAll_walk (D : Does) (v : Value) (l : List Int) (w : World) (hr : Row .u8 w v l) :
    Calls Try.prog 4 #[v] w fun e w' => e = .returned (.bool true) ∧ Below w.heap.size w w' := by
  have HD := Lib.hid D
  have HR := Lib.hid hr
  obtain ⟨ad, cap, rfl, -, -, -, -⟩ := hr
  by_cases h : (1000 : Int) < l.length
  · go_enter Try.func4, Try.ntmps4
    go_wp2_with fail
    refine (wires_any HD.out _).mono ?_
    rintro e w1 ⟨rfl, hb⟩
    go_wp2
    go_ret
    exact ⟨rfl, hb⟩
  · have HG := Lib.hid (fun u hu => HD.out.all (.slice ad l.length cap) l u hu (by omega))
    have HG2 := Lib.hid (fun u hu => refAll_any (.slice ad l.length cap) l u hu (by omega))
    obtain ⟨r, hrr⟩ : ∃ r, r = allW l 0 [] := ⟨_, rfl⟩
    unfold AGot at HG HG2
    rw [← hrr] at HG HG2
    obtain ⟨x, c⟩ := r
    simp only [] at HG HG2
    clear hrr
    go_enter Try.func4, Try.ntmps4
    go_wp2_with fail
    refine (HG.out _ HR.out).mono ?_
    rintro e w1 ⟨u1, rfl, hb1, hr1⟩
    simp only []
    have HR1 := Lib.hid (HR.out.mono hb1 (Nat.le_refl _))
    have HS1 := Lib.hid hr1
    clear hr1
    go_wp2_with fail
    refine (HG2.out _ HR1.out).mono ?_
    rintro e w2 ⟨u2, rfl, hb2, hr2⟩
    simp only []
    have HS2 := Lib.hid (HS1.out.mono hb2 (Nat.le_refl _))
    have HS3 := Lib.hid hr2
    have hb2' := hb1.trans (hb2.mono hb1.size)
    clear hr2 hb1 hb2 HS1 HR1
    go_wp2_with fail
    refine (sameN_any _ _ _ _ _ HS2.out HS3.out).mono ?_
    rintro e w3 ⟨he, hm3⟩
    rw [dec_self'] at he
    subst he
    have hb3' := below_drawn hb2' hm3
    clear hm3 hb2'
    go_wp2_with fail
    refine (wires_any HD.out _).mono ?_
    rintro e w4 ⟨rfl, hb4⟩
    go_wp2
    go_ret
    exact ⟨rfl, hb3'.trans (hb4.mono hb3'.size)⟩
end Go.Proofs.Ytjhmjimfehanbaa.Wire
