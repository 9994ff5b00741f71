/- A slab is read from an image; its runs. The runs of a slab. The runs of an arena's bytes, slab by slab. The landed Map and Agree, of bytes that tell their kinds. Slabs that hang together: what their bytes tell is what the kinds are. The map of a memory whose slabs hang together. Agree; the page's example; the walk of RegionRuns. The walk of RegionRuns. -/
import Derived.Test.YtlcnhnhpaddkfaaGreatDoorJ20
import Derived.Test.YtlcnhnhpaddkfaaGreatDoorJ11
import Derived.Test.YtlcnhnhpaddkfaaGreatDoorJ13
import Derived.Test.YtlcnhnhpaddkfaaGreatDoorJ19
import Derived.Test.YtlcnhnhpaddkfaaGreatDoorJ18
import Derived.Test.YtlcnhnhpaddkfaaGreatDoorJ6
import Derived.Test.YtlcnhnhpaddkfaaGreatDoorJ7
import Derived.Test.YtlcnhnhpaddkfaaGreatDoorJ4
namespace Go.Proofs.YtlcnhnhpaddkfaaGreatDoor.Reg
open Go.RowKit
open Cls (szC blC pdC)
open Sla (pl aT Sl bl_in bl_apart)
open Mem (rd)
set_option linter.unusedVariables false

def S5 (w : World) (o : Nat) (u : Value) (a b c d : Int) : World :=
  ((((w.setCell ⟨o, 0, none⟩ u).setCell ⟨o, 1, none⟩ (.int .i64 a)).setCell ⟨o, 2, none⟩ (.int .i64 b)).setCell ⟨o, 3, none⟩ (.int .i64 c)).setCell ⟨o, 4, none⟩ (.int .i64 d)
def slab0 : Array Value := #[.slice none 0 0, .int .i64 0, .int .i64 0, .int .i64 0, .int .i64 0]
theorem s5_block {w : World} {o : Nat} (h : w.heap[o]? = some (.cells slab0 204 (0, 0))) (u : Value) (a b c d : Int) : (S5 w o u a b c d).heap[o]? = some (.cells #[u, .int .i64 a, .int .i64 b, .int .i64 c, .int .i64 d] 204 (0, 0)) := by
  unfold S5
  have h1 := Hea.heap_setCell_own (o := 0) h u
  have h2 := Hea.heap_setCell_own (o := 1) h1 (.int .i64 a)
  have h3 := Hea.heap_setCell_own (o := 2) h2 (.int .i64 b)
  have h4 := Hea.heap_setCell_own (o := 3) h3 (.int .i64 c)
  exact (Hea.heap_setCell_own (o := 4) h4 (.int .i64 d)).trans (by simp [slab0])
/-- What the walk holds: the config's box, the result's. -/
structure RdV (w W : World) (S N : Nat) : Prop where
  b : Below w.heap.size w W
  c : W.heap[w.heap.size]? = some (.cells #[.int .i64 (S : Int), .int .i64 (N : Int)] 25 (0, 0))
  r : W.heap[w.heap.size + 1]? = some (.cells slab0 204 (0, 0))
theorem RdV.below {w W W' : World} {S N : Nat} (h : RdV w W S N) (hb : Below W.heap.size W W') : RdV w W' S N :=
  ⟨h.b.trans (hb.mono h.b.size), (hb.block _ (Array.getElem?_eq_some_iff.1 h.c).1).trans h.c, (hb.block _ (Array.getElem?_eq_some_iff.1 h.r).1).trans h.r⟩
theorem RdV.cells {w W : World} {S N : Nat} (h : RdV w W S N) : W.cell? ⟨w.heap.size, 0, none⟩ = some (.int .i64 (S : Int)) ∧ W.cell? ⟨w.heap.size, 1, none⟩ = some (.int .i64 (N : Int)) :=
  ⟨(cell_block h.c 0).trans rfl, (cell_block h.c 1).trans rfl⟩
theorem RdV.start (w : World) (S N : Nat) : RdV w ((w.alloc (.cells #[.int .i64 (S : Int), .int .i64 (N : Int)] 25)).alloc (.cells slab0 204)) S N := by
  have z1 : (w.alloc (.cells #[.int .i64 (S : Int), .int .i64 (N : Int)] 25)).heap.size = w.heap.size + 1 := Array.size_push _
  have b1 := below_made w (.cells #[.int .i64 (S : Int), .int .i64 (N : Int)] 25)
  have b2 := below_made (w.alloc (.cells #[.int .i64 (S : Int), .int .i64 (N : Int)] 25)) (.cells slab0 204)
  have n1 := heap_alloc_new w (.cells #[.int .i64 (S : Int), .int .i64 (N : Int)] 25)
  have n2 := heap_alloc_new (w.alloc (.cells #[.int .i64 (S : Int), .int .i64 (N : Int)] 25)) (.cells slab0 204)
  rw [z1] at n2
  exact ⟨b1.trans (b2.mono (by omega)), (b2.block _ (by omega)).trans n1, n2⟩
theorem headC_at {S N j : Nat} (hr : Lay.rightC (S : Int) (N : Int) = true) (hj : j < S) : Lay.headC (S : Int) (N : Int) (j : Int) = 128 + 16 * j := by
  rw [Lay.headC, if_pos ⟨hr, by omega, by omega⟩]
  rfl
set_option maxRecDepth 100000 in
set_option maxHeartbeats 4000000 in
theorem read_ok (u : Value) (l : List Int) (S N j : Nat) (w : World) (ht : Cls.Tab w) (hr : Row .u8 w u l) (hR : Lay.rightC (S : Int) (N : Int) = true) (hl : l.length = Lay.sizeT S N) (hj : j < S) :
    Calls Tryz.prog 177 #[.agg #[.int .i64 (S : Int), .int .i64 (N : Int)], u, .int .i64 (j : Int)] w fun e w' =>
      e = .returned (sV u (aT S N j : Int) (rd l (128 + 16 * j) 2) (rd l (128 + 16 * j + 2) 2) (rd l (128 + 16 * j + 4) 4)) ∧ Below w.heap.size w w' := by
  obtain ⟨q1, q2, q3, q4, q5⟩ := Lay.right_out hR
  have hC : (Lis.newCf S N).Ok := Lis.newCf_ok hR
  obtain ⟨b1, b2, b3, b4⟩ := Sla.ok_base hC
  change 128 + 16 * S ≤ Lay.baseT S N at b1
  change Lay.sizeT S N = Lay.baseT S N + 1024 * S at b3
  change Lay.sizeT S N ≤ 100000 at b4
  have HH := Lib.hid (fun (W : World) (hW : Below w.heap.size w W) => headC_at hR hj ▸ Lay.headAt_any (S : Int) (N : Int) (j : Int) W (tab_keep hW ht) (by omega) (by omega) (by omega) (by omega) (by omega) (by omega))
  have HS := Lib.hid (fun (W : World) (hW : Below w.heap.size w W) => Sla.slabC_at hR hj ▸ Lay.slabAt_any (S : Int) (N : Int) (j : Int) W (tab_keep hW ht) (by omega) (by omega) (by omega) (by omega) (by omega) (by omega))
  obtain ⟨hd, hhd⟩ : ∃ hd, hd = 128 + 16 * j := ⟨_, rfl⟩
  obtain ⟨h2, hh2⟩ : ∃ h2, h2 = hd + 2 := ⟨_, rfl⟩
  obtain ⟨h4, hh4⟩ : ∃ h4, h4 = hd + 4 := ⟨_, rfl⟩
  rw [← hhd] at HH ⊢
  have hn0 := fun (W : World) (hW : Below w.heap.size w W) => number_any u l hd 2 W (hr.mono hW (Nat.le_refl _)) (.inl rfl) (by omega) (by omega)
  have hn2 := fun (W : World) (hW : Below w.heap.size w W) => number_any u l h2 2 W (hr.mono hW (Nat.le_refl _)) (.inl rfl) (by omega) (by omega)
  have hn4 := fun (W : World) (hW : Below w.heap.size w W) => number_any u l h4 4 W (hr.mono hW (Nat.le_refl _)) (.inr rfl) (by omega) (by omega)
  rw [← hh2, ← hh4]
  generalize rd l hd 2 = x0 at hn0 ⊢
  generalize rd l h2 2 = x2 at hn2 ⊢
  generalize rd l h4 4 = x4 at hn4 ⊢
  have HN0 := Lib.hid hn0
  have HN2 := Lib.hid hn2
  have HN4 := Lib.hid hn4
  have hw0 : IntKind.i64.wrap (hd : Int) = (hd : Int) := wrap_id (by omega) (by omega)
  have hw1 : wrap64 (hd : Int) = (hd : Int) := IntWalk.wrap64_in _ (by omega)
  have hw2 : IntKind.i64.wrap ((hd : Int) + 2) = (h2 : Int) := (wrap_id (by omega) (by omega)).trans (by omega)
  have hw4 : IntKind.i64.wrap ((hd : Int) + 4) = (h4 : Int) := (wrap_id (by omega) (by omega)).trans (by omega)
  generalize aT S N j = B at HS ⊢
  obtain ⟨pp, cc, rfl, -⟩ := hr
  have HV2 := Lib.hid (RdV.start w S N)
  obtain ⟨c0, c1⟩ := HV2.out.cells
  unfold slab0 at HV2 c0 c1
  unfold sV
  clear hn0 hn2 hn4 hhd hh2 hh4 q1 q2 q3 q4 q5 hC b1 b2 b3 b4 hR hl hj ht
  go_enter Tryz.func177, Tryz.ntmps177
  go_wp2_with fail
  refine (HH.out _ HV2.out.b).mono ?_
  rintro e w3 ⟨rfl, hb⟩
  have HV3 := Lib.hid (HV2.out.below hb)
  clear hb c0 c1 HV2
  obtain ⟨c0, c1⟩ := HV3.out.cells
  go_wp2_with fail
  refine (HS.out _ HV3.out.b).mono ?_
  rintro e w4 ⟨rfl, hb⟩
  have HV4 := Lib.hid (HV3.out.below hb)
  clear hb c0 c1 HV3
  go_wp2_with fail
  refine (HN0.out _ HV4.out.b).mono ?_
  rintro e w5 ⟨rfl, hb⟩
  have HV5 := Lib.hid (HV4.out.below hb)
  clear hb HV4
  go_wp2_with fail
  refine (HN2.out _ HV5.out.b).mono ?_
  rintro e w6 ⟨rfl, hb⟩
  have HV6 := Lib.hid (HV5.out.below hb)
  clear hb HV5
  go_wp2_with fail
  refine (HN4.out _ HV6.out.b).mono ?_
  rintro e w7 ⟨rfl, hb⟩
  have HV7 := Lib.hid (HV6.out.below hb)
  clear hb HV6
  have hk1 := HV7.out.r
  have f0 : w7.frozen? ⟨w.heap.size + 1, 0, none⟩ = false := by simp [World.frozen?, hk1]
  have f1 : w7.frozen? ⟨w.heap.size + 1, 1, none⟩ = false := by simp [World.frozen?, hk1]
  have f2 : w7.frozen? ⟨w.heap.size + 1, 2, none⟩ = false := by simp [World.frozen?, hk1]
  have f3 : w7.frozen? ⟨w.heap.size + 1, 3, none⟩ = false := by simp [World.frozen?, hk1]
  have f4 : w7.frozen? ⟨w.heap.size + 1, 4, none⟩ = false := by simp [World.frozen?, hk1]
  have d0 : w7.cell? ⟨w.heap.size + 1, 0, none⟩ = some (.slice none 0 0) := (cell_block hk1 0).trans rfl
  have d1 : w7.cell? ⟨w.heap.size + 1, 1, none⟩ = some (.int .i64 0) := (cell_block hk1 1).trans rfl
  have d2 : w7.cell? ⟨w.heap.size + 1, 2, none⟩ = some (.int .i64 0) := (cell_block hk1 2).trans rfl
  have d3 : w7.cell? ⟨w.heap.size + 1, 3, none⟩ = some (.int .i64 0) := (cell_block hk1 3).trans rfl
  have d4 : w7.cell? ⟨w.heap.size + 1, 4, none⟩ = some (.int .i64 0) := (cell_block hk1 4).trans rfl
  have hQ := s5_block hk1 (.slice pp l.length cc) (B : Int) x0 x2 x4
  have HQ : Hid ((S5 w7 (w.heap.size + 1) (.slice pp l.length cc) (B : Int) x0 x2 x4).heap[w.heap.size + 1]? = _) := hQ
  have HBz : Hid (Below w.heap.size w (S5 w7 (w.heap.size + 1) (.slice pp l.length cc) (B : Int) x0 x2 x4)) := by
    unfold S5
    exact ((((HV7.out.b.setCell (show w.heap.size ≤ w.heap.size + 1 by omega) _).setCell (show w.heap.size ≤ w.heap.size + 1 by omega) _).setCell (show w.heap.size ≤ w.heap.size + 1 by omega) _).setCell (show w.heap.size ≤ w.heap.size + 1 by omega) _).setCell (show w.heap.size ≤ w.heap.size + 1 by omega) _
  clear hQ hk1
  go_wp2
  show bodyPost _ _ _ _ _ (S5 w7 (w.heap.size + 1) (.slice pp l.length cc) (B : Int) x0 x2 x4)
  generalize S5 w7 (w.heap.size + 1) (.slice pp l.length cc) (B : Int) x0 x2 x4 = W at HQ HBz ⊢
  have hq := HQ.out
  have q0 : W.cell? ⟨w.heap.size + 1, 0, none⟩ = some (.slice pp l.length cc) := (cell_block hq 0).trans rfl
  have q1 : W.cell? ⟨w.heap.size + 1, 1, none⟩ = some (.int .i64 (B : Int)) := (cell_block hq 1).trans rfl
  have q2 : W.cell? ⟨w.heap.size + 1, 2, none⟩ = some (.int .i64 x0) := (cell_block hq 2).trans rfl
  have q3 : W.cell? ⟨w.heap.size + 1, 3, none⟩ = some (.int .i64 x2) := (cell_block hq 3).trans rfl
  have q4 : W.cell? ⟨w.heap.size + 1, 4, none⟩ = some (.int .i64 x4) := (cell_block hq 4).trans rfl
  refine bodyPost_ret (v := .agg #[.slice pp l.length cc, .int .i64 (B : Int), .int .i64 x0, .int .i64 x2, .int .i64 x4]) (by simp [results, Tryz.results177, go_sem, q0, q1, q2, q3, q4]) rfl ⟨rfl, HBz.out⟩
end Go.Proofs.YtlcnhnhpaddkfaaGreatDoor.Reg

namespace Go.Proofs.YtlcnhnhpaddkfaaGreatDoor.Reg
open Go.RowKit
open Cls (szC blC pdC)
open Sla (pl aT Sl bl_in bl_apart)
open Mem (rd)
set_option linter.unusedVariables false

/-- The runs of a slab. -/
theorem blC_some {c : Int} (h : 1 ≤ c) (h9 : c ≤ 9) : 1 ≤ blC c := by
  have hz : ¬ szC c = 0 := fun e => by have := Cls.szC_zero.1 e; omega
  have := Cls.blC_pos hz
  omega
set_option maxRecDepth 100000 in
theorem runs_ok (u : Value) (l : List Int) (A : Nat) (cl lv fr : Int) (P : List RZ) (w : World) (ht : Cls.Tab w) (hr : Row .u8 w u l) (hA : A + 1024 ≤ l.length) (hA16 : A % 16 = 0) (hl : l.length ≤ 1000000) (hc0 : 0 ≤ cl)
    (hP : slR l A cl lv fr = some P) : Calls Tryz.prog 178 #[sV u (A : Int) cl lv fr] w (ROk w P) := by
  obtain ⟨p, c, rfl, h2, h3, h4, h5⟩ := id hr
  obtain ⟨hc, hlt, hb⟩ := box_slab w (u := .slice p l.length c) rfl (A : Int) cl lv fr
  obtain ⟨c0, c1, c2, c3, c4⟩ := hc _ (Below.refl _ _)
  unfold slR at hP
  by_cases h9 : 9 < cl
  · rw [if_pos h9] at hP; cases hP
  rw [if_neg h9] at hP
  by_cases h0 : cl = 0
  · rw [if_pos h0] at hP
    split at hP
    · rename_i hh
      obtain ⟨rfl, rfl, hz⟩ := hh
      injection hP with hP
      subst h0
      have hW := whole_ok (.slice p l.length c) l A (w.alloc (sB (.slice p l.length c) (A : Int) 0 0 0)) (hr.mono hb (Nat.le_refl _)) hA hl hz
      rw [hP] at hW
      have HW := Lib.hid hW
      unfold sV at HW ⊢
      unfold sB at HW c0 c1 c2 c3 c4 hb
      clear hW hP hc h4 h5 hr hz
      go_enter Tryz.func178, Tryz.ntmps178
      go_wp2_with fail
      refine HW.out.mono ?_
      rintro e w1 ⟨u1, rfl, hb1, hz1⟩
      have HB := Lib.hid (hb.trans (hb1.mono hb.size))
      have HZ := Lib.hid hz1
      clear hb1 hz1
      go_wp2
      go_ret2
      exact ⟨_, rfl, HB.out, HZ.out⟩
    · cases hP
  · rw [if_neg h0] at hP
    cases hf : flw l A cl (blC cl + 1) fr [] with
    | none => rw [hf] at hP; cases hP
    | some F =>
      rw [hf] at hP
      simp only at hP
      split at hP
      · cases hP
      · rename_i hh
        injection hP with hP
        have hF : F.length ≠ blC cl := fun q => hh (.inl q)
        have hlv : lv = ((blC cl - F.length : Nat) : Int) := Classical.byContradiction fun q => hh (.inr q)
        have hD := divided_ok (.slice p l.length c) l A cl lv fr F (w.alloc (sB (.slice p l.length c) (A : Int) cl lv fr)) (tab_keep hb ht) (hr.mono hb (Nat.le_refl _)) hA hA16 hl hf hF hlv (blC_some (by omega) (by omega))
        rw [hP] at hD
        have HW := Lib.hid hD
        have h0' : (cl == 0) = false := by simp [h0]
        unfold sV at HW ⊢
        unfold sB at HW c0 c1 c2 c3 c4 hb
        clear hD hP hc h4 h5 hr hf hF hlv hh h0
        go_enter Tryz.func178, Tryz.ntmps178
        go_wp2_with fail
        refine HW.out.mono ?_
        rintro e w1 ⟨u1, rfl, hb1, hz1⟩
        have HB := Lib.hid (hb.trans (hb1.mono hb.size))
        have HZ := Lib.hid hz1
        clear hb1 hz1
        go_wp2
        go_ret2
        exact ⟨_, rfl, HB.out, HZ.out⟩
end Go.Proofs.YtlcnhnhpaddkfaaGreatDoor.Reg

namespace Go.Proofs.YtlcnhnhpaddkfaaGreatDoor.Lay
open Go.RowKit
set_option linter.unusedVariables false

set_option maxRecDepth 100000 in
set_option maxHeartbeats 2000000 in
theorem runs_row (s n : Int) (w : World) (ht : Cls.Tab w) (s1 : -9223372036854775808 ≤ s) (s2 : s ≤ 9223372036854775807) (n1 : -9223372036854775808 ≤ n) (n2 : n ≤ 9223372036854775807) :
    Calls Tryz.prog 126 #[.agg #[.int .i64 s, .int .i64 n]] w fun e w' => ∃ u, e = .returned u ∧ Below w.heap.size w w' ∧ w'.ownsRow w.heap.size 67 3 u (Lay.runsC s n).length (valsA Lay.encR (Lay.runsC s n)) := by
  obtain ⟨i0, hi, hz0, hz1, hz2⟩ := info_parts infoRun
  obtain ⟨P, hP, hl, HP⟩ := parts_on s n w ht s1 s2 n1 n2
  rw [← keepT_all s n, ← hP]
  obtain ⟨c1, c2, hlt1, hb⟩ := one_box (Below.refl (W1 w s n).heap.size (W1 w s n))
  unfold W1 at c1 c2 hlt1 hb
  have HI := Lib.hid (fun (k : Nat) (hk : k < 6) x1 x2 x3 he u => index_part P hl (k : Int) k rfl hk x1 x2 x3 he u)
  clear ht s1 s2 n1 n2 hP
  go_enter Tryz.func126, Tryz.ntmps126
  go_wp2_with (go_at_call 129; refine (HP.out _ hb).mono ?_; rintro e w1 ⟨rfl, hw1⟩)
  go_loopw [3, 8] (fun v i wr => ∃ (k : Nat) (K : List (Nat × Nat × Nat)), k ≤ 6 ∧ i = .int .i64 k ∧ Hid (K = keepT P k) ∧ Hid (wr.ownsRow w.heap.size 67 3 v K.length (valsA encR K)) ∧ Hid (Below w.heap.size w wr)) (fun _ i _ => 6 - (intOf i).toNat)
  case atStart => exact ⟨0, [], Nat.zero_le _, rfl, (keepT_zero P).symm, ⟨rfl, .inl ⟨rfl, rfl⟩⟩, hw1⟩
  case round =>
    obtain ⟨k, K, hk, rfl, HK, HO, HB⟩ := hrel
    by_cases hlt : k < 6
    · have hlt1 : (k : Int) < 6 := by omega
      have hsu := keepT_succ P k (by omega)
      have hkl := keepT_length P k
      obtain ⟨x, hx⟩ : ∃ x, x = P.getD k (0, 0, 0) := ⟨_, rfl⟩
      rw [← hx, ← HK.out] at hsu
      rw [← HK.out] at hkl
      obtain ⟨x1, x2, x3⟩ := x
      have hix := HI.out k hlt x1 x2 x3 hx.symm
      by_cases hp : 0 < x2
      · have hp1 : (0 : Int) < (x2 : Int) := by omega
        rw [if_pos hp] at hsu
        have HSU := Lib.hid hsu
        clear hsu hx
        go_wp2_with (at_builtin; refine wpList_append_own _ rfl (.tmp 14) (.tmp 16) 53 rfl w.heap.size 67 i0 (.agg #[.int .i64 0, .int .i64 0, .int .i64 0]) 3 24 Tryz.underlying53 hi hz0 hz1 hz2 rfl (by decide) _ _ _ rfl ((HO.out.alloc _).alloc _) ⟨wr.heap.size + 1, 0, none⟩ 1 1 [.int .i64 (x1 : Int), .int .i64 (x2 : Int), .int .i64 (x3 : Int)] rfl rfl (news_three_at _ _ (size_alloc _ _).symm _ _ _ _) (oneCell_three _ _ _) (by unfold maxLen; omega) (by omega) (by have := HB.out.size; simp; omega) ?_)
        intro v3 w3 hown3 hgrow3 _
        have HB3 := Lib.hid (((HB.out.alloc HB.out.size (.cells #[.int .i64 (x1 : Int), .int .i64 (x2 : Int), .int .i64 (x3 : Int)] 67)).alloc (le_alloc _ HB.out.size) (.cells #[.int .i64 (x1 : Int), .int .i64 (x2 : Int), .int .i64 (x3 : Int)] 67)).grown hgrow3 (by have := HB.out.size; simp; omega) (fun r hr => (HO.out.lt r hr).1))
        have HO3 : Hid (w3.ownsRow w.heap.size 67 3 v3 (K ++ [(x1, x2, x3)]).length (valsA encR (K ++ [(x1, x2, x3)]))) := by
          unfold Hid
          rw [valsA_snoc, List.length_append]
          exact hown3
        have HSU2 := Lib.hid HSU.out.symm
        clear hown3 hgrow3 HSU HO HB
        go_wp2
        go_roundw
        case rel => exact ⟨k + 1, K ++ [(x1, x2, x3)], by omega, by go_num, HSU2, HO3, HB3⟩
        case measure => simp [intOf]; omega
      · have hp1 : ¬ (0 : Int) < (x2 : Int) := by omega
        rw [if_neg hp] at hsu
        have HSU := Lib.hid hsu.symm
        have HO1 := Lib.hid (HO.out.alloc (.cells #[.int .i64 (x1 : Int), .int .i64 (x2 : Int), .int .i64 (x3 : Int)] 67))
        have HB1 := Lib.hid (HB.out.alloc HB.out.size (.cells #[.int .i64 (x1 : Int), .int .i64 (x2 : Int), .int .i64 (x3 : Int)] 67))
        clear hsu hx
        go_wp2
        go_roundw
        case rel => exact ⟨k + 1, K, by omega, by go_num, HSU, HO1, HB1⟩
        case measure => simp [intOf]; omega
    · obtain rfl : k = 6 := by omega
      go_wp2
      go_ret
      have := HK.out
      subst this
      exact ⟨_, rfl, HB.out, HO.out⟩
end Go.Proofs.YtlcnhnhpaddkfaaGreatDoor.Lay
namespace Go.Proofs.YtlcnhnhpaddkfaaGreatDoor.Reg
open Go.RowKit
open Cls (szC blC pdC)
open Sla (pl aT Sl bl_in bl_apart)
open Mem (rd)
set_option linter.unusedVariables false

def cstR (r : Nat × Nat × Nat) : RZ := ((r.1 : Int), (r.2.1 : Int), (r.2.2 : Int))
theorem vals_cst (P : List (Nat × Nat × Nat)) : valsA Lay.encR P = valsA encZ (P.map cstR) := by
  induction P with
  | nil => rfl
  | cons x P ih =>
    have e1 : valsA Lay.encR (x :: P) = Lay.encR x ++ valsA Lay.encR P := by simp [valsA]
    have e2 : valsA encZ ((x :: P).map cstR) = encZ (cstR x) ++ valsA encZ (P.map cstR) := by simp [valsA]
    rw [e1, e2, ih]
    rfl
/-- All but the last. -/
theorem own_cut {w : World} {base n g cap : Nat} {t : TypeId} {P : List RZ} {r : RZ} (h : w.ownsRow base t 3 (.slice (some ⟨g, 0, none⟩) n cap) n (valsA encZ (P ++ [r]))) (hn : n = P.length + 1) :
    w.ownsRow base t 3 (.slice (some ⟨g, 0, none⟩) P.length cap) P.length (valsA encZ P) := by
  obtain ⟨h1, h2⟩ := h
  have hl := valsA_length (k := 3) (enc := encZ) encZ_length P
  rcases h2 with ⟨e, h0⟩ | ⟨g', cap', cur, e, hg, hh, hle, hm, hsz, htk⟩
  · cases e
  · injection e with e1 e2 e3
    injection e1 with e1
    injection e1 with e1
    subst e1 e3
    refine ⟨hl, .inr ⟨g, cap, cur, rfl, hg, hh, by omega, hm, hsz, ?_⟩⟩
    rw [valsA_snoc] at htk
    have h3 := congrArg (List.take (P.length * 3)) htk
    rw [List.take_take, Nat.min_eq_left (by omega), ← hl, List.take_left] at h3
    rw [← hl]
    exact h3
theorem slR_ne {l : List Int} {A : Nat} {cl lv fr : Int} {P : List RZ} (hc0 : 0 ≤ cl) (h : slR l A cl lv fr = some P) : P ≠ [] := by
  unfold slR at h
  split at h
  · cases h
  · split at h
    · split at h
      · injection h with h; rw [← h]; simp
      · cases h
    · split at h
      · cases h
      · split at h
        · cases h
        · injection h with h
          rw [← h]
          have := blC_some (c := cl) (by omega) (by omega)
          intro q
          have q2 := congrArg List.length q
          unfold dvR at q2
          rw [List.length_append, List.length_map, List.length_range] at q2
          simp at q2
          omega
theorem zrow_news {w : World} {b o n c : Nat} {P : List RZ} (h : ZRow w (.slice (some ⟨b, o, none⟩) n c) P) : ∀ j v, (valsA encZ P)[j]? = some v → w.cell? ((⟨b, o, none⟩ : Addr).add j) = some v := by
  intro j v hj
  obtain ⟨hlt, -⟩ := List.getElem?_eq_some_iff.1 hj
  rw [valsA_length (k := 3) encZ_length] at hlt
  have e := valsA_get (k := 3) encZ_length rz0 P (j / 3) (by omega) (j % 3) (by omega)
  rw [show j / 3 * 3 + j % 3 = j by omega, hj] at e
  obtain ⟨a, cap, e1, h2, h3, h5⟩ := h
  obtain ⟨b', o', rfl, hl, hc⟩ := h5 (by rintro rfl; simp at hlt)
  injection e1 with e1
  injection e1 with e1
  injection e1 with e1 e2
  subst e1 e2
  have := hc (j / 3) (by omega) (j % 3) v e.symm
  rw [Addr_add]
  rw [show b = b from rfl]
  have h6 : o + j / 3 * 3 + j % 3 = o + j := by omega
  rw [h6] at this
  exact this
theorem zrow_one (P : List RZ) : ∀ u ∈ valsA encZ P, u.oneCell' = true := by
  intro u hu
  unfold valsA at hu
  obtain ⟨r, -, hr⟩ := List.mem_flatMap.1 hu
  exact Lay.oneCell_three r.1 r.2.1 r.2.2 u hr
theorem headR_len (S N : Nat) : (headR S N).length ≤ 5 := by
  unfold headR Lay.runsT
  rw [List.length_map, List.length_dropLast, List.length_append, List.length_append]
  split <;> simp
set_option maxRecDepth 100000 in
set_option maxHeartbeats 4000000 in
theorem survey_ok (u : Value) (l : List Int) (S N : Nat) (P : List RZ) (w : World) (ht : Cls.Tab w) (hr : Row .u8 w u l) (hR : Lay.rightC (S : Int) (N : Int) = true) (hl : l.length = Lay.sizeT S N) (hP : mapS S N l S = some P) :
    Calls Tryz.prog 111 #[.agg #[.int .i64 (S : Int), .int .i64 (N : Int)], u] w (ROk w (headR S N ++ P)) := by
  obtain ⟨i0, hi, hz0, hz1, hz2⟩ := info_parts Lay.infoRun
  obtain ⟨q1, q2, q3, q4, q5⟩ := Lay.right_out hR
  have hC : (Lis.newCf S N).Ok := Lis.newCf_ok hR
  obtain ⟨b1, b2, b3, b4⟩ := Sla.ok_base hC
  change 128 + 16 * S ≤ Lay.baseT S N at b1
  change Lay.baseT S N % 16 = 0 at b2
  change Lay.sizeT S N = Lay.baseT S N + 1024 * S at b3
  change Lay.sizeT S N ≤ 100000 at b4
  obtain ⟨w1, hw1⟩ : ∃ w1, w1 = w.alloc (.cells #[.int .i64 (S : Int), .int .i64 (N : Int)] 25) := ⟨_, rfl⟩
  have hb1 : Below w.heap.size w w1 := by rw [hw1]; exact below_made _ _
  have hbx : w1.heap[w.heap.size]? = some (.cells #[.int .i64 (S : Int), .int .i64 (N : Int)] 25 (0, 0)) := by rw [hw1]; exact heap_alloc_new _ _
  have hlt1 : w.heap.size < w1.heap.size := (Array.getElem?_eq_some_iff.1 hbx).1
  have HBox : Hid (∀ W, Below w1.heap.size w1 W → W.cell? ⟨w.heap.size, 0, none⟩ = some (.int .i64 (S : Int)) ∧ W.cell? ⟨w.heap.size, 1, none⟩ = some (.int .i64 (N : Int))) := fun W hW => by
    have := (hW.block _ hlt1).trans hbx
    exact ⟨(cell_block this 0).trans rfl, (cell_block this 1).trans rfl⟩
  have hru := Lay.runs_row (S : Int) (N : Int) w1 (tab_keep hb1 ht) (by omega) (by omega) (by omega) (by omega)
  have hrc : Lay.runsC (S : Int) (N : Int) = Lay.runsT S N := by rw [Lay.runsC, if_pos hR]; rfl
  obtain ⟨X, r, hX⟩ : ∃ X r, Lay.runsT S N = X ++ [r] := ⟨_, _, rfl⟩
  have hH : headR S N = X.map cstR := by unfold headR; rw [hX, List.dropLast_concat]; rfl
  rw [hrc, vals_cst, hX, List.map_append, List.length_append, List.length_singleton, ← hH] at hru
  have hXl : X.length = (headR S N).length := by rw [hH, List.length_map]
  rw [hXl] at hru
  have hhl := headR_len S N
  have HRu := Lib.hid hru
  have HRd := Lib.hid (fun (j : Nat) (W : World) (hW : Below w.heap.size w W) (hj : j < S) => read_ok u l S N j W (tab_keep hW ht) (hr.mono hW (Nat.le_refl _)) hR hl hj)
  have HRn := Lib.hid (fun (j : Nat) (Q : List RZ) (W : World) (hW : Below w.heap.size w W) (hj : j < S) (hQ : slJ S N l j = some Q) =>
    runs_ok u l (aT S N j) (rd l (128 + 16 * j) 2) (rd l (128 + 16 * j + 2) 2) (rd l (128 + 16 * j + 4) 4) Q W (tab_keep hW ht) (hr.mono hW (Nat.le_refl _)) (by unfold aT; omega) (by unfold aT; omega) (by omega) (rd_bd4 hr _ (.inl rfl)).1 hQ)
  have HLe : Hid (∀ j, j < S → ∃ P' Q, mapS S N l j = some P' ∧ slJ S N l j = some Q ∧ mapS S N l (j + 1) = some (P' ++ Q) ∧ Q.length ≤ 34 ∧ Q ≠ [] ∧ P'.length ≤ 34 * j) := fun j hj => by
    obtain ⟨T, hT⟩ := mapS_less hP (j + 1) (by omega)
    obtain ⟨P', Q, h1, h2, rfl⟩ := mapS_some hT
    exact ⟨P', Q, h1, h2, hT, slR_len h2, slR_ne (rd_bd4 hr _ (.inl rfl)).1 h2, mapS_len h1⟩
  have HP := Lib.hid hP
  have HB1 := Lib.hid hb1
  obtain ⟨c0, c1⟩ := HBox.out w1 (Below.refl _ _)
  generalize headR S N = H at HRu hhl ⊢
  obtain ⟨pp, cc, rfl, -⟩ := id hr
  have hS64 : S ≤ 64 := by omega
  unfold sV at HRd HRn
  generalize cstR r = rr at HRu
  clear hru hrc hX hH hXl hP hb1 hbx ht hr hR hl hC b1 b2 b3 b4 q1 q2 q3 q4 q5
  go_enter Tryz.func111, Tryz.ntmps111
  have HW1 := Lib.hid hw1
  clear hw1
  go_wp2_with fail
  rw [← HW1.out]
  refine HRu.out.mono ?_
  rintro e w2 ⟨v2, rfl, hb2, ho2⟩
  obtain ⟨g, cap, rfl, hcap⟩ := own_some ho2
  obtain ⟨hn, hhn⟩ : ∃ hn, hn = H.length := ⟨_, rfl⟩
  have ho3 := own_cut ho2 rfl
  have hw3 : IntKind.i64.wrap (((H.length + 1 : Nat) : Int) - 1) = (H.length : Int) := (wrap_id (by omega) (by omega)).trans (by omega)
  have hw4 : wrap64 (((H.length + 1 : Nat) : Int) - 1) = (H.length : Int) := (IntWalk.wrap64_in _ (by omega)).trans (by omega)
  have hcp1 : (H.length : Int) ≤ (cap : Int) := by omega
  have hcp0 : (0 : Int) ≤ (H.length : Int) := by omega
  have HO3 := Lib.hid ho3
  have HB2 := Lib.hid hb2
  clear ho2 ho3 hb2 c0 c1 hhn
  obtain ⟨c0, c1⟩ := HBox.out w2 HB2.out
  go_wp2_with fail
  go_loopw [7, 20] (fun v i wr => ∃ (j : Nat) (Q : List RZ), j ≤ S ∧ i = .int .i64 j ∧ Q.length ≤ 34 * j ∧ Hid (mapS S N l j = some Q) ∧ Hid (wr.ownsRow w1.heap.size 67 3 v (H ++ Q).length (valsA encZ (H ++ Q))) ∧ Hid (Below w1.heap.size w1 wr)) (fun _ i _ => S - (intOf i).toNat)
  case atStart => exact ⟨0, [], Nat.zero_le _, rfl, Nat.le_refl _, rfl, by simpa [Hid] using HO3.out, HB2.out⟩
  case round =>
    clear HO3 HB2 c0 c1 hw3 hw4 hcp1 hcp0
    obtain ⟨j, Q, hj, rfl, hQl, HQ, HO, HB⟩ := hrel
    obtain ⟨c0, c1⟩ := HBox.out wr HB.out
    by_cases hlt : j < S
    · have hlt2 : (j : Int) < (S : Int) := by omega
      have hjw : IntKind.i64.wrap ((j : Int) + 1) = ((j + 1 : Nat) : Int) := (wrap_id (by omega) (by omega)).trans (by omega)
      obtain ⟨P', T, hm1, hm2, hm3, hm4, hm5, hm6⟩ := HLe.out j hlt
      rw [HQ.out] at hm1
      injection hm1 with hm1
      subst hm1
      have HM3 := Lib.hid hm3
      have HRn2 := Lib.hid (fun (W : World) (hW : Below w.heap.size w W) => HRn.out j T W hW hlt hm2)
      have hbw := HB1.out.trans (HB.out.mono HB1.out.size)
      have hO := HO.out
      clear hm3 hm2 HQ HO
      go_wp2_with fail
      refine (HRd.out j _ hbw hlt).mono ?_
      rintro e w3 ⟨rfl, hb3⟩
      have hbw3 := hbw.trans (hb3.mono hbw.size)
      have hO3 := ownsRow_stays hO hb3
      have HB3 := Lib.hid (HB.out.trans (hb3.mono HB.out.size))
      clear hb3 hO hbw c0 c1
      obtain ⟨c0, c1⟩ := HBox.out w3 HB3.out
      go_wp2_with fail
      refine (HRn2.out _ hbw3).mono ?_
      rintro e w4 ⟨u4, rfl, hb4, hz4⟩
      have hO4 := ownsRow_stays hO3 hb4
      have HB4 := Lib.hid (HB3.out.trans (hb4.mono HB3.out.size))
      obtain ⟨a4, k4, rfl, -, -, hz5⟩ := id hz4
      obtain ⟨b4, o4, rfl, -, -⟩ := hz5 hm5
      have HZ := Lib.hid (zrow_news hz4)
      have hHQ : (H ++ Q).length ≤ 5 + 34 * j := by rw [List.length_append]; omega
      have hsz4 := HB4.out.size
      clear hb4 hO3 hz4 hz5 hbw3 HB3 c0 c1 hm5
      obtain ⟨hq, hhq⟩ : ∃ hq, hq = (H ++ Q).length := ⟨_, rfl⟩
      rw [← hhq] at hO4 hHQ
      have HHq := Lib.hid hhq
      clear hhq
      go_wp2_with (at_builtin; refine wpList_append_own _ rfl (.tmp 34) (.tmp 35) 53 rfl w1.heap.size 67 i0 (.agg #[.int .i64 0, .int .i64 0, .int .i64 0]) 3 24 Tryz.underlying53 hi hz0 hz1 hz2 rfl (by decide) _ _ _ rfl hO4 ⟨b4, o4, none⟩ T.length k4 (valsA encZ T) rfl (valsA_length (k := 3) encZ_length T) HZ.out (zrow_one T) (by unfold maxLen; omega) (by omega) hsz4 ?_)
      intro v5 w5 hown5 hgrow5 _
      have HN : Hid (w5.ownsRow w1.heap.size 67 3 v5 (H ++ (Q ++ T)).length (valsA encZ (H ++ (Q ++ T)))) := by
        unfold Hid
        rw [← List.append_assoc, show valsA encZ (H ++ Q ++ T) = valsA encZ (H ++ Q) ++ valsA encZ T by simp [valsA], List.length_append, ← HHq.out]
        exact hown5
      have HB5 := Lib.hid (HB4.out.grown hgrow5 hsz4 (fun r hr => (own_at hO4 r hr).1))
      have hQT : (Q ++ T).length ≤ 34 * (j + 1) := by rw [List.length_append]; omega
      clear hown5 hgrow5 hO4 HB4 hsz4
      go_wp2
      go_roundw
      case rel => exact ⟨j + 1, Q ++ T, by omega, by go_num, hQT, HM3.out, HN.out, HB5.out⟩
      case measure => simp [intOf]; omega
    · obtain rfl : j = S := by omega
      have hQP := HQ.out
      rw [HP.out] at hQP
      injection hQP with hQP
      subst hQP
      have HZ : Hid (ZRow wr u7 (H ++ P)) := arow_of_owns encZ_length rz0 HO.out rfl
      have hbw := HB1.out.trans (HB.out.mono HB1.out.size)
      go_wp2
      go_ret2
      exact ⟨_, rfl, hbw, HZ.out⟩
end Go.Proofs.YtlcnhnhpaddkfaaGreatDoor.Reg

namespace Go.Proofs.YtlcnhnhpaddkfaaGreatDoor.Reg
open Go.RowKit
open Cls (szC blC pdC)
open Mem (Mm MemC Hm rd blkM)
set_option linter.unusedVariables false

theorem as_nil (X : Value) (w : World) : Calls Tryz.prog 112 #[Value.nilIface, X] w fun e w' => e = .returned (.bool false) ∧ w = w' := by
  go_enter Tryz.func112, Tryz.ntmps112
  go_wp2
  go_ret
  exact ⟨rfl, rfl⟩
theorem made_any (h : Hm) (v : Value) (M : Mm) (w : World) (hm : MemC h w v M) : Calls Tryz.prog 110 #[v] w fun e w' => e = .returned (.bool true) ∧ Below w.heap.size w w' := by
  have HC := Lib.hid (Mem.config_any h v M w hm)
  have h7 := Hea.right7 hm.right
  obtain ⟨s, hs⟩ : ∃ s, s = M.s := ⟨_, rfl⟩
  obtain ⟨n, hn⟩ : ∃ n, n = M.n := ⟨_, rfl⟩
  rw [← hs, ← hn] at HC
  rw [← hs] at h7
  have hq : ∀ W, (Op.equalIn 10000 25 (.agg #[.int .i64 s, .int .i64 n]) (.agg #[.int .i64 0, .int .i64 0])).run Tryz.prog W = .ok false W := fun W => by
    rw [show (10000 : Nat) = 9999 + 1 from rfl, run_equalIn_struct W 9999 25 _ _ (by kernel_rfl) (by kernel_rfl)]
    go_simp
    intro e
    omega
  clear hm hs hn h7
  go_enter Tryz.func110, Tryz.ntmps110
  go_wp2_with fail
  refine HC.out.mono ?_
  rintro e w1 ⟨rfl, hb1⟩
  go_wp2
  go_ret
  exact ⟨rfl, hb1⟩
/-- Runs in new memory, and no error. -/
def MOk (w : World) (P : List RZ) (e : Ending) (w' : World) : Prop := ∃ u, e = .returned (.tuple #[u, .int .i64 0]) ∧ Below w.heap.size w w' ∧ ZRow w' u P
set_option maxRecDepth 100000 in
set_option maxHeartbeats 4000000 in
theorem map_ok (h : Hm) (v : Value) (M : Mm) (S N : Nat) (P : List RZ) (w : World) (hm : MemC h w v M) (ht : Cls.Tab w) (hs : M.s = (S : Int)) (hn : M.n = (N : Int)) (hP : mapS S N M.l S = some P) :
    Calls Tryz.prog 49 #[v] w (MOk w (joinZ (headR S N ++ P))) := by
  have hR := hm.right
  rw [hs, hn] at hR
  have hlen := hm.len
  rw [hs, hn] at hlen
  have hsz : Lay.sizeC (S : Int) (N : Int) = Lay.sizeT S N := by rw [Lay.sizeC, if_pos hR]; rfl
  rw [hsz] at hlen
  have HMd := Lib.hid (made_any h v M w hm)
  have hcf := fun (W : World) (hW : Below w.heap.size w W) => Mem.config_any h v M W (hm.below hW)
  rw [hs, hn] at hcf
  have HCf := Lib.hid hcf
  clear hcf
  have HIm := Lib.hid (fun (W : World) (hW : Below w.heap.size w W) => Mem.image_any h v M W (hm.below hW))
  have HSv := Lib.hid (fun (u : Value) (W : World) (hW : Below w.heap.size w W) (hr : Row .u8 W u M.l) => survey_ok u M.l S N P W (tab_keep hW ht) hr hR hlen hP)
  have hpl := mapS_len hP
  have hhl := headR_len S N
  have h64 := Mem.right_64 hR
  have hS := Lay.right_out hR
  have hJl : (headR S N ++ P).length ≤ 1000000 := by rw [List.length_append]; omega
  have HJ := Lib.hid (fun (u : Value) (W : World) (hz : ZRow W u (headR S N ++ P)) => joined_any u (headR S N ++ P) W hz hJl)
  clear hJl
  have HAs := Lib.hid as_nil
  generalize headR S N ++ P = R at HSv HJ ⊢
  obtain ⟨g, rfl⟩ : ∃ g, v = .pointer (some ⟨g, 0, none⟩) := ⟨_, hm.hv⟩
  clear hm hP hlen hsz hpl hhl h64 hS hR hs hn ht
  go_enter Tryz.func49, Tryz.ntmps49
  go_wp2_with fail
  refine HMd.out.mono ?_
  rintro e w1 ⟨rfl, hb1⟩
  have HB1 := Lib.hid hb1
  clear hb1
  go_wp2_with fail
  refine (HCf.out _ HB1.out).mono ?_
  rintro e w2 ⟨rfl, hb2⟩
  have HB2 := Lib.hid (HB1.out.trans (hb2.mono HB1.out.size))
  clear hb2
  go_wp2_with fail
  refine (HIm.out _ HB2.out).mono ?_
  rintro e w3 ⟨u3, rfl, hb3, hr3⟩
  have HB3 := Lib.hid (HB2.out.trans (hb3.mono HB2.out.size))
  have HR3 := Lib.hid hr3.1
  clear hb3 hr3
  obtain ⟨a3, k3, rfl, -⟩ := HR3.out
  go_wp2_with fail
  refine (HSv.out _ _ HB3.out HR3.out).mono ?_
  rintro e w4 ⟨u4, rfl, hb4, hz4⟩
  have HB4 := Lib.hid (HB3.out.trans (hb4.mono HB3.out.size))
  have hal := below_made w4 (.cells #[.string { data := #[] }] 149)
  have HZ4 := Lib.hid hz4
  clear hb4
  obtain ⟨a4, k4, rfl, -⟩ := hz4
  go_wp2_with fail
  refine (HAs.out _ _).mono ?_
  rintro e w5 ⟨rfl, rfl⟩
  go_wp2_with fail
  refine (HJ.out _ _ (HZ4.out.mono hal (Nat.le_refl _))).mono ?_
  rintro e w6 ⟨u6, rfl, hb6, ho6⟩
  have HB6 : Hid (Below w.heap.size w w6) := (HB4.out.trans (hal.mono HB4.out.size)).trans (hb6.mono (Nat.le_trans HB4.out.size hal.size))
  have HZ6 : Hid (ZRow w6 u6 _) := arow_of_owns encZ_length rz0 ho6 rfl
  clear hb6 ho6 hal
  go_wp2
  go_ret2
  exact ⟨_, rfl, HB6.out, HZ6.out⟩
end Go.Proofs.YtlcnhnhpaddkfaaGreatDoor.Reg

namespace Go.Proofs.YtlcnhnhpaddkfaaGreatDoor.Reg
open Go.RowKit
open Cls (szC blC pdC)
open Sla (pl aT lk Sl Lks FB SlabOk bl_in bl_apart)
open Mem (rd)
open Wat (Rn rl rl_good rl_block)
set_option linter.unusedVariables false

theorem good_nil {x : List Int} {p : Nat} (h : Wat.Good x p []) : p = 0 := by
  generalize hL : ([] : List Rn) = L at h
  cases h with
  | nil => rfl
  | snoc a b c d => simp at hL
theorem good_rl {x : List Int} {p : Nat} {L : List Rn} (h : Wat.Good x p L) : L = rl x p := by
  induction h with
  | nil => rfl
  | snoc h1 h2 h3 h4 ih =>
    rename_i p n L k
    obtain ⟨m, rfl⟩ : ∃ m, n = m + 1 := ⟨n - 1, by omega⟩
    have e0 : x.getD p 0 = k := by have := h3 0 (by omega); rwa [Nat.add_zero] at this
    have hp : p = 0 ∨ x.getD (p - 1) 0 ≠ x.getD p 0 := by
      rcases List.eq_nil_or_concat L with rfl | ⟨M, q, rfl⟩
      · exact .inl (good_nil h1)
      · right
        rw [List.concat_eq_append] at h1 h4
        obtain ⟨g1, g2, g3⟩ := h1.last (r := q) (by simp)
        have g4 := h4 q (by simp)
        have g5 := g3 (q.2.1 - 1) (by omega)
        rw [show q.1 + (q.2.1 - 1) = p - 1 by omega] at g5
        rw [g5, e0]
        exact g4
    have hb := rl_block x p m hp (fun j hj => by rw [h3 j (by omega), e0])
    rw [← ih, e0] at hb
    exact hb.symm
theorem good_inv {x : List Int} {p : Nat} {M : List Rn} {q : Rn} (h : Wat.Good x p (M ++ [q])) : Wat.Good x q.1 M ∧ 1 ≤ q.2.1 ∧ (∀ j, j < q.2.1 → x.getD (q.1 + j) 0 = q.2.2) ∧ (∀ r, M.getLast? = some r → r.2.2 ≠ q.2.2) ∧ p = q.1 + q.2.1 := by
  generalize hL : M ++ [q] = L at h
  cases h with
  | nil => simp at hL
  | snoc a b c d =>
    rename_i p' n' L' k'
    obtain ⟨h1, h2⟩ := List.append_inj' hL rfl
    injection h2 with h2
    subst h1 h2
    exact ⟨a, b, c, d, rfl⟩
/-- Runs one behind the other, each of one kind. -/
inductive Til (x : List Int) : Nat → List RZ → Prop
  | nil : Til x 0 []
  | snoc {p n : Nat} {P : List RZ} {k : Int} : Til x p P → 1 ≤ n → (∀ j, j < n → x.getD (p + j) 0 = k) → Til x (p + n) (P ++ [((p : Int), (n : Int), k)])
def cstW (r : Rn) : RZ := ((r.1 : Int), (r.2.1 : Int), r.2.2)
theorem joinZ_snoc (P : List RZ) (r : RZ) : joinZ (P ++ [r]) = jnZ (joinZ P) r := by
  unfold joinZ
  rw [List.foldl_append]
  rfl
theorem til_join {x : List Int} {p : Nat} {P : List RZ} (h : Til x p P) (hp : p ≤ 1000000) : ∃ L, joinZ P = L.map cstW ∧ Wat.Good x p L := by
  induction h with
  | nil => exact ⟨[], rfl, .nil⟩
  | snoc h1 h2 h3 ih =>
    rename_i p n P k
    obtain ⟨L, hL, hg⟩ := ih (by omega)
    rw [joinZ_snoc, hL]
    rcases List.eq_nil_or_concat L with rfl | ⟨M, q, rfl⟩
    · exact ⟨[(p, n, k)], rfl, Wat.Good.snoc hg h2 h3 (fun r hr => by simp at hr)⟩
    · rw [List.concat_eq_append] at hg ⊢
      obtain ⟨g1, g2, g3⟩ := hg.last (r := q) (by simp)
      rw [List.map_append, List.map_cons, List.map_nil, jnZ_snoc]
      by_cases hk : k = q.2.2
      · have hc : cnZ (cstW q) ((p : Int), (n : Int), k) = true := by
          rw [cnZ_iff, prZ_iff, prZ_iff]
          simp only [cstW]
          omega
        rw [if_pos hc]
        refine ⟨M ++ [(q.1, q.2.1 + n, q.2.2)], by simp [cstW], ?_⟩
        obtain ⟨a, b, c, d, e⟩ := good_inv hg
        have := Wat.Good.snoc (n := q.2.1 + n) (k := q.2.2) a (by omega) (fun j hj => by
          by_cases hjq : j < q.2.1
          · exact c j hjq
          · rw [← hk, show q.1 + j = p + (j - q.2.1) by omega]
            exact h3 _ (by omega)) d
        rw [show q.1 + (q.2.1 + n) = p + n by omega] at this
        exact this
      · have hc : cnZ (cstW q) ((p : Int), (n : Int), k) = false := by
          rw [Bool.eq_false_iff]
          intro q2
          obtain ⟨-, -, -, q3⟩ := cnZ_iff.1 q2
          exact hk q3
        rw [if_neg (by rw [hc]; decide)]
        refine ⟨M ++ [q] ++ [(p, n, k)], by simp [cstW], Wat.Good.snoc hg h2 h3 (fun r hr => ?_)⟩
        simp at hr
        rw [← hr]
        exact fun e => hk e.symm
end Go.Proofs.YtlcnhnhpaddkfaaGreatDoor.Reg

namespace Go.Proofs.YtlcnhnhpaddkfaaGreatDoor.Reg
open Go.RowKit
open Cls (szC blC pdC)
open Sla (pl aT lk Sl Lks FB SlabOk bl_in bl_apart St Sb Co)
open Mem (rd Hm)
open Lis (Cf)
set_option linter.unusedVariables false

theorem flw_free {l : List Int} {A : Nat} {c : Int} (hA : 0 < A) (hl : A + 1024 ≤ l.length) (hl2 : l.length ≤ 1000000) : ∀ (f seen : List Nat) (n : Nat), f.Nodup → (∀ k ∈ f, k < blC c ∧ k ∉ seen) → Lks l A c f → f.length + 1 ≤ n →
    flw l A c n (lk A c f : Int) seen = some (f.reverse ++ seen) := by
  intro f
  induction f with
  | nil =>
    intro seen n _ _ _ hn
    obtain ⟨m, rfl⟩ : ∃ m, n = m + 1 := ⟨n - 1, by simp at hn; omega⟩
    rw [flw, if_pos (by rfl)]
    rfl
  | cons k f ih =>
    intro seen n hnd hk hL hn
    obtain ⟨m, rfl⟩ : ∃ m, n = m + 1 := ⟨n - 1, by simp at hn; omega⟩
    obtain ⟨hk1, hk2⟩ := hk k (by simp)
    obtain ⟨hd1, hd2⟩ := List.nodup_cons.1 hnd
    have hin := bl_in hk1
    have hne : ((lk A c (k :: f) : Nat) : Int) ≠ 0 := by
      show ((pl A c k : Nat) : Int) ≠ 0
      unfold pl
      omega
    have hbf : lk A c f ≤ 1000000 := by
      cases f with
      | nil => show 0 ≤ 1000000; omega
      | cons i r =>
        have := bl_in (hk i (by simp)).1
        show pl A c i ≤ 1000000
        unfold pl
        omega
    have hrd : rd l (pl A c k + 4) 4 = (lk A c f : Int) := Sla.fb_rd hL.1 (by omega) (by unfold pl; omega) (by omega) (by omega)
    rw [flw, if_neg hne]
    show (match ixP A c ((pl A c k : Nat) : Int) with | none => none | some k => _) = _
    rw [ixP_at hk1]
    simp only
    rw [if_neg hk2, hrd, ih (k :: seen) m hd2 (fun i hi => ⟨(hk i (by simp [hi])).1, fun q => by
      rcases List.mem_cons.1 q with rfl | q
      · exact hd1 hi
      · exact (hk i (by simp [hi])).2 q⟩) hL.2 (by simp at hn; omega)]
    simp
/-- The runs of a slab. -/
def slT (A : Nat) (s : Sl) : List RZ := if s.c = 0 then [((A : Int), 1024, 7)] else dvR A s.c s.f.reverse
theorem slR_ok {l x : List Int} {A : Nat} {s : Sl} (d : SlabOk l x A s) (hA : 0 < A) (hl : A + 1024 ≤ l.length) (hl2 : l.length ≤ 1000000) (hv : s.c ≠ 0 → s.v ≠ []) :
    slR l A (s.c : Int) (s.v.length : Int) (lk A s.c s.f : Int) = some (slT A s) := by
  have hc9 := d.ok.c
  unfold slR slT
  rw [if_neg (by omega)]
  by_cases h0 : s.c = 0
  · have hb : blC (s.c : Int) = 0 := by rw [h0]; decide
    have hf : s.f = [] := by
      rcases List.eq_nil_or_concat s.f with q | ⟨M, k, q⟩
      · exact q
      · have := d.ok.lt k (by rw [q]; simp)
        omega
    have hv0 : s.v = [] := Sla.zero_v h0
    rw [if_pos (by rw [h0]; rfl), if_pos h0, hv0, hf, if_pos]
    refine ⟨rfl, rfl, zer_iff.2 fun i hi => ?_⟩
    exact (d.p (A + i) (by rw [hb]; omega) (by omega)).2
  · rw [if_neg (by omega), if_neg h0]
    have hfl := flw_free hA hl hl2 s.f [] (blC (s.c : Int) + 1) d.ok.nd (fun k hk => ⟨d.ok.lt k hk, by simp⟩) d.f (by have := d.ok.len; omega)
    rw [List.append_nil] at hfl
    rw [hfl]
    simp only
    have hln := d.ok.len
    have hvp := List.length_pos_iff.2 (hv h0)
    rw [if_neg]
    rw [List.length_reverse]
    omega
theorem til_blocks {x : List Int} {A : Nat} {c : Int} {F : List Nat} {P : List RZ} (hT : Til x A P) (hx : ∀ k, k < blC c → ∀ i, i < szC c → x.getD (pl A c k + i) 0 = if k ∈ F then 6 else 5) :
    ∀ k, k ≤ blC c → Til x (A + k * szC c) (P ++ blkL A c F k) := by
  intro k
  induction k with
  | zero => intro _; rw [Nat.zero_mul, Nat.add_zero, show blkL A c F 0 = [] from rfl, List.append_nil]; exact hT
  | succ k ih =>
    intro hk
    have hin := bl_in (show k < blC c by omega)
    have h1 := ih (by omega)
    rw [blkL_succ, ← List.append_assoc, show A + (k + 1) * szC c = (A + k * szC c) + szC c by rw [Nat.add_mul]; omega]
    exact Til.snoc h1 (by omega) (fun j hj => hx k (by omega) j hj)
theorem til_slab {l x : List Int} {A : Nat} {s : Sl} {P : List RZ} (d : SlabOk l x A s) (hT : Til x A P) : Til x (A + 1024) (P ++ slT A s) := by
  unfold slT
  by_cases h0 : s.c = 0
  · rw [if_pos h0]
    have hb : blC (s.c : Int) = 0 := by rw [h0]; decide
    exact Til.snoc (n := 1024) hT (by omega) (fun j hj => by
      have := (d.p (A + j) (by rw [hb]; omega) (by omega)).1
      rw [if_pos h0] at this
      exact this)
  · rw [if_neg h0]
    have hz : ¬ szC (s.c : Int) = 0 := fun e => by have := Cls.szC_zero.1 e; have := d.ok.c; omega
    have hpe := Sla.pd_end (s.c : Int) hz
    have h1 := til_blocks (F := s.f.reverse) hT (fun k hk i hi => by rw [d.k k hk i hi]; simp) (blC (s.c : Int)) (Nat.le_refl _)
    unfold dvR padR
    rw [← List.append_assoc]
    change Til x (A + 1024) (P ++ blkL A (s.c : Int) s.f.reverse (blC (s.c : Int)) ++ _)
    by_cases hp : 0 < pdC (s.c : Int)
    · rw [if_pos hp, show A + 1024 - pdC (s.c : Int) = A + blC (s.c : Int) * szC (s.c : Int) by omega, show A + 1024 = (A + blC (s.c : Int) * szC (s.c : Int)) + pdC (s.c : Int) by omega]
      exact Til.snoc h1 (by omega) (fun j hj => by
        have := (d.p (A + blC (s.c : Int) * szC (s.c : Int) + j) (by omega) (by omega)).1
        rw [if_neg h0] at this
        exact this)
    · rw [if_neg hp, List.append_nil, show A + 1024 = A + blC (s.c : Int) * szC (s.c : Int) by omega]
      exact h1
theorem til_head {x : List Int} {S N : Nat} (hS : 7 ≤ S) (hN : 32 * S ≤ N) (h2 : N % 2 = 0) (hx : ∀ t, t < Lay.baseT S N → x.getD t 0 = Mem.kindT S N t) : Til x (Lay.baseT S N) (headR S N) := by
  have hk : ∀ t, t < Lay.baseT S N → x.getD t 0 = if t < 8 then 1 else if t < 128 then 2 else if t < 128 + 16 * S then 3 else if t < 128 + 16 * S + 4 * N then 4 else 8 := fun t ht => by
    rw [hx t ht]
    unfold Mem.kindT Lay.slT Lay.endT
    by_cases q1 : t < 8
    · rw [if_pos q1, if_pos q1]
    rw [if_neg q1, if_neg q1]
    by_cases q2 : t < 128
    · rw [if_pos q2, if_pos q2]
    rw [if_neg q2, if_neg q2]
    by_cases q3 : t < 128 + 16 * S
    · rw [if_pos q3, if_pos q3]
    rw [if_neg q3, if_neg q3]
    by_cases q4 : t < 128 + 16 * S + 4 * N
    · rw [if_pos q4, if_pos q4]
    rw [if_neg q4, if_neg q4, if_pos ht]
  have he : Lay.endT S N = 128 + 16 * S + 4 * N := rfl
  have hp := Lay.pad_two (s := S) h2
  have hbt : Lay.baseT S N = Lay.endT S N + Lay.padT S N := rfl
  have t0 : Til x 0 [] := .nil
  have t1 := Til.snoc (n := 8) (k := 1) t0 (by omega) (fun j hj => by rw [hk _ (by omega), if_pos (by omega)])
  have t2 := Til.snoc (n := 120) (k := 2) t1 (by omega) (fun j hj => by rw [hk _ (by omega), if_neg (by omega), if_pos (by omega)])
  have t3 := Til.snoc (n := 16 * S) (k := 3) t2 (by omega) (fun j hj => by rw [hk _ (by omega), if_neg (by omega), if_neg (by omega), if_pos (by omega)])
  have t4 := Til.snoc (n := 4 * N) (k := 4) t3 (by omega) (fun j hj => by rw [hk _ (by omega), if_neg (by omega), if_neg (by omega), if_neg (by omega), if_pos (by omega)])
  rcases hp with ⟨-, hp⟩ | ⟨-, hp⟩
  · have e : headR S N = [(((0 : Nat) : Int), ((8 : Nat) : Int), (1 : Int)), (((0 + 8 : Nat) : Int), ((120 : Nat) : Int), 2), (((0 + 8 + 120 : Nat) : Int), ((16 * S : Nat) : Int), 3), (((0 + 8 + 120 + 16 * S : Nat) : Int), ((4 * N : Nat) : Int), 4)] := by
      unfold headR Lay.runsT
      rw [if_pos hp]
      simp [Lay.slT]
    rw [e, show Lay.baseT S N = 0 + 8 + 120 + 16 * S + 4 * N by omega]
    exact t4
  · have t5 := Til.snoc (n := 8) (k := 8) t4 (by omega) (fun j hj => by rw [hk _ (by omega), if_neg (by omega), if_neg (by omega), if_neg (by omega), if_neg (by omega)])
    have e : headR S N = [(((0 : Nat) : Int), ((8 : Nat) : Int), (1 : Int)), (((0 + 8 : Nat) : Int), ((120 : Nat) : Int), 2), (((0 + 8 + 120 : Nat) : Int), ((16 * S : Nat) : Int), 3), (((0 + 8 + 120 + 16 * S : Nat) : Int), ((4 * N : Nat) : Int), 4), (((0 + 8 + 120 + 16 * S + 4 * N : Nat) : Int), ((8 : Nat) : Int), 8)] := by
      unfold headR Lay.runsT
      rw [if_neg (by omega)]
      simp [Lay.slT, Lay.endT]
    rw [e, show Lay.baseT S N = 0 + 8 + 120 + 16 * S + 4 * N + 8 by omega]
    exact t5
/-- All slabs' runs. -/
def allT (S N : Nat) (T : List Sl) : Nat → List RZ
  | 0 => []
  | j + 1 => allT S N T j ++ slT (aT S N j) (T.getD j Sl.zero)
/-- What the map of such a memory is: what its watch says. -/
theorem st_map {h : Hm} {S N : Nat} {l0 l : List Int} {T : List Sl} {W : World} (d : St h S N l0 l T W) : ∃ M : Mem.Mm, Mem.MemC h W (Sla.pV h) M ∧ Cls.Tab W ∧ M.s = (S : Int) ∧ M.n = (N : Int) ∧ M.l = l ∧ M.ft = 0 ∧
    mapS S N l S = some (allT S N T S) ∧ Til M.x M.x.length (headR S N ++ allT S N T S) ∧ M.x.length ≤ 100000 := by
  obtain ⟨H, L, ⟨C, rfl, rfl, h3, h4, h5⟩, d2⟩ := d
  obtain ⟨b1, b2, b3, b4⟩ := Sla.ok_base h5.ok
  obtain ⟨q1, q2, q3, q4, q5⟩ := Lay.right_out h5.ok.right
  obtain ⟨ht, lk0, hm⟩ := id h4.m
  have key : ∀ j, j ≤ C.s → mapS C.s C.n l j = some (allT C.s C.n T j) ∧ Til C.x (Lay.baseT C.s C.n + 1024 * j) (headR C.s C.n ++ allT C.s C.n T j) := by
    intro j
    induction j with
    | zero => intro _; exact ⟨rfl, by rw [show allT C.s C.n T 0 = [] from rfl, List.append_nil, Nat.mul_zero, Nat.add_zero]; exact til_head (by omega) (by omega) (by omega) h5.xlow⟩
    | succ j ih =>
      intro hj
      obtain ⟨i1, i2⟩ := ih (by omega)
      have hh := h5.rep.head j (by omega)
      rw [d2.h j (by omega)] at hh
      simp only [] at hh
      have hsl := h5.sl j (by omega)
      have hr : slJ C.s C.n l j = some (slT (aT C.s C.n j) (T.getD j Sl.zero)) := by
        unfold slJ
        rw [Nat.add_zero] at hh
        rw [hh.1, hh.2.1, hh.2.2]
        exact slR_ok hsl (by unfold aT; omega) (by rw [h5.ll]; unfold aT; omega) (by rw [h5.ll]; omega) (d2.v j (by omega))
      refine ⟨?_, ?_⟩
      · rw [mapS, i1]
        simp only
        rw [hr]
        rfl
      · have := til_slab hsl (P := headR C.s C.n ++ allT C.s C.n T j) i2
        rw [List.append_assoc] at this
        rw [show Lay.baseT C.s C.n + 1024 * (j + 1) = aT C.s C.n j + 1024 by unfold aT; omega]
        exact this
  obtain ⟨k1, k2⟩ := key C.s (Nat.le_refl _)
  refine ⟨_, hm, h4.m.1.c, rfl, rfl, rfl, ?_, k1, ?_, ?_⟩
  · exact h3
  · show Til C.x C.x.length _
    rw [h5.xl, b3]
    exact k2
  · show C.x.length ≤ 100000
    rw [h5.xl]
    exact b4
end Go.Proofs.YtlcnhnhpaddkfaaGreatDoor.Reg

namespace Go.Proofs.YtlcnhnhpaddkfaaGreatDoor.Reg
open Go.RowKit
open Cls (szC blC pdC)
open Sla (pl aT lk Sl St Wd Ts pV)
open Mem (rd Hm blkM)
set_option linter.unusedVariables false

set_option maxRecDepth 100000 in
theorem sameZ_any (v1 v2 : Value) (P : List RZ) (w : World) (h1 : ZRow w v1 P) (h2 : ZRow w v2 P) :
    Calls Tryz.prog 28 #[v1, v2] w fun e w' => e = .returned (.bool true) ∧ ∃ m, w' = w.drewN m := by
  obtain ⟨a1, k1, rfl, q1, q2, g1⟩ := h1
  obtain ⟨a2, k2, rfl, -, -, g2⟩ := h2
  have G1 := Lib.hid g1
  have G2 := Lib.hid g2
  have hPl : (P.length : Int) ≤ 9223372036854775807 := by omega
  clear g1 g2
  go_enter Tryz.func28, Tryz.ntmps28
  go_wp2
  go_loopw [5] (fun i wr => ∃ k : Nat, k ≤ P.length ∧ i = .int .i64 k ∧ Hid (∃ m, wr = w.drewN m)) (fun i _ => P.length - (intOf i).toNat)
  case atStart => exact ⟨0, Nat.zero_le _, rfl, 0, rfl⟩
  case round =>
    obtain ⟨k, hk, rfl, HW⟩ := hrel
    by_cases hlt : k < P.length
    · have hlt1 : (k : Int) < (P.length : Int) := by omega
      have hlt0 : (0 : Int) ≤ (k : Int) := by omega
      have hbel := Lay.below_drawn (Below.refl w.heap.size w) HW.out
      obtain ⟨b1, o1, rfl, hb1, hc1⟩ := G1.out (by rintro rfl; simp at hlt)
      obtain ⟨b2, o2, rfl, hb2, hc2⟩ := G2.out (by rintro rfl; simp at hlt)
      have c1 : wr.cell? ⟨b1, o1 + k * 3, none⟩ = _ := (hbel.cell (p := ⟨b1, o1 + k * 3, none⟩) hb1).trans (hc1 k hlt 0 _ rfl)
      have c2 := (hbel.cell (p := ⟨b1, o1 + k * 3 + 1, none⟩) hb1).trans (hc1 k hlt 1 _ rfl)
      have c3 := (hbel.cell (p := ⟨b1, o1 + k * 3 + 2, none⟩) hb1).trans (hc1 k hlt 2 _ rfl)
      have c4 : wr.cell? ⟨b2, o2 + k * 3, none⟩ = _ := (hbel.cell (p := ⟨b2, o2 + k * 3, none⟩) hb2).trans (hc2 k hlt 0 _ rfl)
      have c5 := (hbel.cell (p := ⟨b2, o2 + k * 3 + 1, none⟩) hb2).trans (hc2 k hlt 1 _ rfl)
      have c6 := (hbel.cell (p := ⟨b2, o2 + k * 3 + 2, none⟩) hb2).trans (hc2 k hlt 2 _ rfl)
      obtain ⟨x, hx⟩ : ∃ x, x = P.getD k rz0 := ⟨_, rfl⟩
      rw [← hx] at c1 c2 c3 c4 c5 c6
      obtain ⟨x1, x2, x3⟩ := x
      simp only [] at c1 c2 c3 c4 c5 c6
      clear hc1 hc2 hx hbel
      go_wp2_with fail
      go_quiet (fail)
      go_wp2
      go_roundw
      case rel => exact ⟨k + 1, by omega, by go_num, Lay.drewN_more HW.out _⟩
      case measure => simp [intOf]; omega
    · obtain rfl : k = P.length := by omega
      go_wp2
      go_ret
      exact ⟨rfl, HW.out⟩

set_option maxRecDepth 100000 in
theorem equalZ_any (v1 v2 : Value) (P : List RZ) (w : World) (h1 : ZRow w v1 P) (h2 : ZRow w v2 P) :
    Calls Tryz.prog 113 #[v1, v2] w fun e w' => e = .returned (.bool true) ∧ ∃ m, w' = w.drewN m := by
  obtain ⟨a1, k1, rfl, q1, q2, g1⟩ := h1
  obtain ⟨a2, k2, rfl, -, -, g2⟩ := h2
  have G1 := Lib.hid g1
  have G2 := Lib.hid g2
  have hPl : (P.length : Int) ≤ 9223372036854775807 := by omega
  clear g1 g2
  go_enter Tryz.func113, Tryz.ntmps113
  go_wp2
  go_loopw [13] (fun i wr => ∃ k : Nat, k ≤ P.length ∧ i = .int .i64 k ∧ Hid (∃ m, wr = w.drewN m)) (fun i _ => P.length - (intOf i).toNat)
  case atStart => exact ⟨0, Nat.zero_le _, rfl, 0, rfl⟩
  case round =>
    obtain ⟨k, hk, rfl, HW⟩ := hrel
    by_cases hlt : k < P.length
    · have hlt1 : (k : Int) < (P.length : Int) := by omega
      have hlt0 : (0 : Int) ≤ (k : Int) := by omega
      have hbel := Lay.below_drawn (Below.refl w.heap.size w) HW.out
      obtain ⟨b1, o1, rfl, hb1, hc1⟩ := G1.out (by rintro rfl; simp at hlt)
      obtain ⟨b2, o2, rfl, hb2, hc2⟩ := G2.out (by rintro rfl; simp at hlt)
      have c1 : wr.cell? ⟨b1, o1 + k * 3, none⟩ = _ := (hbel.cell (p := ⟨b1, o1 + k * 3, none⟩) hb1).trans (hc1 k hlt 0 _ rfl)
      have c2 := (hbel.cell (p := ⟨b1, o1 + k * 3 + 1, none⟩) hb1).trans (hc1 k hlt 1 _ rfl)
      have c3 := (hbel.cell (p := ⟨b1, o1 + k * 3 + 2, none⟩) hb1).trans (hc1 k hlt 2 _ rfl)
      have c4 : wr.cell? ⟨b2, o2 + k * 3, none⟩ = _ := (hbel.cell (p := ⟨b2, o2 + k * 3, none⟩) hb2).trans (hc2 k hlt 0 _ rfl)
      have c5 := (hbel.cell (p := ⟨b2, o2 + k * 3 + 1, none⟩) hb2).trans (hc2 k hlt 1 _ rfl)
      have c6 := (hbel.cell (p := ⟨b2, o2 + k * 3 + 2, none⟩) hb2).trans (hc2 k hlt 2 _ rfl)
      obtain ⟨x, hx⟩ : ∃ x, x = P.getD k rz0 := ⟨_, rfl⟩
      rw [← hx] at c1 c2 c3 c4 c5 c6
      obtain ⟨x1, x2, x3⟩ := x
      simp only [] at c1 c2 c3 c4 c5 c6
      clear hc1 hc2 hx hbel
      go_wp2_with fail
      go_quiet (fail)
      go_wp2
      go_roundw
      case rel => exact ⟨k + 1, by omega, by go_num, Lay.drewN_more HW.out _⟩
      case measure => simp [intOf]; omega
    · obtain rfl : k = P.length := by omega
      go_wp2
      go_ret
      exact ⟨rfl, HW.out⟩

theorem zrow_of_row {w : World} {u : Value} {L : List Wat.Rn} (h : Wat.RowR w u L) : ZRow w u (L.map cstW) := by
  obtain ⟨a, cap, h1, h2, h3, h5⟩ := h
  refine ⟨a, cap, by rw [List.length_map]; exact h1, by rw [List.length_map]; exact h2, h3, fun hne => ?_⟩
  obtain ⟨b, off, e, hlt, hc⟩ := h5 (by rintro rfl; exact hne rfl)
  refine ⟨b, off, e, hlt, fun i hi j x hx => hc i (by rw [List.length_map] at hi; exact hi) j x ?_⟩
  rw [List.length_map] at hi
  have e2 : (L.map cstW).getD i rz0 = cstW (L.getD i (0, 0, 0)) := by simp [List.getD, hi]
  rw [e2] at hx
  exact hx
/-- The runs of such a memory, as its bytes tell them. -/
def stJ (S N : Nat) (T : List Sl) : List RZ := joinZ (headR S N ++ allT S N T S)
section
variable {h : Hm} {S N : Nat} {l0 l : List Int} {T : List Sl} {W : World}
theorem st_map_any (d : St h S N l0 l T W) : Calls Tryz.prog 49 #[pV h] W (MOk W (stJ S N T)) := by
  obtain ⟨M, h1, h2, h3, h4, h5, h6, h7, -, -⟩ := st_map d
  exact map_ok h (pV h) M S N _ W h1 h2 h3 h4 (by rw [h5]; exact h7)
theorem st_runs_any (d : St h S N l0 l T W) : Calls Tryz.prog 29 #[pV h] W fun e W' => ∃ u, e = .returned u ∧ ZRow W' u (stJ S N T) ∧ Below W.heap.size W W' := by
  obtain ⟨M, h1, h2, h3, h4, h5, h6, h7, h8, h9⟩ := st_map d
  obtain ⟨L, hL, hg⟩ := til_join h8 (by omega)
  rw [good_rl hg] at hL
  refine (Mem.runs_any h (pV h) M W h1).mono ?_
  rintro e W' ⟨u, rfl, hr, hb⟩
  refine ⟨u, rfl, ?_, hb⟩
  have := zrow_of_row hr
  rw [← hL] at this
  exact this
theorem agree_any (d : St h S N l0 l T W) : Calls Tryz.prog 50 #[pV h] W fun e W' => e = .returned (.bool true) ∧ Below W.heap.size W W' := by
  have HM := Lib.hid (st_map_any d)
  have HR := Lib.hid (fun W' (hb : Below W.heap.size W W') => st_runs_any (d.below hb))
  have HE := Lib.hid (fun v1 v2 W' h1 h2 => equalZ_any v1 v2 (stJ S N T) W' h1 h2)
  generalize stJ S N T = J at HM HR HE
  unfold pV at *
  clear d
  go_enter Tryz.func50, Tryz.ntmps50
  go_wp2_with fail
  refine HM.out.mono ?_
  rintro e w1 ⟨u1, rfl, hb1, hz1⟩
  have HB1 := Lib.hid hb1
  have HZ1 := Lib.hid hz1
  obtain ⟨a1, k1, rfl, -⟩ := hz1
  clear hb1
  go_wp2_with fail
  refine (HR.out _ HB1.out).mono ?_
  rintro e w2 ⟨u2, rfl, hz2, hb2⟩
  have HB2 := Lib.hid (HB1.out.trans (hb2.mono HB1.out.size))
  have HZ2 := Lib.hid hz2
  have HZ3 := Lib.hid (HZ1.out.mono hb2 (Nat.le_refl _))
  obtain ⟨a2, k2, rfl, -⟩ := hz2
  clear hb2 HZ1
  go_wp2_with fail
  refine (HE.out _ _ _ HZ3.out HZ2.out).mono ?_
  rintro e w3 ⟨rfl, hm3⟩
  have HB3 := Lib.hid (Lay.below_drawn HB2.out hm3)
  clear hm3
  go_wp2
  go_ret
  exact ⟨rfl, HB3.out⟩
end
def X9 : List Sl := (Sla.tkF 7 224 Sla.X0 9).2
theorem ex9 : (Sla.tkF 7 224 Sla.X0 9).1 = (1136, 0) := by kernel_rfl
def exJ : List RZ := [(0, 8, 1), (8, 120, 2), (128, 112, 3), (240, 896, 4), (1136, 512, 5), (1648, 512, 6), (2160, 6144, 7)]
theorem exJ9 : stJ 7 224 X9 = exJ := by kernel_rfl
theorem exTil : tilZ 8304 exJ 0 = true := by decide
theorem exAt : atZ 1136 exJ = 5 := by decide
set_option maxRecDepth 100000 in
set_option maxHeartbeats 4000000 in
theorem maps_any (w : World) (ht : Ts w) : Calls Tryz.prog 41 #[] w fun e w' => e = .returned (.bool true) ∧ Below w.heap.size w w' := by
  have HN := Lib.hid (Sla.start_any 7 224 w (by decide) ht)
  have tk := fun h l0 l W (d : St h 7 224 l0 l Sla.X0 W) => d.take 9
  simp only [ex9] at tk
  have H1 : Hid (∀ h n l0 l W, Wd w h n 7 224 l0 l Sla.X0 W → Calls Tryz.prog 16 #[pV h, .int .i64 9] W fun e W' => e = .returned (.tuple #[.int .i64 1136, .int .i64 0]) ∧ ∃ l', Wd w h n 7 224 l0 l' X9 W') := fun h n l0 l W d => by
    refine (tk h l0 l W d.st).mono ?_
    rintro e W' ⟨l', he, hs, hf, -⟩
    exact ⟨he, l', d.fr hs hf⟩
  have HM := Lib.hid (fun h n l0 l W (d : Wd w h n 7 224 l0 l X9 W) => exJ9 ▸ st_map_any d.st)
  have HA := Lib.hid (fun h n l0 l W (d : Wd w h n 7 224 l0 l X9 W) => agree_any d.st)
  have HT := Lib.hid (fun v W (hz : ZRow W v exJ) => exTil ▸ tiles_any v exJ 8304 W hz)
  have HAt := Lib.hid (fun v W (hz : ZRow W v exJ) => exAt ▸ at_any v exJ 1136 W hz)
  have HCe : Hid (∀ W p k, ZRow W (.slice p 7 k) exJ → ∃ b o, p = some ⟨b, o, none⟩ ∧ b < W.heap.size ∧ (∀ W', Below W.heap.size W W' → (W'.cell? ⟨b, o + 12, none⟩ = some (.int .i64 1136) ∧ W'.cell? ⟨b, o + 13, none⟩ = some (.int .i64 512) ∧ W'.cell? ⟨b, o + 14, none⟩ = some (.int .i64 5)) ∧ (W'.cell? ⟨b, o + 15, none⟩ = some (.int .i64 1648) ∧ W'.cell? ⟨b, o + 16, none⟩ = some (.int .i64 512) ∧ W'.cell? ⟨b, o + 17, none⟩ = some (.int .i64 6)) ∧ W'.cell? ⟨b, o + 19, none⟩ = some (.int .i64 6144))) := fun W p k hz => by
    have hz' := hz
    obtain ⟨a, c, e, h2, h3, h5⟩ := hz
    injection e with e1 _ _
    subst e1
    obtain ⟨b, o, rfl, hlt, hc⟩ := h5 (by simp [exJ])
    refine ⟨b, o, rfl, hlt, fun W' hb => ?_⟩
    have key := fun i v (hv : W.cell? ⟨b, o + i, none⟩ = some v) => (hb.cell (p := ⟨b, o + i, none⟩) hlt).trans hv
    exact ⟨⟨key 12 _ (hc 4 (by decide) 0 _ rfl), key 13 _ (hc 4 (by decide) 1 _ rfl), key 14 _ (hc 4 (by decide) 2 _ rfl)⟩, ⟨key 15 _ (hc 5 (by decide) 0 _ rfl), key 16 _ (hc 5 (by decide) 1 _ rfl), key 17 _ (hc 5 (by decide) 2 _ rfl)⟩, key 19 _ (hc 6 (by decide) 1 _ rfl)⟩
  have HL7 : Hid (exJ.length = 7) := rfl
  generalize exJ = J at HM HT HAt HCe HL7
  rw [show ((7 : Nat) : Int) = 7 from rfl, show ((224 : Nat) : Int) = 224 from rfl] at HN
  change Hid (Calls _ _ _ _ fun e w' => ∃ h, _ ∧ (∀ W, _ → Calls _ _ _ _ fun e W' => ∃ l0, _ ∧ Wd w h w'.heap.size 7 224 l0 l0 Sla.X0 W') ∧ _) at HN
  generalize Sla.X0 = Y0 at HN H1 tk
  generalize X9 = Y9 at H1 HM HA
  clear tk ht
  unfold pV at *
  go_enter Tryz.func41, Tryz.ntmps41
  go_wp2_with fail
  refine HN.out.mono ?_
  rintro e w1 ⟨h, rfl, hB1, hb1⟩
  have HBg := Lib.hid (hB1 w1 (Below.refl _ _))
  clear hB1 hb1 HN
  go_wp2_with fail
  refine HBg.out.mono ?_
  rintro e w2 ⟨l0, rfl, hd2⟩
  have HD2 := Lib.hid hd2
  clear hd2 HBg
  go_wp2_with fail
  refine (H1.out _ _ _ _ _ HD2.out).mono ?_
  rintro e w3 ⟨rfl, l3, hd3⟩
  have HD3 := Lib.hid hd3
  clear hd3 HD2
  go_wp2_with fail
  refine (HM.out _ _ _ _ _ HD3.out).mono ?_
  rintro e w4 ⟨u4, rfl, hb4, hz4⟩
  have HD4 := Lib.hid (HD3.out.below hb4)
  have hz := hz4
  obtain ⟨a4, k4, rfl, hk4, -⟩ := hz4
  rw [HL7.out] at hz hk4
  rw [HL7.out]
  obtain ⟨b, o, rfl, hbl, hc⟩ := HCe.out _ _ _ hz
  have HZ := Lib.hid hz
  have HC := Lib.hid hc
  obtain ⟨⟨e0, e1, e2⟩, ⟨e3, e4, e5⟩, e6⟩ := hc w4 (Below.refl _ _)
  clear hz hc hb4 HD3 HM
  go_wp2_with fail
  refine (HT.out _ _ HZ.out).mono ?_
  rintro e w5 ⟨rfl, hb5⟩
  have HD5 := Lib.hid (HD4.out.below hb5)
  have HZ5 := Lib.hid (HZ.out.mono hb5 (Nat.le_refl _))
  clear hb5 HD4 HZ HC e0 e1 e2 e3 e4 e5 e6
  go_wp2_with fail
  refine (HA.out _ _ _ _ _ HD5.out).mono ?_
  rintro e w6 ⟨rfl, hb6⟩
  have HD6 := Lib.hid (HD5.out.below hb6)
  have HZ6 := Lib.hid (HZ5.out.mono hb6 (Nat.le_refl _))
  clear hb6 HD5 HZ5
  go_wp2_with fail
  refine (HAt.out _ _ HZ6.out).mono ?_
  rintro e w7 ⟨rfl, hb7⟩
  have HD7 := Lib.hid (HD6.out.below hb7).b
  clear hb7 HD6 HZ6
  go_wp2
  go_ret
  exact ⟨rfl, HD7.out⟩
end Go.Proofs.YtlcnhnhpaddkfaaGreatDoor.Reg

namespace Go.Proofs.YtlcnhnhpaddkfaaGreatDoor.Reg
open Go.RowKit
open Sla (Ts)
set_option linter.unusedVariables false

def RunR (w : World) (cs : List Value) (x : RZ) : Prop := cs = encZ x
abbrev RunRow := GRow 3 RunR rz0
set_option maxRecDepth 100000 in
theorem run_cells_of {H : Type} {enc : TypeId × Value → H} {w : World} {base : Nat} {spare : Nat → Bool} {held : Bool} {n : Nat} {cs : List Value} {y : DataW H × List MemPlace}
    (h : DataW.trod enc Tryz.prog w base spare held n 67 cs = some y) : ∃ x, RunR w cs x := by
  obtain ⟨xs, n', -, -, hlen, hxs, hf⟩ := DataW.trod_struct Tryz.underlying67 h
  have h2 : cs.length = 3 := hlen.trans (by kernel_rfl)
  have x2 : xs.length = 3 := hxs
  match cs, h2, xs, x2 with
  | [c0, c1, c2], _, [y0, y1, y2], _ =>
    have f0 : DataW.trod enc Tryz.prog w base spare held n' 3 (([c0, c1, c2].drop 0).take (Tryz.prog.cellsOf 3)) = [y0, y1, y2][0]? := hf 0 _ rfl
    have f1 : DataW.trod enc Tryz.prog w base spare held n' 3 (([c0, c1, c2].drop 1).take (Tryz.prog.cellsOf 3)) = [y0, y1, y2][1]? := hf 1 _ rfl
    have f2 : DataW.trod enc Tryz.prog w base spare held n' 3 (([c0, c1, c2].drop 2).take (Tryz.prog.cellsOf 3)) = [y0, y1, y2][2]? := hf 2 _ rfl
    have q1 : Tryz.prog.cellsOf 3 = 1 := by kernel_rfl
    rw [q1] at f0 f1 f2
    simp only [List.drop, List.take, List.getElem?_cons_zero, List.getElem?_cons_succ] at f0 f1 f2
    obtain ⟨k0, e0, -, w0⟩ := DataW.trod_int Tryz.underlying3 f0
    obtain ⟨k1, e1, -, w1⟩ := DataW.trod_int Tryz.underlying3 f1
    obtain ⟨k2, e2, -, w2⟩ := DataW.trod_int Tryz.underlying3 f2
    simp at e0 e1 e2
    subst e0 e1 e2
    exact ⟨(k0, k1, k2), rfl⟩
set_option maxRecDepth 100000 in
theorem open_runs {H : Type} {enc : TypeId × Value → H} {w : World} {base : Nat} {spare : Nat → Bool} {held : Bool} {r : Reach} {b0 : Nat} {v : Value} {d : DataW H} {p : List MemPlace}
    (hval : Value.okWide Tryz.prog w r b0 53 v) (h : DataW.Trod enc Tryz.prog w base spare held 53 v d p) : ∃ x : Value × List RZ, v = x.1 ∧ RunRow w x.1 x.2 := by
  obtain ⟨a, len, cap, rfl⟩ := WideShapes.okWide_slice Tryz.underlying53 hval
  obtain ⟨fuel, hf⟩ := h
  obtain ⟨L, -, hrow⟩ := open_grow rz0 Tryz.underlying53 (show Tryz.prog.cellsOf 67 = 3 by kernel_rfl) (by omega) (fun n cs y hy => run_cells_of hy) hf
  exact ⟨(_, L), rfl, hrow⟩
theorem zrow_of_run {w : World} {v : Value} {L : List RZ} (h : RunRow w v L) : ZRow w v L := by
  obtain ⟨a, cap, U, h1, h2, h3, h4, h5⟩ := h
  refine ⟨a, cap, h1, h2, h3, fun hne => ?_⟩
  obtain ⟨b, off, e, hlt, hc⟩ := h5 hne
  refine ⟨b, off, e, hlt, fun i hi j x hx => hc i hi j x ?_⟩
  rw [(h4 i hi).2]
  exact hx
set_option maxRecDepth 100000 in
set_option maxHeartbeats 4000000 in
theorem regionRuns_walk (v : Value) (P : List RZ) (n a : Int) (w : World) (ht : Ts w) (h64 : -9223372036854775808 ≤ a ∧ a ≤ 9223372036854775807) (hr : RunRow w v P) :
    Calls Tryz.prog 8 #[v, .int .i64 n, .int .i64 a] w fun e w' => e = .returned (.bool true) ∧ Below w.heap.size w w' := by
  have HW := Lib.hid (fun V (hb : Below w.heap.size w V) => maps_any V (ht.keep hb))
  have hz := zrow_of_run hr
  obtain ⟨p, k, rfl, hk, hk2, -⟩ := id hz
  by_cases hL : 60 < P.length
  · have hL1 : (60 : Int) < (P.length : Int) := by omega
    clear hr hz ht
    go_enter Tryz.func8, Tryz.ntmps8
    go_wp2_with fail
    refine (HW.out _ (Below.refl _ _)).mono ?_
    rintro e w1 ⟨rfl, hb⟩
    go_wp2
    go_ret
    exact ⟨rfl, hb⟩
  have hL0 : ¬ (60 : Int) < (P.length : Int) := by omega
  have H1 := Lib.hid (fun V (hb : Below w.heap.size w V) => tiles_any (.slice p P.length k) P n V (hz.mono hb (Nat.le_refl _)))
  have H2 := Lib.hid (fun V (hb : Below w.heap.size w V) => refTiles_any (.slice p P.length k) P n V (hz.mono hb (Nat.le_refl _)))
  have H3 := Lib.hid (fun V (hb : Below w.heap.size w V) => joined_any (.slice p P.length k) P V (hz.mono hb (Nat.le_refl _)) (by omega))
  have H4 := Lib.hid (fun V (hb : Below w.heap.size w V) => refJoined_any (.slice p P.length k) P V (hz.mono hb (Nat.le_refl _)) (by omega))
  have H5 := Lib.hid (fun V (hb : Below w.heap.size w V) => at_any (.slice p P.length k) P a V (hz.mono hb (Nat.le_refl _)))
  have H6 := Lib.hid (fun V (hb : Below w.heap.size w V) => refAt_any (.slice p P.length k) P a V h64 (hz.mono hb (Nat.le_refl _)))
  have H7 := Lib.hid (fun u1 u2 V h1 h2 => sameZ_any u1 u2 (joinZ P) V h1 h2)
  generalize tilZ n P 0 = b at H1 H2
  generalize atZ a P = c at H5 H6
  generalize joinZ P = J at H3 H4 H7
  clear hr hz ht h64 hL
  go_enter Tryz.func8, Tryz.ntmps8
  go_wp2_with fail
  refine (H1.out _ (Below.refl _ _)).mono ?_
  rintro e w1 ⟨rfl, hb1⟩
  have HB1 := Lib.hid hb1
  clear hb1
  go_wp2_with fail
  refine (H2.out _ HB1.out).mono ?_
  rintro e w2 ⟨rfl, hb2⟩
  have HB2 := Lib.hid (HB1.out.trans (hb2.mono HB1.out.size))
  have hbb : (b == b) = true := by simp
  clear hb2
  go_wp2_with fail
  refine (H3.out _ HB2.out).mono ?_
  rintro e w3 ⟨u3, rfl, hb3, ho3⟩
  have HB3 := Lib.hid (HB2.out.trans (hb3.mono HB2.out.size))
  have hz3 := arow_of_owns encZ_length rz0 ho3 rfl
  have HZ3 := Lib.hid hz3
  obtain ⟨p3, k3, rfl, -⟩ := hz3
  clear hb3 ho3
  go_wp2_with fail
  refine (H4.out _ HB3.out).mono ?_
  rintro e w4 ⟨u4, rfl, hb4, ho4⟩
  have HB4 := Lib.hid (HB3.out.trans (hb4.mono HB3.out.size))
  have hz4 := arow_of_owns encZ_length rz0 ho4 rfl
  have HZ4 := Lib.hid hz4
  have HZ5 := Lib.hid (HZ3.out.mono hb4 (Nat.le_refl _))
  obtain ⟨p4, k4, rfl, -⟩ := hz4
  clear hb4 ho4
  go_wp2_with fail
  refine (H7.out _ _ _ HZ5.out HZ4.out).mono ?_
  rintro e w5 ⟨rfl, hm5⟩
  have HB5 := Lib.hid (Lay.below_drawn HB4.out hm5)
  clear hm5 HZ3 HZ4 HZ5
  go_wp2_with fail
  refine (H5.out _ HB5.out).mono ?_
  rintro e w6 ⟨rfl, hb6⟩
  have HB6 := Lib.hid (HB5.out.trans (hb6.mono HB5.out.size))
  clear hb6
  go_wp2_with fail
  refine (H6.out _ HB6.out).mono ?_
  rintro e w7 ⟨rfl, hb7⟩
  have HB7 := Lib.hid (HB6.out.trans (hb7.mono HB6.out.size))
  have hcc : (c == c) = true := by simp
  clear hb7
  go_wp2_with fail
  refine (HW.out _ HB7.out).mono ?_
  rintro e w8 ⟨rfl, hb8⟩
  have HB8 := Lib.hid (HB7.out.trans (hb8.mono HB7.out.size))
  clear hb8
  go_wp2
  go_ret
  exact ⟨rfl, HB8.out⟩
end Go.Proofs.YtlcnhnhpaddkfaaGreatDoor.Reg
