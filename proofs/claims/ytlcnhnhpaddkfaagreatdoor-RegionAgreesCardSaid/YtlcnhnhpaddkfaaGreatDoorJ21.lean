/- A slab is read from an image; its runs. The runs of a slab. The runs of an arena's bytes, slab by slab. The landed Map and Agree, of bytes that tell their kinds. Slabs that hang together: what their bytes tell is what the kinds are. The map of a memory whose slabs hang together. Agree; the page's example; the walk of RegionRuns. Rows of one's own: what they are; a live block lies in its memory. What acts come to: a memory whose slabs hang together. Maps of memories whose slabs hang together: they tile the memory, and tell a live block's kind. RegionAgrees, walked. -/
import Derived.Test.YtlcnhnhpaddkfaaGreatDoorJ20
import Derived.Test.YtlcnhnhpaddkfaaGreatDoorJ11
import Derived.Test.YtlcnhnhpaddkfaaGreatDoorJ13
import Derived.Test.YtlcnhnhpaddkfaaGreatDoorJ19
import Derived.Test.YtlcnhnhpaddkfaaGreatDoorJ18
import Derived.Test.YtlcnhnhpaddkfaaGreatDoorJ6
import Derived.Test.YtlcnhnhpaddkfaaGreatDoorJ7
import Derived.Test.YtlcnhnhpaddkfaaGreatDoorJ4
namespace Go.Proofs.YtlcnhnhpaddkfaaGreatDoor.Reg
open Go.RowKit
open Cls (szC blC pdC)
open Sla (pl aT Sl bl_in bl_apart)
open Mem (rd)
set_option linter.unusedVariables false

def S5 (w : World) (o : Nat) (u : Value) (a b c d : Int) : World :=
  ((((w.setCell ⟨o, 0, none⟩ u).setCell ⟨o, 1, none⟩ (.int .i64 a)).setCell ⟨o, 2, none⟩ (.int .i64 b)).setCell ⟨o, 3, none⟩ (.int .i64 c)).setCell ⟨o, 4, none⟩ (.int .i64 d)
def slab0 : Array Value := #[.slice none 0 0, .int .i64 0, .int .i64 0, .int .i64 0, .int .i64 0]
theorem s5_block {w : World} {o : Nat} (h : w.heap[o]? = some (.cells slab0 204 (0, 0))) (u : Value) (a b c d : Int) : (S5 w o u a b c d).heap[o]? = some (.cells #[u, .int .i64 a, .int .i64 b, .int .i64 c, .int .i64 d] 204 (0, 0)) := by
  unfold S5
  have h1 := Hea.heap_setCell_own (o := 0) h u
  have h2 := Hea.heap_setCell_own (o := 1) h1 (.int .i64 a)
  have h3 := Hea.heap_setCell_own (o := 2) h2 (.int .i64 b)
  have h4 := Hea.heap_setCell_own (o := 3) h3 (.int .i64 c)
  exact (Hea.heap_setCell_own (o := 4) h4 (.int .i64 d)).trans (by simp [slab0])
/-- What the walk holds: the config's box, the result's. -/
structure RdV (w W : World) (S N : Nat) : Prop where
  b : Below w.heap.size w W
  c : W.heap[w.heap.size]? = some (.cells #[.int .i64 (S : Int), .int .i64 (N : Int)] 25 (0, 0))
  r : W.heap[w.heap.size + 1]? = some (.cells slab0 204 (0, 0))
theorem RdV.below {w W W' : World} {S N : Nat} (h : RdV w W S N) (hb : Below W.heap.size W W') : RdV w W' S N :=
  ⟨h.b.trans (hb.mono h.b.size), (hb.block _ (Array.getElem?_eq_some_iff.1 h.c).1).trans h.c, (hb.block _ (Array.getElem?_eq_some_iff.1 h.r).1).trans h.r⟩
theorem RdV.cells {w W : World} {S N : Nat} (h : RdV w W S N) : W.cell? ⟨w.heap.size, 0, none⟩ = some (.int .i64 (S : Int)) ∧ W.cell? ⟨w.heap.size, 1, none⟩ = some (.int .i64 (N : Int)) :=
  ⟨(cell_block h.c 0).trans rfl, (cell_block h.c 1).trans rfl⟩
theorem RdV.start (w : World) (S N : Nat) : RdV w ((w.alloc (.cells #[.int .i64 (S : Int), .int .i64 (N : Int)] 25)).alloc (.cells slab0 204)) S N := by
  have z1 : (w.alloc (.cells #[.int .i64 (S : Int), .int .i64 (N : Int)] 25)).heap.size = w.heap.size + 1 := Array.size_push _
  have b1 := below_made w (.cells #[.int .i64 (S : Int), .int .i64 (N : Int)] 25)
  have b2 := below_made (w.alloc (.cells #[.int .i64 (S : Int), .int .i64 (N : Int)] 25)) (.cells slab0 204)
  have n1 := heap_alloc_new w (.cells #[.int .i64 (S : Int), .int .i64 (N : Int)] 25)
  have n2 := heap_alloc_new (w.alloc (.cells #[.int .i64 (S : Int), .int .i64 (N : Int)] 25)) (.cells slab0 204)
  rw [z1] at n2
  exact ⟨b1.trans (b2.mono (by omega)), (b2.block _ (by omega)).trans n1, n2⟩
theorem headC_at {S N j : Nat} (hr : Lay.rightC (S : Int) (N : Int) = true) (hj : j < S) : Lay.headC (S : Int) (N : Int) (j : Int) = 128 + 16 * j := by
  rw [Lay.headC, if_pos ⟨hr, by omega, by omega⟩]
  rfl
set_option maxRecDepth 100000 in
set_option maxHeartbeats 4000000 in
theorem read_ok (u : Value) (l : List Int) (S N j : Nat) (w : World) (ht : Cls.Tab w) (hr : Row .u8 w u l) (hR : Lay.rightC (S : Int) (N : Int) = true) (hl : l.length = Lay.sizeT S N) (hj : j < S) :
    Calls Tryz.prog 177 #[.agg #[.int .i64 (S : Int), .int .i64 (N : Int)], u, .int .i64 (j : Int)] w fun e w' =>
      e = .returned (sV u (aT S N j : Int) (rd l (128 + 16 * j) 2) (rd l (128 + 16 * j + 2) 2) (rd l (128 + 16 * j + 4) 4)) ∧ Below w.heap.size w w' := by
  obtain ⟨q1, q2, q3, q4, q5⟩ := Lay.right_out hR
  have hC : (Lis.newCf S N).Ok := Lis.newCf_ok hR
  obtain ⟨b1, b2, b3, b4⟩ := Sla.ok_base hC
  change 128 + 16 * S ≤ Lay.baseT S N at b1
  change Lay.sizeT S N = Lay.baseT S N + 1024 * S at b3
  change Lay.sizeT S N ≤ 100000 at b4
  have HH := Lib.hid (fun (W : World) (hW : Below w.heap.size w W) => headC_at hR hj ▸ Lay.headAt_any (S : Int) (N : Int) (j : Int) W (tab_keep hW ht) (by omega) (by omega) (by omega) (by omega) (by omega) (by omega))
  have HS := Lib.hid (fun (W : World) (hW : Below w.heap.size w W) => Sla.slabC_at hR hj ▸ Lay.slabAt_any (S : Int) (N : Int) (j : Int) W (tab_keep hW ht) (by omega) (by omega) (by omega) (by omega) (by omega) (by omega))
  obtain ⟨hd, hhd⟩ : ∃ hd, hd = 128 + 16 * j := ⟨_, rfl⟩
  obtain ⟨h2, hh2⟩ : ∃ h2, h2 = hd + 2 := ⟨_, rfl⟩
  obtain ⟨h4, hh4⟩ : ∃ h4, h4 = hd + 4 := ⟨_, rfl⟩
  rw [← hhd] at HH ⊢
  have hn0 := fun (W : World) (hW : Below w.heap.size w W) => number_any u l hd 2 W (hr.mono hW (Nat.le_refl _)) (.inl rfl) (by omega) (by omega)
  have hn2 := fun (W : World) (hW : Below w.heap.size w W) => number_any u l h2 2 W (hr.mono hW (Nat.le_refl _)) (.inl rfl) (by omega) (by omega)
  have hn4 := fun (W : World) (hW : Below w.heap.size w W) => number_any u l h4 4 W (hr.mono hW (Nat.le_refl _)) (.inr rfl) (by omega) (by omega)
  rw [← hh2, ← hh4]
  generalize rd l hd 2 = x0 at hn0 ⊢
  generalize rd l h2 2 = x2 at hn2 ⊢
  generalize rd l h4 4 = x4 at hn4 ⊢
  have HN0 := Lib.hid hn0
  have HN2 := Lib.hid hn2
  have HN4 := Lib.hid hn4
  have hw0 : IntKind.i64.wrap (hd : Int) = (hd : Int) := wrap_id (by omega) (by omega)
  have hw1 : wrap64 (hd : Int) = (hd : Int) := IntWalk.wrap64_in _ (by omega)
  have hw2 : IntKind.i64.wrap ((hd : Int) + 2) = (h2 : Int) := (wrap_id (by omega) (by omega)).trans (by omega)
  have hw4 : IntKind.i64.wrap ((hd : Int) + 4) = (h4 : Int) := (wrap_id (by omega) (by omega)).trans (by omega)
  generalize aT S N j = B at HS ⊢
  obtain ⟨pp, cc, rfl, -⟩ := hr
  have HV2 := Lib.hid (RdV.start w S N)
  obtain ⟨c0, c1⟩ := HV2.out.cells
  unfold slab0 at HV2 c0 c1
  unfold sV
  clear hn0 hn2 hn4 hhd hh2 hh4 q1 q2 q3 q4 q5 hC b1 b2 b3 b4 hR hl hj ht
  go_enter Tryz.func177, Tryz.ntmps177
  go_wp2_with fail
  refine (HH.out _ HV2.out.b).mono ?_
  rintro e w3 ⟨rfl, hb⟩
  have HV3 := Lib.hid (HV2.out.below hb)
  clear hb c0 c1 HV2
  obtain ⟨c0, c1⟩ := HV3.out.cells
  go_wp2_with fail
  refine (HS.out _ HV3.out.b).mono ?_
  rintro e w4 ⟨rfl, hb⟩
  have HV4 := Lib.hid (HV3.out.below hb)
  clear hb c0 c1 HV3
  go_wp2_with fail
  refine (HN0.out _ HV4.out.b).mono ?_
  rintro e w5 ⟨rfl, hb⟩
  have HV5 := Lib.hid (HV4.out.below hb)
  clear hb HV4
  go_wp2_with fail
  refine (HN2.out _ HV5.out.b).mono ?_
  rintro e w6 ⟨rfl, hb⟩
  have HV6 := Lib.hid (HV5.out.below hb)
  clear hb HV5
  go_wp2_with fail
  refine (HN4.out _ HV6.out.b).mono ?_
  rintro e w7 ⟨rfl, hb⟩
  have HV7 := Lib.hid (HV6.out.below hb)
  clear hb HV6
  have hk1 := HV7.out.r
  have f0 : w7.frozen? ⟨w.heap.size + 1, 0, none⟩ = false := by simp [World.frozen?, hk1]
  have f1 : w7.frozen? ⟨w.heap.size + 1, 1, none⟩ = false := by simp [World.frozen?, hk1]
  have f2 : w7.frozen? ⟨w.heap.size + 1, 2, none⟩ = false := by simp [World.frozen?, hk1]
  have f3 : w7.frozen? ⟨w.heap.size + 1, 3, none⟩ = false := by simp [World.frozen?, hk1]
  have f4 : w7.frozen? ⟨w.heap.size + 1, 4, none⟩ = false := by simp [World.frozen?, hk1]
  have d0 : w7.cell? ⟨w.heap.size + 1, 0, none⟩ = some (.slice none 0 0) := (cell_block hk1 0).trans rfl
  have d1 : w7.cell? ⟨w.heap.size + 1, 1, none⟩ = some (.int .i64 0) := (cell_block hk1 1).trans rfl
  have d2 : w7.cell? ⟨w.heap.size + 1, 2, none⟩ = some (.int .i64 0) := (cell_block hk1 2).trans rfl
  have d3 : w7.cell? ⟨w.heap.size + 1, 3, none⟩ = some (.int .i64 0) := (cell_block hk1 3).trans rfl
  have d4 : w7.cell? ⟨w.heap.size + 1, 4, none⟩ = some (.int .i64 0) := (cell_block hk1 4).trans rfl
  have hQ := s5_block hk1 (.slice pp l.length cc) (B : Int) x0 x2 x4
  have HQ : Hid ((S5 w7 (w.heap.size + 1) (.slice pp l.length cc) (B : Int) x0 x2 x4).heap[w.heap.size + 1]? = _) := hQ
  have HBz : Hid (Below w.heap.size w (S5 w7 (w.heap.size + 1) (.slice pp l.length cc) (B : Int) x0 x2 x4)) := by
    unfold S5
    exact ((((HV7.out.b.setCell (show w.heap.size ≤ w.heap.size + 1 by omega) _).setCell (show w.heap.size ≤ w.heap.size + 1 by omega) _).setCell (show w.heap.size ≤ w.heap.size + 1 by omega) _).setCell (show w.heap.size ≤ w.heap.size + 1 by omega) _).setCell (show w.heap.size ≤ w.heap.size + 1 by omega) _
  clear hQ hk1
  go_wp2
  show bodyPost _ _ _ _ _ (S5 w7 (w.heap.size + 1) (.slice pp l.length cc) (B : Int) x0 x2 x4)
  generalize S5 w7 (w.heap.size + 1) (.slice pp l.length cc) (B : Int) x0 x2 x4 = W at HQ HBz ⊢
  have hq := HQ.out
  have q0 : W.cell? ⟨w.heap.size + 1, 0, none⟩ = some (.slice pp l.length cc) := (cell_block hq 0).trans rfl
  have q1 : W.cell? ⟨w.heap.size + 1, 1, none⟩ = some (.int .i64 (B : Int)) := (cell_block hq 1).trans rfl
  have q2 : W.cell? ⟨w.heap.size + 1, 2, none⟩ = some (.int .i64 x0) := (cell_block hq 2).trans rfl
  have q3 : W.cell? ⟨w.heap.size + 1, 3, none⟩ = some (.int .i64 x2) := (cell_block hq 3).trans rfl
  have q4 : W.cell? ⟨w.heap.size + 1, 4, none⟩ = some (.int .i64 x4) := (cell_block hq 4).trans rfl
  refine bodyPost_ret (v := .agg #[.slice pp l.length cc, .int .i64 (B : Int), .int .i64 x0, .int .i64 x2, .int .i64 x4]) (by simp [results, Tryz.results177, go_sem, q0, q1, q2, q3, q4]) rfl ⟨rfl, HBz.out⟩
end Go.Proofs.YtlcnhnhpaddkfaaGreatDoor.Reg

namespace Go.Proofs.YtlcnhnhpaddkfaaGreatDoor.Reg
open Go.RowKit
open Cls (szC blC pdC)
open Sla (pl aT Sl bl_in bl_apart)
open Mem (rd)
set_option linter.unusedVariables false

/-- The runs of a slab. -/
theorem blC_some {c : Int} (h : 1 ≤ c) (h9 : c ≤ 9) : 1 ≤ blC c := by
  have hz : ¬ szC c = 0 := fun e => by have := Cls.szC_zero.1 e; omega
  have := Cls.blC_pos hz
  omega
set_option maxRecDepth 100000 in
theorem runs_ok (u : Value) (l : List Int) (A : Nat) (cl lv fr : Int) (P : List RZ) (w : World) (ht : Cls.Tab w) (hr : Row .u8 w u l) (hA : A + 1024 ≤ l.length) (hA16 : A % 16 = 0) (hl : l.length ≤ 1000000) (hc0 : 0 ≤ cl)
    (hP : slR l A cl lv fr = some P) : Calls Tryz.prog 178 #[sV u (A : Int) cl lv fr] w (ROk w P) := by
  obtain ⟨p, c, rfl, h2, h3, h4, h5⟩ := id hr
  obtain ⟨hc, hlt, hb⟩ := box_slab w (u := .slice p l.length c) rfl (A : Int) cl lv fr
  obtain ⟨c0, c1, c2, c3, c4⟩ := hc _ (Below.refl _ _)
  unfold slR at hP
  by_cases h9 : 9 < cl
  · rw [if_pos h9] at hP; cases hP
  rw [if_neg h9] at hP
  by_cases h0 : cl = 0
  · rw [if_pos h0] at hP
    split at hP
    · rename_i hh
      obtain ⟨rfl, rfl, hz⟩ := hh
      injection hP with hP
      subst h0
      have hW := whole_ok (.slice p l.length c) l A (w.alloc (sB (.slice p l.length c) (A : Int) 0 0 0)) (hr.mono hb (Nat.le_refl _)) hA hl hz
      rw [hP] at hW
      have HW := Lib.hid hW
      unfold sV at HW ⊢
      unfold sB at HW c0 c1 c2 c3 c4 hb
      clear hW hP hc h4 h5 hr hz
      go_enter Tryz.func178, Tryz.ntmps178
      go_wp2_with fail
      refine HW.out.mono ?_
      rintro e w1 ⟨u1, rfl, hb1, hz1⟩
      have HB := Lib.hid (hb.trans (hb1.mono hb.size))
      have HZ := Lib.hid hz1
      clear hb1 hz1
      go_wp2
      go_ret2
      exact ⟨_, rfl, HB.out, HZ.out⟩
    · cases hP
  · rw [if_neg h0] at hP
    cases hf : flw l A cl (blC cl + 1) fr [] with
    | none => rw [hf] at hP; cases hP
    | some F =>
      rw [hf] at hP
      simp only at hP
      split at hP
      · cases hP
      · rename_i hh
        injection hP with hP
        have hF : F.length ≠ blC cl := fun q => hh (.inl q)
        have hlv : lv = ((blC cl - F.length : Nat) : Int) := Classical.byContradiction fun q => hh (.inr q)
        have hD := divided_ok (.slice p l.length c) l A cl lv fr F (w.alloc (sB (.slice p l.length c) (A : Int) cl lv fr)) (tab_keep hb ht) (hr.mono hb (Nat.le_refl _)) hA hA16 hl hf hF hlv (blC_some (by omega) (by omega))
        rw [hP] at hD
        have HW := Lib.hid hD
        have h0' : (cl == 0) = false := by simp [h0]
        unfold sV at HW ⊢
        unfold sB at HW c0 c1 c2 c3 c4 hb
        clear hD hP hc h4 h5 hr hf hF hlv hh h0
        go_enter Tryz.func178, Tryz.ntmps178
        go_wp2_with fail
        refine HW.out.mono ?_
        rintro e w1 ⟨u1, rfl, hb1, hz1⟩
        have HB := Lib.hid (hb.trans (hb1.mono hb.size))
        have HZ := Lib.hid hz1
        clear hb1 hz1
        go_wp2
        go_ret2
        exact ⟨_, rfl, HB.out, HZ.out⟩
end Go.Proofs.YtlcnhnhpaddkfaaGreatDoor.Reg

namespace Go.Proofs.YtlcnhnhpaddkfaaGreatDoor.Lay
open Go.RowKit
set_option linter.unusedVariables false

set_option maxRecDepth 100000 in
set_option maxHeartbeats 2000000 in
theorem runs_row (s n : Int) (w : World) (ht : Cls.Tab w) (s1 : -9223372036854775808 ≤ s) (s2 : s ≤ 9223372036854775807) (n1 : -9223372036854775808 ≤ n) (n2 : n ≤ 9223372036854775807) :
    Calls Tryz.prog 126 #[.agg #[.int .i64 s, .int .i64 n]] w fun e w' => ∃ u, e = .returned u ∧ Below w.heap.size w w' ∧ w'.ownsRow w.heap.size 67 3 u (Lay.runsC s n).length (valsA Lay.encR (Lay.runsC s n)) := by
  obtain ⟨i0, hi, hz0, hz1, hz2⟩ := info_parts infoRun
  obtain ⟨P, hP, hl, HP⟩ := parts_on s n w ht s1 s2 n1 n2
  rw [← keepT_all s n, ← hP]
  obtain ⟨c1, c2, hlt1, hb⟩ := one_box (Below.refl (W1 w s n).heap.size (W1 w s n))
  unfold W1 at c1 c2 hlt1 hb
  have HI := Lib.hid (fun (k : Nat) (hk : k < 6) x1 x2 x3 he u => index_part P hl (k : Int) k rfl hk x1 x2 x3 he u)
  clear ht s1 s2 n1 n2 hP
  go_enter Tryz.func126, Tryz.ntmps126
  go_wp2_with (go_at_call 129; refine (HP.out _ hb).mono ?_; rintro e w1 ⟨rfl, hw1⟩)
  go_loopw [3, 8] (fun v i wr => ∃ (k : Nat) (K : List (Nat × Nat × Nat)), k ≤ 6 ∧ i = .int .i64 k ∧ Hid (K = keepT P k) ∧ Hid (wr.ownsRow w.heap.size 67 3 v K.length (valsA encR K)) ∧ Hid (Below w.heap.size w wr)) (fun _ i _ => 6 - (intOf i).toNat)
  case atStart => exact ⟨0, [], Nat.zero_le _, rfl, (keepT_zero P).symm, ⟨rfl, .inl ⟨rfl, rfl⟩⟩, hw1⟩
  case round =>
    obtain ⟨k, K, hk, rfl, HK, HO, HB⟩ := hrel
    by_cases hlt : k < 6
    · have hlt1 : (k : Int) < 6 := by omega
      have hsu := keepT_succ P k (by omega)
      have hkl := keepT_length P k
      obtain ⟨x, hx⟩ : ∃ x, x = P.getD k (0, 0, 0) := ⟨_, rfl⟩
      rw [← hx, ← HK.out] at hsu
      rw [← HK.out] at hkl
      obtain ⟨x1, x2, x3⟩ := x
      have hix := HI.out k hlt x1 x2 x3 hx.symm
      by_cases hp : 0 < x2
      · have hp1 : (0 : Int) < (x2 : Int) := by omega
        rw [if_pos hp] at hsu
        have HSU := Lib.hid hsu
        clear hsu hx
        go_wp2_with (at_builtin; refine wpList_append_own _ rfl (.tmp 14) (.tmp 16) 53 rfl w.heap.size 67 i0 (.agg #[.int .i64 0, .int .i64 0, .int .i64 0]) 3 24 Tryz.underlying53 hi hz0 hz1 hz2 rfl (by decide) _ _ _ rfl ((HO.out.alloc _).alloc _) ⟨wr.heap.size + 1, 0, none⟩ 1 1 [.int .i64 (x1 : Int), .int .i64 (x2 : Int), .int .i64 (x3 : Int)] rfl rfl (news_three_at _ _ (size_alloc _ _).symm _ _ _ _) (oneCell_three _ _ _) (by unfold maxLen; omega) (by omega) (by have := HB.out.size; simp; omega) ?_)
        intro v3 w3 hown3 hgrow3 _
        have HB3 := Lib.hid (((HB.out.alloc HB.out.size (.cells #[.int .i64 (x1 : Int), .int .i64 (x2 : Int), .int .i64 (x3 : Int)] 67)).alloc (le_alloc _ HB.out.size) (.cells #[.int .i64 (x1 : Int), .int .i64 (x2 : Int), .int .i64 (x3 : Int)] 67)).grown hgrow3 (by have := HB.out.size; simp; omega) (fun r hr => (HO.out.lt r hr).1))
        have HO3 : Hid (w3.ownsRow w.heap.size 67 3 v3 (K ++ [(x1, x2, x3)]).length (valsA encR (K ++ [(x1, x2, x3)]))) := by
          unfold Hid
          rw [valsA_snoc, List.length_append]
          exact hown3
        have HSU2 := Lib.hid HSU.out.symm
        clear hown3 hgrow3 HSU HO HB
        go_wp2
        go_roundw
        case rel => exact ⟨k + 1, K ++ [(x1, x2, x3)], by omega, by go_num, HSU2, HO3, HB3⟩
        case measure => simp [intOf]; omega
      · have hp1 : ¬ (0 : Int) < (x2 : Int) := by omega
        rw [if_neg hp] at hsu
        have HSU := Lib.hid hsu.symm
        have HO1 := Lib.hid (HO.out.alloc (.cells #[.int .i64 (x1 : Int), .int .i64 (x2 : Int), .int .i64 (x3 : Int)] 67))
        have HB1 := Lib.hid (HB.out.alloc HB.out.size (.cells #[.int .i64 (x1 : Int), .int .i64 (x2 : Int), .int .i64 (x3 : Int)] 67))
        clear hsu hx
        go_wp2
        go_roundw
        case rel => exact ⟨k + 1, K, by omega, by go_num, HSU, HO1, HB1⟩
        case measure => simp [intOf]; omega
    · obtain rfl : k = 6 := by omega
      go_wp2
      go_ret
      have := HK.out
      subst this
      exact ⟨_, rfl, HB.out, HO.out⟩
end Go.Proofs.YtlcnhnhpaddkfaaGreatDoor.Lay
namespace Go.Proofs.YtlcnhnhpaddkfaaGreatDoor.Reg
open Go.RowKit
open Cls (szC blC pdC)
open Sla (pl aT Sl bl_in bl_apart)
open Mem (rd)
set_option linter.unusedVariables false

def cstR (r : Nat × Nat × Nat) : RZ := ((r.1 : Int), (r.2.1 : Int), (r.2.2 : Int))
theorem vals_cst (P : List (Nat × Nat × Nat)) : valsA Lay.encR P = valsA encZ (P.map cstR) := by
  induction P with
  | nil => rfl
  | cons x P ih =>
    have e1 : valsA Lay.encR (x :: P) = Lay.encR x ++ valsA Lay.encR P := by simp [valsA]
    have e2 : valsA encZ ((x :: P).map cstR) = encZ (cstR x) ++ valsA encZ (P.map cstR) := by simp [valsA]
    rw [e1, e2, ih]
    rfl
/-- All but the last. -/
theorem own_cut {w : World} {base n g cap : Nat} {t : TypeId} {P : List RZ} {r : RZ} (h : w.ownsRow base t 3 (.slice (some ⟨g, 0, none⟩) n cap) n (valsA encZ (P ++ [r]))) (hn : n = P.length + 1) :
    w.ownsRow base t 3 (.slice (some ⟨g, 0, none⟩) P.length cap) P.length (valsA encZ P) := by
  obtain ⟨h1, h2⟩ := h
  have hl := valsA_length (k := 3) (enc := encZ) encZ_length P
  rcases h2 with ⟨e, h0⟩ | ⟨g', cap', cur, e, hg, hh, hle, hm, hsz, htk⟩
  · cases e
  · injection e with e1 e2 e3
    injection e1 with e1
    injection e1 with e1
    subst e1 e3
    refine ⟨hl, .inr ⟨g, cap, cur, rfl, hg, hh, by omega, hm, hsz, ?_⟩⟩
    rw [valsA_snoc] at htk
    have h3 := congrArg (List.take (P.length * 3)) htk
    rw [List.take_take, Nat.min_eq_left (by omega), ← hl, List.take_left] at h3
    rw [← hl]
    exact h3
theorem slR_ne {l : List Int} {A : Nat} {cl lv fr : Int} {P : List RZ} (hc0 : 0 ≤ cl) (h : slR l A cl lv fr = some P) : P ≠ [] := by
  unfold slR at h
  split at h
  · cases h
  · split at h
    · split at h
      · injection h with h; rw [← h]; simp
      · cases h
    · split at h
      · cases h
      · split at h
        · cases h
        · injection h with h
          rw [← h]
          have := blC_some (c := cl) (by omega) (by omega)
          intro q
          have q2 := congrArg List.length q
          unfold dvR at q2
          rw [List.length_append, List.length_map, List.length_range] at q2
          simp at q2
          omega
theorem zrow_news {w : World} {b o n c : Nat} {P : List RZ} (h : ZRow w (.slice (some ⟨b, o, none⟩) n c) P) : ∀ j v, (valsA encZ P)[j]? = some v → w.cell? ((⟨b, o, none⟩ : Addr).add j) = some v := by
  intro j v hj
  obtain ⟨hlt, -⟩ := List.getElem?_eq_some_iff.1 hj
  rw [valsA_length (k := 3) encZ_length] at hlt
  have e := valsA_get (k := 3) encZ_length rz0 P (j / 3) (by omega) (j % 3) (by omega)
  rw [show j / 3 * 3 + j % 3 = j by omega, hj] at e
  obtain ⟨a, cap, e1, h2, h3, h5⟩ := h
  obtain ⟨b', o', rfl, hl, hc⟩ := h5 (by rintro rfl; simp at hlt)
  injection e1 with e1
  injection e1 with e1
  injection e1 with e1 e2
  subst e1 e2
  have := hc (j / 3) (by omega) (j % 3) v e.symm
  rw [Addr_add]
  rw [show b = b from rfl]
  have h6 : o + j / 3 * 3 + j % 3 = o + j := by omega
  rw [h6] at this
  exact this
theorem zrow_one (P : List RZ) : ∀ u ∈ valsA encZ P, u.oneCell' = true := by
  intro u hu
  unfold valsA at hu
  obtain ⟨r, -, hr⟩ := List.mem_flatMap.1 hu
  exact Lay.oneCell_three r.1 r.2.1 r.2.2 u hr
theorem headR_len (S N : Nat) : (headR S N).length ≤ 5 := by
  unfold headR Lay.runsT
  rw [List.length_map, List.length_dropLast, List.length_append, List.length_append]
  split <;> simp
set_option maxRecDepth 100000 in
set_option maxHeartbeats 4000000 in
theorem survey_ok (u : Value) (l : List Int) (S N : Nat) (P : List RZ) (w : World) (ht : Cls.Tab w) (hr : Row .u8 w u l) (hR : Lay.rightC (S : Int) (N : Int) = true) (hl : l.length = Lay.sizeT S N) (hP : mapS S N l S = some P) :
    Calls Tryz.prog 111 #[.agg #[.int .i64 (S : Int), .int .i64 (N : Int)], u] w (ROk w (headR S N ++ P)) := by
  obtain ⟨i0, hi, hz0, hz1, hz2⟩ := info_parts Lay.infoRun
  obtain ⟨q1, q2, q3, q4, q5⟩ := Lay.right_out hR
  have hC : (Lis.newCf S N).Ok := Lis.newCf_ok hR
  obtain ⟨b1, b2, b3, b4⟩ := Sla.ok_base hC
  change 128 + 16 * S ≤ Lay.baseT S N at b1
  change Lay.baseT S N % 16 = 0 at b2
  change Lay.sizeT S N = Lay.baseT S N + 1024 * S at b3
  change Lay.sizeT S N ≤ 100000 at b4
  obtain ⟨w1, hw1⟩ : ∃ w1, w1 = w.alloc (.cells #[.int .i64 (S : Int), .int .i64 (N : Int)] 25) := ⟨_, rfl⟩
  have hb1 : Below w.heap.size w w1 := by rw [hw1]; exact below_made _ _
  have hbx : w1.heap[w.heap.size]? = some (.cells #[.int .i64 (S : Int), .int .i64 (N : Int)] 25 (0, 0)) := by rw [hw1]; exact heap_alloc_new _ _
  have hlt1 : w.heap.size < w1.heap.size := (Array.getElem?_eq_some_iff.1 hbx).1
  have HBox : Hid (∀ W, Below w1.heap.size w1 W → W.cell? ⟨w.heap.size, 0, none⟩ = some (.int .i64 (S : Int)) ∧ W.cell? ⟨w.heap.size, 1, none⟩ = some (.int .i64 (N : Int))) := fun W hW => by
    have := (hW.block _ hlt1).trans hbx
    exact ⟨(cell_block this 0).trans rfl, (cell_block this 1).trans rfl⟩
  have hru := Lay.runs_row (S : Int) (N : Int) w1 (tab_keep hb1 ht) (by omega) (by omega) (by omega) (by omega)
  have hrc : Lay.runsC (S : Int) (N : Int) = Lay.runsT S N := by rw [Lay.runsC, if_pos hR]; rfl
  obtain ⟨X, r, hX⟩ : ∃ X r, Lay.runsT S N = X ++ [r] := ⟨_, _, rfl⟩
  have hH : headR S N = X.map cstR := by unfold headR; rw [hX, List.dropLast_concat]; rfl
  rw [hrc, vals_cst, hX, List.map_append, List.length_append, List.length_singleton, ← hH] at hru
  have hXl : X.length = (headR S N).length := by rw [hH, List.length_map]
  rw [hXl] at hru
  have hhl := headR_len S N
  have HRu := Lib.hid hru
  have HRd := Lib.hid (fun (j : Nat) (W : World) (hW : Below w.heap.size w W) (hj : j < S) => read_ok u l S N j W (tab_keep hW ht) (hr.mono hW (Nat.le_refl _)) hR hl hj)
  have HRn := Lib.hid (fun (j : Nat) (Q : List RZ) (W : World) (hW : Below w.heap.size w W) (hj : j < S) (hQ : slJ S N l j = some Q) =>
    runs_ok u l (aT S N j) (rd l (128 + 16 * j) 2) (rd l (128 + 16 * j + 2) 2) (rd l (128 + 16 * j + 4) 4) Q W (tab_keep hW ht) (hr.mono hW (Nat.le_refl _)) (by unfold aT; omega) (by unfold aT; omega) (by omega) (rd_bd4 hr _ (.inl rfl)).1 hQ)
  have HLe : Hid (∀ j, j < S → ∃ P' Q, mapS S N l j = some P' ∧ slJ S N l j = some Q ∧ mapS S N l (j + 1) = some (P' ++ Q) ∧ Q.length ≤ 34 ∧ Q ≠ [] ∧ P'.length ≤ 34 * j) := fun j hj => by
    obtain ⟨T, hT⟩ := mapS_less hP (j + 1) (by omega)
    obtain ⟨P', Q, h1, h2, rfl⟩ := mapS_some hT
    exact ⟨P', Q, h1, h2, hT, slR_len h2, slR_ne (rd_bd4 hr _ (.inl rfl)).1 h2, mapS_len h1⟩
  have HP := Lib.hid hP
  have HB1 := Lib.hid hb1
  obtain ⟨c0, c1⟩ := HBox.out w1 (Below.refl _ _)
  generalize headR S N = H at HRu hhl ⊢
  obtain ⟨pp, cc, rfl, -⟩ := id hr
  have hS64 : S ≤ 64 := by omega
  unfold sV at HRd HRn
  generalize cstR r = rr at HRu
  clear hru hrc hX hH hXl hP hb1 hbx ht hr hR hl hC b1 b2 b3 b4 q1 q2 q3 q4 q5
  go_enter Tryz.func111, Tryz.ntmps111
  have HW1 := Lib.hid hw1
  clear hw1
  go_wp2_with fail
  rw [← HW1.out]
  refine HRu.out.mono ?_
  rintro e w2 ⟨v2, rfl, hb2, ho2⟩
  obtain ⟨g, cap, rfl, hcap⟩ := own_some ho2
  obtain ⟨hn, hhn⟩ : ∃ hn, hn = H.length := ⟨_, rfl⟩
  have ho3 := own_cut ho2 rfl
  have hw3 : IntKind.i64.wrap (((H.length + 1 : Nat) : Int) - 1) = (H.length : Int) := (wrap_id (by omega) (by omega)).trans (by omega)
  have hw4 : wrap64 (((H.length + 1 : Nat) : Int) - 1) = (H.length : Int) := (IntWalk.wrap64_in _ (by omega)).trans (by omega)
  have hcp1 : (H.length : Int) ≤ (cap : Int) := by omega
  have hcp0 : (0 : Int) ≤ (H.length : Int) := by omega
  have HO3 := Lib.hid ho3
  have HB2 := Lib.hid hb2
  clear ho2 ho3 hb2 c0 c1 hhn
  obtain ⟨c0, c1⟩ := HBox.out w2 HB2.out
  go_wp2_with fail
  go_loopw [7, 20] (fun v i wr => ∃ (j : Nat) (Q : List RZ), j ≤ S ∧ i = .int .i64 j ∧ Q.length ≤ 34 * j ∧ Hid (mapS S N l j = some Q) ∧ Hid (wr.ownsRow w1.heap.size 67 3 v (H ++ Q).length (valsA encZ (H ++ Q))) ∧ Hid (Below w1.heap.size w1 wr)) (fun _ i _ => S - (intOf i).toNat)
  case atStart => exact ⟨0, [], Nat.zero_le _, rfl, Nat.le_refl _, rfl, by simpa [Hid] using HO3.out, HB2.out⟩
  case round =>
    clear HO3 HB2 c0 c1 hw3 hw4 hcp1 hcp0
    obtain ⟨j, Q, hj, rfl, hQl, HQ, HO, HB⟩ := hrel
    obtain ⟨c0, c1⟩ := HBox.out wr HB.out
    by_cases hlt : j < S
    · have hlt2 : (j : Int) < (S : Int) := by omega
      have hjw : IntKind.i64.wrap ((j : Int) + 1) = ((j + 1 : Nat) : Int) := (wrap_id (by omega) (by omega)).trans (by omega)
      obtain ⟨P', T, hm1, hm2, hm3, hm4, hm5, hm6⟩ := HLe.out j hlt
      rw [HQ.out] at hm1
      injection hm1 with hm1
      subst hm1
      have HM3 := Lib.hid hm3
      have HRn2 := Lib.hid (fun (W : World) (hW : Below w.heap.size w W) => HRn.out j T W hW hlt hm2)
      have hbw := HB1.out.trans (HB.out.mono HB1.out.size)
      have hO := HO.out
      clear hm3 hm2 HQ HO
      go_wp2_with fail
      refine (HRd.out j _ hbw hlt).mono ?_
      rintro e w3 ⟨rfl, hb3⟩
      have hbw3 := hbw.trans (hb3.mono hbw.size)
      have hO3 := ownsRow_stays hO hb3
      have HB3 := Lib.hid (HB.out.trans (hb3.mono HB.out.size))
      clear hb3 hO hbw c0 c1
      obtain ⟨c0, c1⟩ := HBox.out w3 HB3.out
      go_wp2_with fail
      refine (HRn2.out _ hbw3).mono ?_
      rintro e w4 ⟨u4, rfl, hb4, hz4⟩
      have hO4 := ownsRow_stays hO3 hb4
      have HB4 := Lib.hid (HB3.out.trans (hb4.mono HB3.out.size))
      obtain ⟨a4, k4, rfl, -, -, hz5⟩ := id hz4
      obtain ⟨b4, o4, rfl, -, -⟩ := hz5 hm5
      have HZ := Lib.hid (zrow_news hz4)
      have hHQ : (H ++ Q).length ≤ 5 + 34 * j := by rw [List.length_append]; omega
      have hsz4 := HB4.out.size
      clear hb4 hO3 hz4 hz5 hbw3 HB3 c0 c1 hm5
      obtain ⟨hq, hhq⟩ : ∃ hq, hq = (H ++ Q).length := ⟨_, rfl⟩
      rw [← hhq] at hO4 hHQ
      have HHq := Lib.hid hhq
      clear hhq
      go_wp2_with (at_builtin; refine wpList_append_own _ rfl (.tmp 34) (.tmp 35) 53 rfl w1.heap.size 67 i0 (.agg #[.int .i64 0, .int .i64 0, .int .i64 0]) 3 24 Tryz.underlying53 hi hz0 hz1 hz2 rfl (by decide) _ _ _ rfl hO4 ⟨b4, o4, none⟩ T.length k4 (valsA encZ T) rfl (valsA_length (k := 3) encZ_length T) HZ.out (zrow_one T) (by unfold maxLen; omega) (by omega) hsz4 ?_)
      intro v5 w5 hown5 hgrow5 _
      have HN : Hid (w5.ownsRow w1.heap.size 67 3 v5 (H ++ (Q ++ T)).length (valsA encZ (H ++ (Q ++ T)))) := by
        unfold Hid
        rw [← List.append_assoc, show valsA encZ (H ++ Q ++ T) = valsA encZ (H ++ Q) ++ valsA encZ T by simp [valsA], List.length_append, ← HHq.out]
        exact hown5
      have HB5 := Lib.hid (HB4.out.grown hgrow5 hsz4 (fun r hr => (own_at hO4 r hr).1))
      have hQT : (Q ++ T).length ≤ 34 * (j + 1) := by rw [List.length_append]; omega
      clear hown5 hgrow5 hO4 HB4 hsz4
      go_wp2
      go_roundw
      case rel => exact ⟨j + 1, Q ++ T, by omega, by go_num, hQT, HM3.out, HN.out, HB5.out⟩
      case measure => simp [intOf]; omega
    · obtain rfl : j = S := by omega
      have hQP := HQ.out
      rw [HP.out] at hQP
      injection hQP with hQP
      subst hQP
      have HZ : Hid (ZRow wr u7 (H ++ P)) := arow_of_owns encZ_length rz0 HO.out rfl
      have hbw := HB1.out.trans (HB.out.mono HB1.out.size)
      go_wp2
      go_ret2
      exact ⟨_, rfl, hbw, HZ.out⟩
end Go.Proofs.YtlcnhnhpaddkfaaGreatDoor.Reg

namespace Go.Proofs.YtlcnhnhpaddkfaaGreatDoor.Reg
open Go.RowKit
open Cls (szC blC pdC)
open Mem (Mm MemC Hm rd blkM)
set_option linter.unusedVariables false

theorem as_nil (X : Value) (w : World) : Calls Tryz.prog 112 #[Value.nilIface, X] w fun e w' => e = .returned (.bool false) ∧ w = w' := by
  go_enter Tryz.func112, Tryz.ntmps112
  go_wp2
  go_ret
  exact ⟨rfl, rfl⟩
theorem made_any (h : Hm) (v : Value) (M : Mm) (w : World) (hm : MemC h w v M) : Calls Tryz.prog 110 #[v] w fun e w' => e = .returned (.bool true) ∧ Below w.heap.size w w' := by
  have HC := Lib.hid (Mem.config_any h v M w hm)
  have h7 := Hea.right7 hm.right
  obtain ⟨s, hs⟩ : ∃ s, s = M.s := ⟨_, rfl⟩
  obtain ⟨n, hn⟩ : ∃ n, n = M.n := ⟨_, rfl⟩
  rw [← hs, ← hn] at HC
  rw [← hs] at h7
  have hq : ∀ W, (Op.equalIn 10000 25 (.agg #[.int .i64 s, .int .i64 n]) (.agg #[.int .i64 0, .int .i64 0])).run Tryz.prog W = .ok false W := fun W => by
    rw [show (10000 : Nat) = 9999 + 1 from rfl, run_equalIn_struct W 9999 25 _ _ (by kernel_rfl) (by kernel_rfl)]
    go_simp
    intro e
    omega
  clear hm hs hn h7
  go_enter Tryz.func110, Tryz.ntmps110
  go_wp2_with fail
  refine HC.out.mono ?_
  rintro e w1 ⟨rfl, hb1⟩
  go_wp2
  go_ret
  exact ⟨rfl, hb1⟩
/-- Runs in new memory, and no error. -/
def MOk (w : World) (P : List RZ) (e : Ending) (w' : World) : Prop := ∃ u, e = .returned (.tuple #[u, .int .i64 0]) ∧ Below w.heap.size w w' ∧ ZRow w' u P ∧ ∀ b, u.ownBlock = some b → w.heap.size ≤ b
set_option maxRecDepth 100000 in
set_option maxHeartbeats 4000000 in
theorem map_ok (h : Hm) (v : Value) (M : Mm) (S N : Nat) (P : List RZ) (w : World) (hm : MemC h w v M) (ht : Cls.Tab w) (hs : M.s = (S : Int)) (hn : M.n = (N : Int)) (hP : mapS S N M.l S = some P) :
    Calls Tryz.prog 49 #[v] w (MOk w (joinZ (headR S N ++ P))) := by
  have hR := hm.right
  rw [hs, hn] at hR
  have hlen := hm.len
  rw [hs, hn] at hlen
  have hsz : Lay.sizeC (S : Int) (N : Int) = Lay.sizeT S N := by rw [Lay.sizeC, if_pos hR]; rfl
  rw [hsz] at hlen
  have HMd := Lib.hid (made_any h v M w hm)
  have hcf := fun (W : World) (hW : Below w.heap.size w W) => Mem.config_any h v M W (hm.below hW)
  rw [hs, hn] at hcf
  have HCf := Lib.hid hcf
  clear hcf
  have HIm := Lib.hid (fun (W : World) (hW : Below w.heap.size w W) => Mem.image_any h v M W (hm.below hW))
  have HSv := Lib.hid (fun (u : Value) (W : World) (hW : Below w.heap.size w W) (hr : Row .u8 W u M.l) => survey_ok u M.l S N P W (tab_keep hW ht) hr hR hlen hP)
  have hpl := mapS_len hP
  have hhl := headR_len S N
  have h64 := Mem.right_64 hR
  have hS := Lay.right_out hR
  have hJl : (headR S N ++ P).length ≤ 1000000 := by rw [List.length_append]; omega
  have HJ := Lib.hid (fun (u : Value) (W : World) (hz : ZRow W u (headR S N ++ P)) => joined_any u (headR S N ++ P) W hz hJl)
  clear hJl
  have HAs := Lib.hid as_nil
  generalize headR S N ++ P = R at HSv HJ ⊢
  obtain ⟨g, rfl⟩ : ∃ g, v = .pointer (some ⟨g, 0, none⟩) := ⟨_, hm.hv⟩
  clear hm hP hlen hsz hpl hhl h64 hS hR hs hn ht
  go_enter Tryz.func49, Tryz.ntmps49
  go_wp2_with fail
  refine HMd.out.mono ?_
  rintro e w1 ⟨rfl, hb1⟩
  have HB1 := Lib.hid hb1
  clear hb1
  go_wp2_with fail
  refine (HCf.out _ HB1.out).mono ?_
  rintro e w2 ⟨rfl, hb2⟩
  have HB2 := Lib.hid (HB1.out.trans (hb2.mono HB1.out.size))
  clear hb2
  go_wp2_with fail
  refine (HIm.out _ HB2.out).mono ?_
  rintro e w3 ⟨u3, rfl, hb3, hr3⟩
  have HB3 := Lib.hid (HB2.out.trans (hb3.mono HB2.out.size))
  have HR3 := Lib.hid hr3.1
  clear hb3 hr3
  obtain ⟨a3, k3, rfl, -⟩ := HR3.out
  go_wp2_with fail
  refine (HSv.out _ _ HB3.out HR3.out).mono ?_
  rintro e w4 ⟨u4, rfl, hb4, hz4⟩
  have HB4 := Lib.hid (HB3.out.trans (hb4.mono HB3.out.size))
  have hal := below_made w4 (.cells #[.string { data := #[] }] 149)
  have HZ4 := Lib.hid hz4
  clear hb4
  obtain ⟨a4, k4, rfl, -⟩ := hz4
  go_wp2_with fail
  refine (HAs.out _ _).mono ?_
  rintro e w5 ⟨rfl, rfl⟩
  go_wp2_with fail
  refine (HJ.out _ _ (HZ4.out.mono hal (Nat.le_refl _))).mono ?_
  rintro e w6 ⟨u6, rfl, hb6, ho6⟩
  have HB6 : Hid (Below w.heap.size w w6) := (HB4.out.trans (hal.mono HB4.out.size)).trans (hb6.mono (Nat.le_trans HB4.out.size hal.size))
  have HZ6 : Hid (ZRow w6 u6 _) := arow_of_owns encZ_length rz0 ho6 rfl
  have HN6 : Hid (∀ b, u6.ownBlock = some b → w.heap.size ≤ b) := fun b hb => Nat.le_trans (Nat.le_trans HB4.out.size hal.size) (ho6.lt b hb).1
  clear hb6 ho6 hal
  go_wp2
  go_ret2
  exact ⟨_, rfl, HB6.out, HZ6.out, HN6.out⟩
end Go.Proofs.YtlcnhnhpaddkfaaGreatDoor.Reg

namespace Go.Proofs.YtlcnhnhpaddkfaaGreatDoor.Reg
open Go.RowKit
open Cls (szC blC pdC)
open Sla (pl aT lk Sl Lks FB SlabOk bl_in bl_apart)
open Mem (rd)
open Wat (Rn rl rl_good rl_block)
set_option linter.unusedVariables false

theorem good_nil {x : List Int} {p : Nat} (h : Wat.Good x p []) : p = 0 := by
  generalize hL : ([] : List Rn) = L at h
  cases h with
  | nil => rfl
  | snoc a b c d => simp at hL
theorem good_rl {x : List Int} {p : Nat} {L : List Rn} (h : Wat.Good x p L) : L = rl x p := by
  induction h with
  | nil => rfl
  | snoc h1 h2 h3 h4 ih =>
    rename_i p n L k
    obtain ⟨m, rfl⟩ : ∃ m, n = m + 1 := ⟨n - 1, by omega⟩
    have e0 : x.getD p 0 = k := by have := h3 0 (by omega); rwa [Nat.add_zero] at this
    have hp : p = 0 ∨ x.getD (p - 1) 0 ≠ x.getD p 0 := by
      rcases List.eq_nil_or_concat L with rfl | ⟨M, q, rfl⟩
      · exact .inl (good_nil h1)
      · right
        rw [List.concat_eq_append] at h1 h4
        obtain ⟨g1, g2, g3⟩ := h1.last (r := q) (by simp)
        have g4 := h4 q (by simp)
        have g5 := g3 (q.2.1 - 1) (by omega)
        rw [show q.1 + (q.2.1 - 1) = p - 1 by omega] at g5
        rw [g5, e0]
        exact g4
    have hb := rl_block x p m hp (fun j hj => by rw [h3 j (by omega), e0])
    rw [← ih, e0] at hb
    exact hb.symm
theorem good_inv {x : List Int} {p : Nat} {M : List Rn} {q : Rn} (h : Wat.Good x p (M ++ [q])) : Wat.Good x q.1 M ∧ 1 ≤ q.2.1 ∧ (∀ j, j < q.2.1 → x.getD (q.1 + j) 0 = q.2.2) ∧ (∀ r, M.getLast? = some r → r.2.2 ≠ q.2.2) ∧ p = q.1 + q.2.1 := by
  generalize hL : M ++ [q] = L at h
  cases h with
  | nil => simp at hL
  | snoc a b c d =>
    rename_i p' n' L' k'
    obtain ⟨h1, h2⟩ := List.append_inj' hL rfl
    injection h2 with h2
    subst h1 h2
    exact ⟨a, b, c, d, rfl⟩
/-- Runs one behind the other, each of one kind. -/
inductive Til (x : List Int) : Nat → List RZ → Prop
  | nil : Til x 0 []
  | snoc {p n : Nat} {P : List RZ} {k : Int} : Til x p P → 1 ≤ n → (∀ j, j < n → x.getD (p + j) 0 = k) → Til x (p + n) (P ++ [((p : Int), (n : Int), k)])
def cstW (r : Rn) : RZ := ((r.1 : Int), (r.2.1 : Int), r.2.2)
theorem joinZ_snoc (P : List RZ) (r : RZ) : joinZ (P ++ [r]) = jnZ (joinZ P) r := by
  unfold joinZ
  rw [List.foldl_append]
  rfl
theorem til_join {x : List Int} {p : Nat} {P : List RZ} (h : Til x p P) (hp : p ≤ 1000000) : ∃ L, joinZ P = L.map cstW ∧ Wat.Good x p L := by
  induction h with
  | nil => exact ⟨[], rfl, .nil⟩
  | snoc h1 h2 h3 ih =>
    rename_i p n P k
    obtain ⟨L, hL, hg⟩ := ih (by omega)
    rw [joinZ_snoc, hL]
    rcases List.eq_nil_or_concat L with rfl | ⟨M, q, rfl⟩
    · exact ⟨[(p, n, k)], rfl, Wat.Good.snoc hg h2 h3 (fun r hr => by simp at hr)⟩
    · rw [List.concat_eq_append] at hg ⊢
      obtain ⟨g1, g2, g3⟩ := hg.last (r := q) (by simp)
      rw [List.map_append, List.map_cons, List.map_nil, jnZ_snoc]
      by_cases hk : k = q.2.2
      · have hc : cnZ (cstW q) ((p : Int), (n : Int), k) = true := by
          rw [cnZ_iff, prZ_iff, prZ_iff]
          simp only [cstW]
          omega
        rw [if_pos hc]
        refine ⟨M ++ [(q.1, q.2.1 + n, q.2.2)], by simp [cstW], ?_⟩
        obtain ⟨a, b, c, d, e⟩ := good_inv hg
        have := Wat.Good.snoc (n := q.2.1 + n) (k := q.2.2) a (by omega) (fun j hj => by
          by_cases hjq : j < q.2.1
          · exact c j hjq
          · rw [← hk, show q.1 + j = p + (j - q.2.1) by omega]
            exact h3 _ (by omega)) d
        rw [show q.1 + (q.2.1 + n) = p + n by omega] at this
        exact this
      · have hc : cnZ (cstW q) ((p : Int), (n : Int), k) = false := by
          rw [Bool.eq_false_iff]
          intro q2
          obtain ⟨-, -, -, q3⟩ := cnZ_iff.1 q2
          exact hk q3
        rw [if_neg (by rw [hc]; decide)]
        refine ⟨M ++ [q] ++ [(p, n, k)], by simp [cstW], Wat.Good.snoc hg h2 h3 (fun r hr => ?_)⟩
        simp at hr
        rw [← hr]
        exact fun e => hk e.symm
end Go.Proofs.YtlcnhnhpaddkfaaGreatDoor.Reg

namespace Go.Proofs.YtlcnhnhpaddkfaaGreatDoor.Reg
open Go.RowKit
open Cls (szC blC pdC)
open Sla (pl aT lk Sl Lks FB SlabOk bl_in bl_apart St Sb Co)
open Mem (rd Hm)
open Lis (Cf)
set_option linter.unusedVariables false

theorem flw_free {l : List Int} {A : Nat} {c : Int} (hA : 0 < A) (hl : A + 1024 ≤ l.length) (hl2 : l.length ≤ 1000000) : ∀ (f seen : List Nat) (n : Nat), f.Nodup → (∀ k ∈ f, k < blC c ∧ k ∉ seen) → Lks l A c f → f.length + 1 ≤ n →
    flw l A c n (lk A c f : Int) seen = some (f.reverse ++ seen) := by
  intro f
  induction f with
  | nil =>
    intro seen n _ _ _ hn
    obtain ⟨m, rfl⟩ : ∃ m, n = m + 1 := ⟨n - 1, by simp at hn; omega⟩
    rw [flw, if_pos (by rfl)]
    rfl
  | cons k f ih =>
    intro seen n hnd hk hL hn
    obtain ⟨m, rfl⟩ : ∃ m, n = m + 1 := ⟨n - 1, by simp at hn; omega⟩
    obtain ⟨hk1, hk2⟩ := hk k (by simp)
    obtain ⟨hd1, hd2⟩ := List.nodup_cons.1 hnd
    have hin := bl_in hk1
    have hne : ((lk A c (k :: f) : Nat) : Int) ≠ 0 := by
      show ((pl A c k : Nat) : Int) ≠ 0
      unfold pl
      omega
    have hbf : lk A c f ≤ 1000000 := by
      cases f with
      | nil => show 0 ≤ 1000000; omega
      | cons i r =>
        have := bl_in (hk i (by simp)).1
        show pl A c i ≤ 1000000
        unfold pl
        omega
    have hrd : rd l (pl A c k + 4) 4 = (lk A c f : Int) := Sla.fb_rd hL.1 (by omega) (by unfold pl; omega) (by omega) (by omega)
    rw [flw, if_neg hne]
    show (match ixP A c ((pl A c k : Nat) : Int) with | none => none | some k => _) = _
    rw [ixP_at hk1]
    simp only
    rw [if_neg hk2, hrd, ih (k :: seen) m hd2 (fun i hi => ⟨(hk i (by simp [hi])).1, fun q => by
      rcases List.mem_cons.1 q with rfl | q
      · exact hd1 hi
      · exact (hk i (by simp [hi])).2 q⟩) hL.2 (by simp at hn; omega)]
    simp
/-- The runs of a slab. -/
def slT (A : Nat) (s : Sl) : List RZ := if s.c = 0 then [((A : Int), 1024, 7)] else dvR A s.c s.f.reverse
theorem slR_ok {l x : List Int} {A : Nat} {s : Sl} (d : SlabOk l x A s) (hA : 0 < A) (hl : A + 1024 ≤ l.length) (hl2 : l.length ≤ 1000000) (hv : s.c ≠ 0 → s.v ≠ []) :
    slR l A (s.c : Int) (s.v.length : Int) (lk A s.c s.f : Int) = some (slT A s) := by
  have hc9 := d.ok.c
  unfold slR slT
  rw [if_neg (by omega)]
  by_cases h0 : s.c = 0
  · have hb : blC (s.c : Int) = 0 := by rw [h0]; decide
    have hf : s.f = [] := by
      rcases List.eq_nil_or_concat s.f with q | ⟨M, k, q⟩
      · exact q
      · have := d.ok.lt k (by rw [q]; simp)
        omega
    have hv0 : s.v = [] := Sla.zero_v h0
    rw [if_pos (by rw [h0]; rfl), if_pos h0, hv0, hf, if_pos]
    refine ⟨rfl, rfl, zer_iff.2 fun i hi => ?_⟩
    exact (d.p (A + i) (by rw [hb]; omega) (by omega)).2
  · rw [if_neg (by omega), if_neg h0]
    have hfl := flw_free hA hl hl2 s.f [] (blC (s.c : Int) + 1) d.ok.nd (fun k hk => ⟨d.ok.lt k hk, by simp⟩) d.f (by have := d.ok.len; omega)
    rw [List.append_nil] at hfl
    rw [hfl]
    simp only
    have hln := d.ok.len
    have hvp := List.length_pos_iff.2 (hv h0)
    rw [if_neg]
    rw [List.length_reverse]
    omega
theorem til_blocks {x : List Int} {A : Nat} {c : Int} {F : List Nat} {P : List RZ} (hT : Til x A P) (hx : ∀ k, k < blC c → ∀ i, i < szC c → x.getD (pl A c k + i) 0 = if k ∈ F then 6 else 5) :
    ∀ k, k ≤ blC c → Til x (A + k * szC c) (P ++ blkL A c F k) := by
  intro k
  induction k with
  | zero => intro _; rw [Nat.zero_mul, Nat.add_zero, show blkL A c F 0 = [] from rfl, List.append_nil]; exact hT
  | succ k ih =>
    intro hk
    have hin := bl_in (show k < blC c by omega)
    have h1 := ih (by omega)
    rw [blkL_succ, ← List.append_assoc, show A + (k + 1) * szC c = (A + k * szC c) + szC c by rw [Nat.add_mul]; omega]
    exact Til.snoc h1 (by omega) (fun j hj => hx k (by omega) j hj)
theorem til_slab {l x : List Int} {A : Nat} {s : Sl} {P : List RZ} (d : SlabOk l x A s) (hT : Til x A P) : Til x (A + 1024) (P ++ slT A s) := by
  unfold slT
  by_cases h0 : s.c = 0
  · rw [if_pos h0]
    have hb : blC (s.c : Int) = 0 := by rw [h0]; decide
    exact Til.snoc (n := 1024) hT (by omega) (fun j hj => by
      have := (d.p (A + j) (by rw [hb]; omega) (by omega)).1
      rw [if_pos h0] at this
      exact this)
  · rw [if_neg h0]
    have hz : ¬ szC (s.c : Int) = 0 := fun e => by have := Cls.szC_zero.1 e; have := d.ok.c; omega
    have hpe := Sla.pd_end (s.c : Int) hz
    have h1 := til_blocks (F := s.f.reverse) hT (fun k hk i hi => by rw [d.k k hk i hi]; simp) (blC (s.c : Int)) (Nat.le_refl _)
    unfold dvR padR
    rw [← List.append_assoc]
    change Til x (A + 1024) (P ++ blkL A (s.c : Int) s.f.reverse (blC (s.c : Int)) ++ _)
    by_cases hp : 0 < pdC (s.c : Int)
    · rw [if_pos hp, show A + 1024 - pdC (s.c : Int) = A + blC (s.c : Int) * szC (s.c : Int) by omega, show A + 1024 = (A + blC (s.c : Int) * szC (s.c : Int)) + pdC (s.c : Int) by omega]
      exact Til.snoc h1 (by omega) (fun j hj => by
        have := (d.p (A + blC (s.c : Int) * szC (s.c : Int) + j) (by omega) (by omega)).1
        rw [if_neg h0] at this
        exact this)
    · rw [if_neg hp, List.append_nil, show A + 1024 = A + blC (s.c : Int) * szC (s.c : Int) by omega]
      exact h1
theorem til_head {x : List Int} {S N : Nat} (hS : 7 ≤ S) (hN : 32 * S ≤ N) (h2 : N % 2 = 0) (hx : ∀ t, t < Lay.baseT S N → x.getD t 0 = Mem.kindT S N t) : Til x (Lay.baseT S N) (headR S N) := by
  have hk : ∀ t, t < Lay.baseT S N → x.getD t 0 = if t < 8 then 1 else if t < 128 then 2 else if t < 128 + 16 * S then 3 else if t < 128 + 16 * S + 4 * N then 4 else 8 := fun t ht => by
    rw [hx t ht]
    unfold Mem.kindT Lay.slT Lay.endT
    by_cases q1 : t < 8
    · rw [if_pos q1, if_pos q1]
    rw [if_neg q1, if_neg q1]
    by_cases q2 : t < 128
    · rw [if_pos q2, if_pos q2]
    rw [if_neg q2, if_neg q2]
    by_cases q3 : t < 128 + 16 * S
    · rw [if_pos q3, if_pos q3]
    rw [if_neg q3, if_neg q3]
    by_cases q4 : t < 128 + 16 * S + 4 * N
    · rw [if_pos q4, if_pos q4]
    rw [if_neg q4, if_neg q4, if_pos ht]
  have he : Lay.endT S N = 128 + 16 * S + 4 * N := rfl
  have hp := Lay.pad_two (s := S) h2
  have hbt : Lay.baseT S N = Lay.endT S N + Lay.padT S N := rfl
  have t0 : Til x 0 [] := .nil
  have t1 := Til.snoc (n := 8) (k := 1) t0 (by omega) (fun j hj => by rw [hk _ (by omega), if_pos (by omega)])
  have t2 := Til.snoc (n := 120) (k := 2) t1 (by omega) (fun j hj => by rw [hk _ (by omega), if_neg (by omega), if_pos (by omega)])
  have t3 := Til.snoc (n := 16 * S) (k := 3) t2 (by omega) (fun j hj => by rw [hk _ (by omega), if_neg (by omega), if_neg (by omega), if_pos (by omega)])
  have t4 := Til.snoc (n := 4 * N) (k := 4) t3 (by omega) (fun j hj => by rw [hk _ (by omega), if_neg (by omega), if_neg (by omega), if_neg (by omega), if_pos (by omega)])
  rcases hp with ⟨-, hp⟩ | ⟨-, hp⟩
  · have e : headR S N = [(((0 : Nat) : Int), ((8 : Nat) : Int), (1 : Int)), (((0 + 8 : Nat) : Int), ((120 : Nat) : Int), 2), (((0 + 8 + 120 : Nat) : Int), ((16 * S : Nat) : Int), 3), (((0 + 8 + 120 + 16 * S : Nat) : Int), ((4 * N : Nat) : Int), 4)] := by
      unfold headR Lay.runsT
      rw [if_pos hp]
      simp [Lay.slT]
    rw [e, show Lay.baseT S N = 0 + 8 + 120 + 16 * S + 4 * N by omega]
    exact t4
  · have t5 := Til.snoc (n := 8) (k := 8) t4 (by omega) (fun j hj => by rw [hk _ (by omega), if_neg (by omega), if_neg (by omega), if_neg (by omega), if_neg (by omega)])
    have e : headR S N = [(((0 : Nat) : Int), ((8 : Nat) : Int), (1 : Int)), (((0 + 8 : Nat) : Int), ((120 : Nat) : Int), 2), (((0 + 8 + 120 : Nat) : Int), ((16 * S : Nat) : Int), 3), (((0 + 8 + 120 + 16 * S : Nat) : Int), ((4 * N : Nat) : Int), 4), (((0 + 8 + 120 + 16 * S + 4 * N : Nat) : Int), ((8 : Nat) : Int), 8)] := by
      unfold headR Lay.runsT
      rw [if_neg (by omega)]
      simp [Lay.slT, Lay.endT]
    rw [e, show Lay.baseT S N = 0 + 8 + 120 + 16 * S + 4 * N + 8 by omega]
    exact t5
/-- All slabs' runs. -/
def allT (S N : Nat) (T : List Sl) : Nat → List RZ
  | 0 => []
  | j + 1 => allT S N T j ++ slT (aT S N j) (T.getD j Sl.zero)
/-- What the map of such a memory is: what its watch says. -/
theorem st_map {h : Hm} {S N : Nat} {l0 l : List Int} {T : List Sl} {W : World} (d : St h S N l0 l T W) : ∃ M : Mem.Mm, Mem.MemC h W (Sla.pV h) M ∧ Cls.Tab W ∧ M.s = (S : Int) ∧ M.n = (N : Int) ∧ M.l = l ∧ M.ft = 0 ∧
    mapS S N l S = some (allT S N T S) ∧ Til M.x M.x.length (headR S N ++ allT S N T S) ∧ M.x.length ≤ 100000 := by
  obtain ⟨H, L, ⟨C, rfl, rfl, h3, h4, h5⟩, d2⟩ := d
  obtain ⟨b1, b2, b3, b4⟩ := Sla.ok_base h5.ok
  obtain ⟨q1, q2, q3, q4, q5⟩ := Lay.right_out h5.ok.right
  obtain ⟨ht, lk0, hm⟩ := id h4.m
  have key : ∀ j, j ≤ C.s → mapS C.s C.n l j = some (allT C.s C.n T j) ∧ Til C.x (Lay.baseT C.s C.n + 1024 * j) (headR C.s C.n ++ allT C.s C.n T j) := by
    intro j
    induction j with
    | zero => intro _; exact ⟨rfl, by rw [show allT C.s C.n T 0 = [] from rfl, List.append_nil, Nat.mul_zero, Nat.add_zero]; exact til_head (by omega) (by omega) (by omega) h5.xlow⟩
    | succ j ih =>
      intro hj
      obtain ⟨i1, i2⟩ := ih (by omega)
      have hh := h5.rep.head j (by omega)
      rw [d2.h j (by omega)] at hh
      simp only [] at hh
      have hsl := h5.sl j (by omega)
      have hr : slJ C.s C.n l j = some (slT (aT C.s C.n j) (T.getD j Sl.zero)) := by
        unfold slJ
        rw [Nat.add_zero] at hh
        rw [hh.1, hh.2.1, hh.2.2]
        exact slR_ok hsl (by unfold aT; omega) (by rw [h5.ll]; unfold aT; omega) (by rw [h5.ll]; omega) (d2.v j (by omega))
      refine ⟨?_, ?_⟩
      · rw [mapS, i1]
        simp only
        rw [hr]
        rfl
      · have := til_slab hsl (P := headR C.s C.n ++ allT C.s C.n T j) i2
        rw [List.append_assoc] at this
        rw [show Lay.baseT C.s C.n + 1024 * (j + 1) = aT C.s C.n j + 1024 by unfold aT; omega]
        exact this
  obtain ⟨k1, k2⟩ := key C.s (Nat.le_refl _)
  refine ⟨_, hm, h4.m.1.c, rfl, rfl, rfl, ?_, k1, ?_, ?_⟩
  · exact h3
  · show Til C.x C.x.length _
    rw [h5.xl, b3]
    exact k2
  · show C.x.length ≤ 100000
    rw [h5.xl]
    exact b4
end Go.Proofs.YtlcnhnhpaddkfaaGreatDoor.Reg

namespace Go.Proofs.YtlcnhnhpaddkfaaGreatDoor.Reg
open Go.RowKit
open Cls (szC blC pdC)
open Sla (pl aT lk Sl St Wd Ts pV)
open Mem (rd Hm blkM)
set_option linter.unusedVariables false

set_option maxRecDepth 100000 in
theorem sameZ_any (v1 v2 : Value) (P : List RZ) (w : World) (h1 : ZRow w v1 P) (h2 : ZRow w v2 P) :
    Calls Tryz.prog 28 #[v1, v2] w fun e w' => e = .returned (.bool true) ∧ ∃ m, w' = w.drewN m := by
  obtain ⟨a1, k1, rfl, q1, q2, g1⟩ := h1
  obtain ⟨a2, k2, rfl, -, -, g2⟩ := h2
  have G1 := Lib.hid g1
  have G2 := Lib.hid g2
  have hPl : (P.length : Int) ≤ 9223372036854775807 := by omega
  clear g1 g2
  go_enter Tryz.func28, Tryz.ntmps28
  go_wp2
  go_loopw [5] (fun i wr => ∃ k : Nat, k ≤ P.length ∧ i = .int .i64 k ∧ Hid (∃ m, wr = w.drewN m)) (fun i _ => P.length - (intOf i).toNat)
  case atStart => exact ⟨0, Nat.zero_le _, rfl, 0, rfl⟩
  case round =>
    obtain ⟨k, hk, rfl, HW⟩ := hrel
    by_cases hlt : k < P.length
    · have hlt1 : (k : Int) < (P.length : Int) := by omega
      have hlt0 : (0 : Int) ≤ (k : Int) := by omega
      have hbel := Lay.below_drawn (Below.refl w.heap.size w) HW.out
      obtain ⟨b1, o1, rfl, hb1, hc1⟩ := G1.out (by rintro rfl; simp at hlt)
      obtain ⟨b2, o2, rfl, hb2, hc2⟩ := G2.out (by rintro rfl; simp at hlt)
      have c1 : wr.cell? ⟨b1, o1 + k * 3, none⟩ = _ := (hbel.cell (p := ⟨b1, o1 + k * 3, none⟩) hb1).trans (hc1 k hlt 0 _ rfl)
      have c2 := (hbel.cell (p := ⟨b1, o1 + k * 3 + 1, none⟩) hb1).trans (hc1 k hlt 1 _ rfl)
      have c3 := (hbel.cell (p := ⟨b1, o1 + k * 3 + 2, none⟩) hb1).trans (hc1 k hlt 2 _ rfl)
      have c4 : wr.cell? ⟨b2, o2 + k * 3, none⟩ = _ := (hbel.cell (p := ⟨b2, o2 + k * 3, none⟩) hb2).trans (hc2 k hlt 0 _ rfl)
      have c5 := (hbel.cell (p := ⟨b2, o2 + k * 3 + 1, none⟩) hb2).trans (hc2 k hlt 1 _ rfl)
      have c6 := (hbel.cell (p := ⟨b2, o2 + k * 3 + 2, none⟩) hb2).trans (hc2 k hlt 2 _ rfl)
      obtain ⟨x, hx⟩ : ∃ x, x = P.getD k rz0 := ⟨_, rfl⟩
      rw [← hx] at c1 c2 c3 c4 c5 c6
      obtain ⟨x1, x2, x3⟩ := x
      simp only [] at c1 c2 c3 c4 c5 c6
      clear hc1 hc2 hx hbel
      go_wp2_with fail
      go_quiet (fail)
      go_wp2
      go_roundw
      case rel => exact ⟨k + 1, by omega, by go_num, Lay.drewN_more HW.out _⟩
      case measure => simp [intOf]; omega
    · obtain rfl : k = P.length := by omega
      go_wp2
      go_ret
      exact ⟨rfl, HW.out⟩

set_option maxRecDepth 100000 in
theorem equalZ_any (v1 v2 : Value) (P : List RZ) (w : World) (h1 : ZRow w v1 P) (h2 : ZRow w v2 P) :
    Calls Tryz.prog 113 #[v1, v2] w fun e w' => e = .returned (.bool true) ∧ ∃ m, w' = w.drewN m := by
  obtain ⟨a1, k1, rfl, q1, q2, g1⟩ := h1
  obtain ⟨a2, k2, rfl, -, -, g2⟩ := h2
  have G1 := Lib.hid g1
  have G2 := Lib.hid g2
  have hPl : (P.length : Int) ≤ 9223372036854775807 := by omega
  clear g1 g2
  go_enter Tryz.func113, Tryz.ntmps113
  go_wp2
  go_loopw [13] (fun i wr => ∃ k : Nat, k ≤ P.length ∧ i = .int .i64 k ∧ Hid (∃ m, wr = w.drewN m)) (fun i _ => P.length - (intOf i).toNat)
  case atStart => exact ⟨0, Nat.zero_le _, rfl, 0, rfl⟩
  case round =>
    obtain ⟨k, hk, rfl, HW⟩ := hrel
    by_cases hlt : k < P.length
    · have hlt1 : (k : Int) < (P.length : Int) := by omega
      have hlt0 : (0 : Int) ≤ (k : Int) := by omega
      have hbel := Lay.below_drawn (Below.refl w.heap.size w) HW.out
      obtain ⟨b1, o1, rfl, hb1, hc1⟩ := G1.out (by rintro rfl; simp at hlt)
      obtain ⟨b2, o2, rfl, hb2, hc2⟩ := G2.out (by rintro rfl; simp at hlt)
      have c1 : wr.cell? ⟨b1, o1 + k * 3, none⟩ = _ := (hbel.cell (p := ⟨b1, o1 + k * 3, none⟩) hb1).trans (hc1 k hlt 0 _ rfl)
      have c2 := (hbel.cell (p := ⟨b1, o1 + k * 3 + 1, none⟩) hb1).trans (hc1 k hlt 1 _ rfl)
      have c3 := (hbel.cell (p := ⟨b1, o1 + k * 3 + 2, none⟩) hb1).trans (hc1 k hlt 2 _ rfl)
      have c4 : wr.cell? ⟨b2, o2 + k * 3, none⟩ = _ := (hbel.cell (p := ⟨b2, o2 + k * 3, none⟩) hb2).trans (hc2 k hlt 0 _ rfl)
      have c5 := (hbel.cell (p := ⟨b2, o2 + k * 3 + 1, none⟩) hb2).trans (hc2 k hlt 1 _ rfl)
      have c6 := (hbel.cell (p := ⟨b2, o2 + k * 3 + 2, none⟩) hb2).trans (hc2 k hlt 2 _ rfl)
      obtain ⟨x, hx⟩ : ∃ x, x = P.getD k rz0 := ⟨_, rfl⟩
      rw [← hx] at c1 c2 c3 c4 c5 c6
      obtain ⟨x1, x2, x3⟩ := x
      simp only [] at c1 c2 c3 c4 c5 c6
      clear hc1 hc2 hx hbel
      go_wp2_with fail
      go_quiet (fail)
      go_wp2
      go_roundw
      case rel => exact ⟨k + 1, by omega, by go_num, Lay.drewN_more HW.out _⟩
      case measure => simp [intOf]; omega
    · obtain rfl : k = P.length := by omega
      go_wp2
      go_ret
      exact ⟨rfl, HW.out⟩

theorem zrow_of_row {w : World} {u : Value} {L : List Wat.Rn} (h : Wat.RowR w u L) : ZRow w u (L.map cstW) := by
  obtain ⟨a, cap, h1, h2, h3, h5⟩ := h
  refine ⟨a, cap, by rw [List.length_map]; exact h1, by rw [List.length_map]; exact h2, h3, fun hne => ?_⟩
  obtain ⟨b, off, e, hlt, hc⟩ := h5 (by rintro rfl; exact hne rfl)
  refine ⟨b, off, e, hlt, fun i hi j x hx => hc i (by rw [List.length_map] at hi; exact hi) j x ?_⟩
  rw [List.length_map] at hi
  have e2 : (L.map cstW).getD i rz0 = cstW (L.getD i (0, 0, 0)) := by simp [List.getD, hi]
  rw [e2] at hx
  exact hx
/-- The runs of such a memory, as its bytes tell them. -/
def stJ (S N : Nat) (T : List Sl) : List RZ := joinZ (headR S N ++ allT S N T S)
section
variable {h : Hm} {S N : Nat} {l0 l : List Int} {T : List Sl} {W : World}
theorem st_map_any (d : St h S N l0 l T W) : Calls Tryz.prog 49 #[pV h] W (MOk W (stJ S N T)) := by
  obtain ⟨M, h1, h2, h3, h4, h5, h6, h7, -, -⟩ := st_map d
  exact map_ok h (pV h) M S N _ W h1 h2 h3 h4 (by rw [h5]; exact h7)
theorem st_runs_any (d : St h S N l0 l T W) : Calls Tryz.prog 29 #[pV h] W fun e W' => ∃ u, e = .returned u ∧ ZRow W' u (stJ S N T) ∧ Below W.heap.size W W' := by
  obtain ⟨M, h1, h2, h3, h4, h5, h6, h7, h8, h9⟩ := st_map d
  obtain ⟨L, hL, hg⟩ := til_join h8 (by omega)
  rw [good_rl hg] at hL
  refine (Mem.runs_any h (pV h) M W h1).mono ?_
  rintro e W' ⟨u, rfl, hr, hb⟩
  refine ⟨u, rfl, ?_, hb⟩
  have := zrow_of_row hr
  rw [← hL] at this
  exact this
theorem agree_any (d : St h S N l0 l T W) : Calls Tryz.prog 50 #[pV h] W fun e W' => e = .returned (.bool true) ∧ Below W.heap.size W W' := by
  have HM := Lib.hid (st_map_any d)
  have HR := Lib.hid (fun W' (hb : Below W.heap.size W W') => st_runs_any (d.below hb))
  have HE := Lib.hid (fun v1 v2 W' h1 h2 => equalZ_any v1 v2 (stJ S N T) W' h1 h2)
  generalize stJ S N T = J at HM HR HE
  unfold pV at *
  clear d
  go_enter Tryz.func50, Tryz.ntmps50
  go_wp2_with fail
  refine HM.out.mono ?_
  rintro e w1 ⟨u1, rfl, hb1, hz1, -⟩
  have HB1 := Lib.hid hb1
  have HZ1 := Lib.hid hz1
  obtain ⟨a1, k1, rfl, -⟩ := hz1
  clear hb1
  go_wp2_with fail
  refine (HR.out _ HB1.out).mono ?_
  rintro e w2 ⟨u2, rfl, hz2, hb2⟩
  have HB2 := Lib.hid (HB1.out.trans (hb2.mono HB1.out.size))
  have HZ2 := Lib.hid hz2
  have HZ3 := Lib.hid (HZ1.out.mono hb2 (Nat.le_refl _))
  obtain ⟨a2, k2, rfl, -⟩ := hz2
  clear hb2 HZ1
  go_wp2_with fail
  refine (HE.out _ _ _ HZ3.out HZ2.out).mono ?_
  rintro e w3 ⟨rfl, hm3⟩
  have HB3 := Lib.hid (Lay.below_drawn HB2.out hm3)
  clear hm3
  go_wp2
  go_ret
  exact ⟨rfl, HB3.out⟩
end
def X9 : List Sl := (Sla.tkF 7 224 Sla.X0 9).2
theorem ex9 : (Sla.tkF 7 224 Sla.X0 9).1 = (1136, 0) := by kernel_rfl
def exJ : List RZ := [(0, 8, 1), (8, 120, 2), (128, 112, 3), (240, 896, 4), (1136, 512, 5), (1648, 512, 6), (2160, 6144, 7)]
theorem exJ9 : stJ 7 224 X9 = exJ := by kernel_rfl
theorem exTil : tilZ 8304 exJ 0 = true := by decide
theorem exAt : atZ 1136 exJ = 5 := by decide
set_option maxRecDepth 100000 in
set_option maxHeartbeats 4000000 in
theorem maps_any (w : World) (ht : Ts w) : Calls Tryz.prog 41 #[] w fun e w' => e = .returned (.bool true) ∧ Below w.heap.size w w' := by
  have HN := Lib.hid (Sla.start_any 7 224 w (by decide) ht)
  have tk := fun h l0 l W (d : St h 7 224 l0 l Sla.X0 W) => d.take 9
  simp only [ex9] at tk
  have H1 : Hid (∀ h n l0 l W, Wd w h n 7 224 l0 l Sla.X0 W → Calls Tryz.prog 16 #[pV h, .int .i64 9] W fun e W' => e = .returned (.tuple #[.int .i64 1136, .int .i64 0]) ∧ ∃ l', Wd w h n 7 224 l0 l' X9 W') := fun h n l0 l W d => by
    refine (tk h l0 l W d.st).mono ?_
    rintro e W' ⟨l', he, hs, hf, -⟩
    exact ⟨he, l', d.fr hs hf⟩
  have HM := Lib.hid (fun h n l0 l W (d : Wd w h n 7 224 l0 l X9 W) => exJ9 ▸ st_map_any d.st)
  have HA := Lib.hid (fun h n l0 l W (d : Wd w h n 7 224 l0 l X9 W) => agree_any d.st)
  have HT := Lib.hid (fun v W (hz : ZRow W v exJ) => exTil ▸ tiles_any v exJ 8304 W hz)
  have HAt := Lib.hid (fun v W (hz : ZRow W v exJ) => exAt ▸ at_any v exJ 1136 W hz)
  have HCe : Hid (∀ W p k, ZRow W (.slice p 7 k) exJ → ∃ b o, p = some ⟨b, o, none⟩ ∧ b < W.heap.size ∧ (∀ W', Below W.heap.size W W' → (W'.cell? ⟨b, o + 12, none⟩ = some (.int .i64 1136) ∧ W'.cell? ⟨b, o + 13, none⟩ = some (.int .i64 512) ∧ W'.cell? ⟨b, o + 14, none⟩ = some (.int .i64 5)) ∧ (W'.cell? ⟨b, o + 15, none⟩ = some (.int .i64 1648) ∧ W'.cell? ⟨b, o + 16, none⟩ = some (.int .i64 512) ∧ W'.cell? ⟨b, o + 17, none⟩ = some (.int .i64 6)) ∧ W'.cell? ⟨b, o + 19, none⟩ = some (.int .i64 6144))) := fun W p k hz => by
    have hz' := hz
    obtain ⟨a, c, e, h2, h3, h5⟩ := hz
    injection e with e1 _ _
    subst e1
    obtain ⟨b, o, rfl, hlt, hc⟩ := h5 (by simp [exJ])
    refine ⟨b, o, rfl, hlt, fun W' hb => ?_⟩
    have key := fun i v (hv : W.cell? ⟨b, o + i, none⟩ = some v) => (hb.cell (p := ⟨b, o + i, none⟩) hlt).trans hv
    exact ⟨⟨key 12 _ (hc 4 (by decide) 0 _ rfl), key 13 _ (hc 4 (by decide) 1 _ rfl), key 14 _ (hc 4 (by decide) 2 _ rfl)⟩, ⟨key 15 _ (hc 5 (by decide) 0 _ rfl), key 16 _ (hc 5 (by decide) 1 _ rfl), key 17 _ (hc 5 (by decide) 2 _ rfl)⟩, key 19 _ (hc 6 (by decide) 1 _ rfl)⟩
  have HL7 : Hid (exJ.length = 7) := rfl
  generalize exJ = J at HM HT HAt HCe HL7
  rw [show ((7 : Nat) : Int) = 7 from rfl, show ((224 : Nat) : Int) = 224 from rfl] at HN
  change Hid (Calls _ _ _ _ fun e w' => ∃ h, _ ∧ (∀ W, _ → Calls _ _ _ _ fun e W' => ∃ l0, _ ∧ Wd w h w'.heap.size 7 224 l0 l0 Sla.X0 W') ∧ _) at HN
  generalize Sla.X0 = Y0 at HN H1 tk
  generalize X9 = Y9 at H1 HM HA
  clear tk ht
  unfold pV at *
  go_enter Tryz.func41, Tryz.ntmps41
  go_wp2_with fail
  refine HN.out.mono ?_
  rintro e w1 ⟨h, rfl, hB1, hb1⟩
  have HBg := Lib.hid (hB1 w1 (Below.refl _ _))
  clear hB1 hb1 HN
  go_wp2_with fail
  refine HBg.out.mono ?_
  rintro e w2 ⟨l0, rfl, hd2⟩
  have HD2 := Lib.hid hd2
  clear hd2 HBg
  go_wp2_with fail
  refine (H1.out _ _ _ _ _ HD2.out).mono ?_
  rintro e w3 ⟨rfl, l3, hd3⟩
  have HD3 := Lib.hid hd3
  clear hd3 HD2
  go_wp2_with fail
  refine (HM.out _ _ _ _ _ HD3.out).mono ?_
  rintro e w4 ⟨u4, rfl, hb4, hz4, -⟩
  have HD4 := Lib.hid (HD3.out.below hb4)
  have hz := hz4
  obtain ⟨a4, k4, rfl, hk4, -⟩ := hz4
  rw [HL7.out] at hz hk4
  rw [HL7.out]
  obtain ⟨b, o, rfl, hbl, hc⟩ := HCe.out _ _ _ hz
  have HZ := Lib.hid hz
  have HC := Lib.hid hc
  obtain ⟨⟨e0, e1, e2⟩, ⟨e3, e4, e5⟩, e6⟩ := hc w4 (Below.refl _ _)
  clear hz hc hb4 HD3 HM
  go_wp2_with fail
  refine (HT.out _ _ HZ.out).mono ?_
  rintro e w5 ⟨rfl, hb5⟩
  have HD5 := Lib.hid (HD4.out.below hb5)
  have HZ5 := Lib.hid (HZ.out.mono hb5 (Nat.le_refl _))
  clear hb5 HD4 HZ HC e0 e1 e2 e3 e4 e5 e6
  go_wp2_with fail
  refine (HA.out _ _ _ _ _ HD5.out).mono ?_
  rintro e w6 ⟨rfl, hb6⟩
  have HD6 := Lib.hid (HD5.out.below hb6)
  have HZ6 := Lib.hid (HZ5.out.mono hb6 (Nat.le_refl _))
  clear hb6 HD5 HZ5
  go_wp2_with fail
  refine (HAt.out _ _ HZ6.out).mono ?_
  rintro e w7 ⟨rfl, hb7⟩
  have HD7 := Lib.hid (HD6.out.below hb7).b
  clear hb7 HD6 HZ6
  go_wp2
  go_ret
  exact ⟨rfl, HD7.out⟩
end Go.Proofs.YtlcnhnhpaddkfaaGreatDoor.Reg

namespace Go.Proofs.YtlcnhnhpaddkfaaGreatDoor.Sla
open Go.RowKit Num
open Mem (Mm MemC MRet Hm rd blkM)
open Lis (Cf LM LR Tb at_ Nx Pv Rep Hx valsN)
open Cls (szC blC pdC)
open Arn (wrL is64)
set_option linter.unusedVariables false

section
variable {W W' : World} {u u' : Value} {A A' : List Nat} {x : Nat}
theorem OwnI.shape {m : Nat} (d : OwnI m W u A) : ∃ p c, u = .slice p A.length c ∧ A.length ≤ c ∧ c ≤ 9223372036854775807 := by
  rcases d.2 with ⟨rfl, h0⟩ | ⟨g, cap, cur, rfl, hg, hgg, hc1, hc2, rest⟩
  · rw [h0]; exact ⟨none, 0, rfl, Nat.le_refl _, by omega⟩
  · exact ⟨_, _, rfl, hc1, by unfold maxLen at hc2; omega⟩
theorem OwnI.cells {m : Nat} {p : Option Addr} {k c : Nat} (d : OwnI m W (.slice p k c) A) (hA : A ≠ []) : ∃ g, p = some ⟨g, 0, none⟩ ∧ ∀ i, i < A.length → W.cell? ⟨g, i, none⟩ = some (.int .i64 ((A.getD i 0 : Nat) : Int)) := by
  rcases d.2 with ⟨h1, h0⟩ | ⟨g, cap, cur, h1, hg, hgg, hc1, hc2, hc3, hc4⟩
  · exact absurd (List.length_eq_zero_iff.1 h0) hA
  · injection h1 with h1 _ _
    subst h1
    refine ⟨g, rfl, fun i hi => ?_⟩
    rw [cell_block hgg]
    have e : (valsN A)[i]? = some (.int .i64 ((A.getD i 0 : Nat) : Int)) := by
      unfold valsN List.getD
      rw [List.getElem?_map, List.getElem?_eq_getElem hi]
      rfl
    rw [← hc4, List.getElem?_take_of_lt (by omega)] at e
    rw [← e, Array.getElem?_toList]
theorem OwnI.snoc {n k : Nat} {u : Value} (h : W.ownsRow n 3 1 u (k + 1) (valsN A ++ [.int .i64 (x : Int)])) (hk : k = A.length) : OwnI n W u (A ++ [x]) := by
  subst hk
  unfold OwnI
  rw [Lis.valsN_snoc, List.length_append]
  exact h
end
theorem Wd.pl_len {w0 W : World} {h : Hm} {n S N : Nat} {l0 l : List Int} {T : List Sl} (d : Wd w0 h n S N l0 l T W) {j k : Nat} (hj : j < S) (hk : k ∈ (T.getD j Sl.zero).v) : pl (aT S N j) (T.getD j Sl.zero).c k + szC (T.getD j Sl.zero).c ≤ l.length := by
  obtain ⟨H, L, ⟨C, rfl, rfl, h3, h4, h5⟩, d2⟩ := d.st
  have := pl_bd (S := 0) (N := 0) h5.ok hj (mem_lt hk).1
  rw [h5.ll]
  omega
end Go.Proofs.YtlcnhnhpaddkfaaGreatDoor.Sla

namespace Go.Proofs.YtlcnhnhpaddkfaaGreatDoor.Reg
open Go.RowKit
open Cls (szC blC pdC)
open Sla (pl aT lk Sl St Wd Ts pV OwnI Tkn Kp bl_in)
open Mem (rd Hm blkM)
open Arn (is64 wrL)
set_option linter.unusedVariables false

abbrev Act := Sla.Act
def ActR (w : World) (cs : List Value) (x : Act) : Prop := cs = x.cells ∧ is64 x.k ∧ is64 x.n
abbrev ActRow := GRow 2 ActR Sla.Act.zero
theorem gv_any {w0 W : World} {h : Hm} {n S N : Nat} {l0 l : List Int} {T : List Sl} (d : Wd w0 h n S N l0 l T W) {a : Int} (h64 : is64 a) : Calls Tryz.prog 19 #[pV h, .int .i64 a] W fun e W' => ∃ l' T' er, e = .returned (.int .i64 er) ∧ Wd w0 h n S N l0 l' T' W' ∧ Fr W.heap.size (blkM h) W W' := by
  refine (d.st.give h64).mono ?_
  rintro e W' ⟨l', he, hs, hf, -⟩
  exact ⟨l', _, _, he, d.fr hs hf, hf⟩
set_option maxRecDepth 100000 in
set_option maxHeartbeats 8000000 in
theorem played_any (v : Value) (B : List Act) (w : World) (ht : Ts w) (hr : ActRow w v B) (hB : B.length ≤ 200) :
    Calls Tryz.prog 48 #[v] w fun e w' => ∃ h n l0 l T, e = .returned (pV h) ∧ Wd w h n 7 226 l0 l T w' := by
  obtain ⟨i0, hi0, hz0, hz1, hz2⟩ := info_parts Lis.infoInt
  obtain ⟨ad, cap, U, rfl, q2, q3, q4, q5⟩ := hr
  have HC := Lib.hid q5
  have HS := Lib.hid q4
  have HN := Lib.hid (Sla.start_any 7 226 w (by decide) ht)
  have hL0 : ((B.length : Nat) : Int) ≤ 200 := by omega
  rw [show ((7 : Nat) : Int) = 7 from rfl, show ((226 : Nat) : Int) = 226 from rfl] at HN
  unfold pV at HN
  clear q4 q5 ht
  go_enter Tryz.func48, Tryz.ntmps48
  go_wp2_with fail
  refine HN.out.mono ?_
  rintro e w1 ⟨h, rfl, hB1, hb1⟩
  have HBg := Lib.hid (hB1 w1 (Below.refl _ _))
  clear hB1 hb1 HN
  obtain ⟨n, hn⟩ : ∃ n, n = w1.heap.size := ⟨_, rfl⟩
  rw [← hn] at HBg
  clear hn
  go_wp2_with fail
  refine HBg.out.mono ?_
  rintro e w2 ⟨l0, rfl, hd2⟩
  have HD2 := Lib.hid hd2
  clear hd2 HBg
  go_wp2
  go_loopw [4, 5] (fun v i wr => ∃ (j : Nat) (A : List Nat) (l : List Int) (T : List Sl), j ≤ B.length ∧ A.length ≤ j ∧ i = .int .i64 j ∧ Hid (Wd w h n 7 226 l0 l T wr) ∧ Hid (OwnI n wr v A) ∧ Hid (∀ x ∈ A, x ≤ 100000)) (fun _ i _ => B.length - (intOf i).toNat)
  case atStart => exact ⟨0, [], l0, _, Nat.zero_le _, Nat.le_refl _, rfl, HD2.out, OwnI.nil _ _, fun x hx => (by cases hx)⟩
  case round =>
    clear HD2
    obtain ⟨j, A, l, T, hj, hjA, rfl, HD, HA, HI⟩ := hrel
    by_cases hlt : j < B.length
    · have hlt1 : (j : Int) < (B.length : Int) := by omega
      have hlt0 : (0 : Int) ≤ (j : Int) := by omega
      have hjw : IntKind.i64.wrap ((j : Int) + 1) = ((j + 1 : Nat) : Int) := (wrap_id (by omega) (by omega)).trans (by omega)
      obtain ⟨rb, off, rfl, hlb, hc⟩ := HC.out (by rintro rfl; simp at hlt)
      obtain ⟨hs1, hs2, hs3⟩ := HS.out j hlt
      have hcw : ∀ W, Below w.heap.size w W → W.cell? ⟨rb, off + j * 2, none⟩ = some (.int .i64 (B.getD j Sla.Act.zero).k) ∧ W.cell? ⟨rb, off + j * 2 + 1, none⟩ = some (.int .i64 (B.getD j Sla.Act.zero).n) := fun W hb => by
        have g0 := hc j hlt 0 (.int .i64 (B.getD j Sla.Act.zero).k) (by rw [hs2]; rfl)
        have g1 := hc j hlt 1 (.int .i64 (B.getD j Sla.Act.zero).n) (by rw [hs2]; rfl)
        exact ⟨(hb.cell (p := ⟨rb, off + j * 2, none⟩) hlb).trans g0, (hb.cell (p := ⟨rb, off + j * 2 + 1, none⟩) hlb).trans g1⟩
      have h64 := hs3.2
      generalize (B.getD j Sla.Act.zero).k = yk at hcw hs3
      generalize (B.getD j Sla.Act.zero).n = yn at hcw h64
      obtain ⟨d0, d1⟩ := hcw _ HD.out.b
      by_cases hk3 : yk < 3
      · have hTk := HD.out.take yn
        unfold pV at hTk
        have HTk := Lib.hid hTk
        clear hs1 hs2 hs3 hc hcw hTk
        go_wp2_with fail
        refine HTk.out.mono ?_
        rintro e w4 (⟨l', x, er, hne, rfl, hd4, hf4, -⟩ | ⟨l', T', jj, k, rfl, htk, hd4, hf4, -, -⟩)
        · have hne1 : (er == 0) = false := by simpa using hne
          have HD4 := Lib.hid hd4
          have HA4 := Lib.hid (HA.out.fr hf4 HD.out.lo)
          clear hne hd4 hf4 HD HA HTk d0 d1
          go_wp2
          go_roundw
          case rel => exact ⟨j + 1, A, l', T, by omega, by omega, by go_num, HD4.out, HA4.out, HI.out⟩
          case measure => simp [intOf]; omega
        · have hA4 := HA.out.fr hf4 HD.out.lo
          have hmem : k ∈ (T'.getD jj Sl.zero).v := (htk.mem k).2 (.inl rfl)
          have hin := bl_in htk.hk
          have hbd := hd4.pl_len htk.hj hmem
          rw [htk.cls] at hbd
          have hll : l'.length ≤ 100000 := by
            obtain ⟨H, L, ⟨C, e1, e2, e3, e4, e5⟩, d2⟩ := hd4.st
            have h1 := e5.ll
            have h2 := Sla.ok_base e5.ok
            omega
          have HWr : Hid (∀ W, Wd w h n 7 226 l0 l' T' W → Calls Tryz.prog 35 #[.pointer (some ⟨h.g, 0, none⟩), .int .i64 (pl (aT 7 226 jj) yn k : Int), .slice (some ⟨W.heap.size, 0, none⟩) 9 9, .int .i64 5] (W.alloc (.cells #[.int .u8 (j : Int), .int .u8 1, .int .u8 2, .int .u8 3, .int .u8 4, .int .u8 5, .int .u8 6, .int .u8 7, .int .u8 8] 5)) fun e W' =>
              e = .returned (.bool true) ∧ (∃ l2, Wd w h n 7 226 l0 l2 T' W') ∧ Fr W.heap.size (blkM h) W W') := fun W hW => by
            have hb := below_made W (.cells #[.int .u8 (j : Int), .int .u8 1, .int .u8 2, .int .u8 3, .int .u8 4, .int .u8 5, .int .u8 6, .int .u8 7, .int .u8 8] 5)
            have hrow : Row .u8 (W.alloc (.cells #[.int .u8 (j : Int), .int .u8 1, .int .u8 2, .int .u8 3, .int .u8 4, .int .u8 5, .int .u8 6, .int .u8 7, .int .u8 8] 5)) (.slice (some ⟨W.heap.size, 0, none⟩) 9 9) [(j : Int), 1, 2, 3, 4, 5, 6, 7, 8] := Row.made W [(j : Int), 1, 2, 3, 4, 5, 6, 7, 8] 5 _ rfl (fun i hi => by
              have : i < 9 := hi
              simp [Lit.wf, IntKind.min, IntKind.max, IntKind.signed, IntKind.bits]
              match i, this with
              | 0, _ => simp; omega
              | 1, _ => simp
              | 2, _ => simp
              | 3, _ => simp
              | 4, _ => simp
              | 5, _ => simp
              | 6, _ => simp
              | 7, _ => simp
              | 8, _ => simp) (by simp)
            have := (hW.below hb).write htk.hj hmem (X := [(j : Int), 1, 2, 3, 4, 5, 6, 7, 8]) (by rw [htk.cls]; show 9 ≤ _; omega) hrow (fun b hb => by simp only [Value.ownBlock, Option.some.injEq] at hb; have := hW.nn; omega)
            rw [htk.cls] at this
            refine this.mono ?_
            rintro e W' ⟨rfl, h1, h2⟩
            exact ⟨rfl, ⟨_, h1⟩, (Fr.of_below hb).trans (h2.mono hb.size (fun _ _ q => q))⟩
          have HLo := Lib.hid HD.out.lo
          have hd4n := hd4.nn
          have HD4 := Lib.hid hd4
          generalize pl (aT 7 226 jj) yn k = P at HWr hbd
          have hP : P ≤ 100000 := by omega
          clear htk hmem hin hd4 hf4 HD HA HTk d0 d1 hbd hll
          go_wp2_with (at_builtin; refine wpList_append_own _ rfl (.tmp 36) (.tmp 38) 32 rfl n 3 i0 (.int .i64 0) 1 8 Tryz.underlying32 hi0 hz0 hz1 hz2 rfl (by decide) _ _ _ rfl (World.ownsRow.alloc hA4 _) ⟨w4.heap.size, 0, none⟩ 1 1 [.int .i64 (P : Int)] rfl rfl (news_one _ _ _ _) (oneCell_one _ _) (by unfold maxLen; omega) (by omega) (by simp; omega) ?_)
          intro v5 w5 hown5 hgrow5 _
          have hb5 : Below n w4 w5 := ((Below.refl n w4).alloc hd4n _).grown hgrow5 (by simp; omega) (fun r hr => (World.ownsRow.lt hA4 r hr).1)
          have HD5 := Lib.hid (HD4.out.low hb5)
          have HA5 : Hid (OwnI n w5 v5 (A ++ [P])) := Sla.OwnI.snoc hown5 rfl
          clear hA4 hown5 hgrow5 hb5 HD4
          go_wp2_with fail
          refine (HWr.out _ HD5.out).mono ?_
          rintro e w6 ⟨rfl, ⟨l2, hd6⟩, hf6⟩
          have HD6 := Lib.hid hd6
          have HA6 := Lib.hid (HA5.out.fr hf6 HLo.out)
          clear hd6 hf6 HD5 HA5 HWr
          go_wp2
          go_roundw
          case rel => exact ⟨j + 1, A ++ [P], l2, T', by omega, by rw [List.length_append, List.length_singleton]; omega, by go_num, HD6.out, HA6.out, fun x hx => by rcases List.mem_append.1 hx with q | q; exact HI.out x q; simp at q; omega⟩
          case measure => simp [intOf]; omega
      · obtain ⟨pa, ca, rfl, hca, hca2⟩ := HA.out.shape
        clear hs1 hs2 hs3 hc hcw
        by_cases hA0 : A.length = 0
        · have hA1 : ¬ (0 : Int) < (A.length : Int) := by omega
          clear hA0
          go_wp2
          go_roundw
          case rel => exact ⟨j + 1, A, l, T, by omega, by omega, by go_num, HD.out, HA.out, HI.out⟩
          case measure => simp [intOf]; omega
        have hpos : (0 : Int) < (A.length : Int) := by omega
        by_cases hn0 : yn < 0
        · have hn1 : ¬ (0 : Int) ≤ yn := by omega
          go_wp2
          go_roundw
          case rel => exact ⟨j + 1, A, l, T, by omega, by omega, by go_num, HD.out, HA.out, HI.out⟩
          case measure => simp [intOf]; omega
        have hn1 : (0 : Int) ≤ yn := by omega
        have hAz : ((A.length : Int) == 0) = false := by rw [beq_eq_false_iff_ne]; omega
        obtain ⟨rm, hrm⟩ : ∃ rm, rm = yn.tmod (A.length : Int) := ⟨_, rfl⟩
        have hr0 : 0 ≤ rm := by rw [hrm]; exact Int.tmod_nonneg _ (by omega)
        have hr1 : rm < A.length := by rw [hrm]; exact Int.tmod_lt_of_pos yn hpos
        obtain ⟨kk, rfl⟩ : ∃ kk : Nat, rm = kk := ⟨rm.toNat, by omega⟩
        have hkA : kk < A.length := by omega
        have hq : yn.tmod (A.length : Int) = (kk : Int) := hrm.symm
        have hkA1 : (kk : Int) < (A.length : Int) := by omega
        have hk0 : (0 : Int) ≤ (kk : Int) := by omega
        obtain ⟨ga, rfl, hga⟩ := HA.out.cells (by rintro rfl; simp at hkA)
        have ka := hga kk hkA
        have hP : A.getD kk 0 ≤ 100000 := HI.out _ (by rw [List.getD, List.getElem?_eq_getElem hkA]; exact List.getElem_mem hkA)
        generalize A.getD kk 0 = P at ka hP
        have hgv := gv_any HD.out (a := (P : Int)) (by unfold is64; omega)
        unfold pV at hgv
        have HGv := Lib.hid hgv
        clear hrm hr0 hr1 hga hgv hA0 hn0
        go_wp2_with fail
        refine HGv.out.mono ?_
        rintro e w4 ⟨l4, T4, er, rfl, hd4, hf4⟩
        have HD4 := Lib.hid hd4
        have HA4 := Lib.hid (HA.out.fr hf4 HD.out.lo)
        clear hd4 hf4 HD HA HGv d0 d1 ka
        go_wp2
        go_roundw
        case rel => exact ⟨j + 1, A, l4, T4, by omega, by omega, by go_num, HD4.out, HA4.out, HI.out⟩
        case measure => simp [intOf]; omega
    · obtain rfl : j = B.length := by omega
      go_wp2
      go_ret
      exact ⟨h, n, l0, l, T, rfl, HD.out⟩
end Go.Proofs.YtlcnhnhpaddkfaaGreatDoor.Reg

namespace Go.Proofs.YtlcnhnhpaddkfaaGreatDoor.Reg
open Go.RowKit
open Cls (szC blC pdC)
open Sla (pl aT lk Sl St Wd Ts pV kp kpA SlabOk)
open Wat (Rn)
open Mem (blkM Hm)
set_option linter.unusedVariables false

theorem good_all {x : List Int} {p : Nat} {L : List Rn} (h : Wat.Good x p L) : ∀ q ∈ L, 1 ≤ q.2.1 ∧ q.1 + q.2.1 ≤ p ∧ ∀ j, j < q.2.1 → x.getD (q.1 + j) 0 = q.2.2 := by
  induction h with
  | nil => intro q hq; cases hq
  | snoc h1 h2 h3 h4 ih =>
    intro q hq
    rcases List.mem_append.1 hq with hq | hq
    · obtain ⟨a, b, c⟩ := ih q hq
      exact ⟨a, by omega, c⟩
    · obtain rfl := List.mem_singleton.1 hq
      exact ⟨h2, Nat.le_refl _, h3⟩
theorem good_hit {x : List Int} {p : Nat} {L : List Rn} (h : Wat.Good x p L) : ∀ t, t < p → ∃ q ∈ L, q.1 ≤ t ∧ t < q.1 + q.2.1 := by
  induction h with
  | nil => intro t ht; omega
  | snoc h1 h2 h3 h4 ih =>
    rename_i p n L k
    intro t ht
    by_cases hq : t < p
    · obtain ⟨q, a, b⟩ := ih t hq
      exact ⟨q, List.mem_append.2 (.inl a), b⟩
    · exact ⟨(p, n, k), by simp, Nat.le_of_not_lt hq, ht⟩
theorem til_all {x : List Int} {p : Nat} {P : List RZ} (h : Til x p P) : ∀ r ∈ P, ∃ a n : Nat, r.1 = (a : Int) ∧ r.2.1 = (n : Int) ∧ a + n ≤ p ∧ 1 ≤ n ∧ ∀ j, j < n → x.getD (a + j) 0 = r.2.2 := by
  induction h with
  | nil => intro q hq; cases hq
  | snoc h1 h2 h3 ih =>
    rename_i p n L k
    intro q hq
    rcases List.mem_append.1 hq with hq | hq
    · obtain ⟨a, m, e1, e2, e3, e4⟩ := ih q hq
      exact ⟨a, m, e1, e2, by omega, e4⟩
    · obtain rfl := List.mem_singleton.1 hq
      exact ⟨p, n, rfl, rfl, Nat.le_refl _, h2, h3⟩
theorem til_hit {x : List Int} {p : Nat} {P : List RZ} (h : Til x p P) : ∀ t, t < p → ∃ r ∈ P, x.getD t 0 = r.2.2 := by
  induction h with
  | nil => intro t ht; omega
  | snoc h1 h2 h3 ih =>
    rename_i p n L k
    intro t ht
    by_cases hq : t < p
    · obtain ⟨q, a, b⟩ := ih t hq
      exact ⟨q, List.mem_append.2 (.inl a), b⟩
    · refine ⟨((p : Int), (n : Int), k), by simp, ?_⟩
      have := h3 (t - p) (by omega)
      rwa [show p + (t - p) = t by omega] at this
theorem atZ_of {P : List RZ} {a k : Int} (h1 : ∀ r ∈ P, prZ r = true ∧ (r.1 ≤ a → a < r.1 + r.2.1 → r.2.2 = k)) (h2 : ∃ r ∈ P, r.1 ≤ a ∧ a < r.1 + r.2.1) : atZ a P = k := by
  induction P with
  | nil => obtain ⟨r, h, _⟩ := h2; cases h
  | cons r P ih =>
    obtain ⟨hp, hk⟩ := h1 r (by simp)
    rw [atZ]
    by_cases hh : r.1 ≤ a ∧ a < r.1 + r.2.1
    · rw [if_pos (by simp [hp, hh])]
      exact hk hh.1 hh.2
    · rw [if_neg (by simp [hp]; omega)]
      exact ih (fun q hq => h1 q (by simp [hq])) (by
        obtain ⟨q, hq, h⟩ := h2
        rcases List.mem_cons.1 hq with rfl | hq
        · exact absurd h hh
        · exact ⟨q, hq, h⟩)
theorem atZ_good {x : List Int} {p : Nat} {L : List Rn} (h : Wat.Good x p L) (hp : p ≤ 1000000) {t : Nat} (ht : t < p) : atZ (t : Int) (L.map cstW) = x.getD t 0 := by
  refine atZ_of (fun r hr => ?_) ?_
  · obtain ⟨q, hq, rfl⟩ := List.mem_map.1 hr
    obtain ⟨a, b, c⟩ := good_all h q hq
    refine ⟨prZ_iff.2 ⟨?_, ?_, ?_, ?_⟩, fun h1 h2 => ?_⟩ <;> simp only [cstW] at *
    · omega
    · omega
    · omega
    · omega
    · have := c (t - q.1) (by omega)
      rw [show q.1 + (t - q.1) = t by omega] at this
      exact this.symm
  · obtain ⟨q, hq, h1, h2⟩ := good_hit h t ht
    exact ⟨cstW q, List.mem_map.2 ⟨q, hq, rfl⟩, by simp only [cstW]; omega, by simp only [cstW]; omega⟩
theorem tilZ_good {x : List Int} {p : Nat} {L : List Rn} (h : Wat.Good x p L) (n : Int) : p ≤ 1000000 → (∀ t, t < p → 1 ≤ x.getD t 0 ∧ x.getD t 0 ≤ 8) → ∀ R, tilZ n (L.map cstW ++ R) 0 = tilZ n R (p : Int) := by
  induction h with
  | nil => intro _ _ R; rfl
  | snoc h1 h2 h3 h4 ih =>
    rename_i p m L k
    intro hp hk R
    rw [List.map_append, List.append_assoc, ih (by omega) (fun t ht => hk t (by omega))]
    have h5 := hk p (by omega)
    have e := h3 0 (by omega)
    rw [Nat.add_zero] at e
    rw [e] at h5
    have hok : okZ (p : Int) (cstW (p, m, k)) = true := okZ_iff.2 ⟨prZ_iff.2 (by simp only [cstW]; omega), rfl, by simp only [cstW]; omega, h5⟩
    show tilZ n (cstW (p, m, k) :: R) (p : Int) = _
    rw [tilZ, if_pos hok]
    congr 1
/-- The kinds that a map names. -/
def K8 (P : List RZ) : Prop := ∀ r ∈ P, 1 ≤ r.2.2 ∧ r.2.2 ≤ 8
theorem K8.append {P Q : List RZ} (h1 : K8 P) (h2 : K8 Q) : K8 (P ++ Q) := fun r hr => (List.mem_append.1 hr).elim (h1 r) (h2 r)
theorem head_k8 (S N : Nat) : K8 (headR S N) := by
  intro r hr
  unfold headR at hr
  obtain ⟨q, hq, rfl⟩ := List.mem_map.1 hr
  have h2 := List.dropLast_subset _ hq
  unfold Lay.runsT at h2
  show (1 : Int) ≤ (q.2.2 : Int) ∧ (q.2.2 : Int) ≤ 8
  split at h2 <;> simp at h2
  · rcases h2 with rfl | rfl | rfl | rfl | rfl <;> simp
  · rcases h2 with rfl | rfl | rfl | rfl | rfl | rfl <;> simp
theorem slab_k8 (A : Nat) (s : Sl) : K8 (slT A s) := by
  intro r hr
  unfold slT at hr
  split at hr
  · simp at hr
    subst hr
    simp
  · unfold dvR at hr
    rcases List.mem_append.1 hr with hr | hr
    · obtain ⟨k, -, rfl⟩ := List.mem_map.1 hr
      unfold blkR
      simp only
      split <;> simp
    · unfold padR at hr
      split at hr
      · simp at hr
        subst hr
        simp
      · cases hr
theorem all_k8 (S N : Nat) (T : List Sl) : ∀ j, K8 (allT S N T j)
  | 0 => fun r hr => by cases hr
  | j + 1 => (all_k8 S N T j).append (slab_k8 _ _)
theorem all_mem {S N : Nat} {T : List Sl} {j : Nat} : ∀ {m : Nat}, j < m → ∀ r ∈ slT (aT S N j) (T.getD j Sl.zero), r ∈ allT S N T m
  | 0, h, _, _ => by omega
  | m + 1, h, r, hr => by
    rw [allT]
    by_cases hq : j = m
    · subst hq; exact List.mem_append.2 (.inr hr)
    · exact List.mem_append.2 (.inl (all_mem (by omega) r hr))
section
variable {h : Hm} {S N : Nat} {l0 l : List Int} {T : List Sl} {W : World}
/-- What the map of such a memory says of it. -/
theorem st_tells (d : St h S N l0 l T W) : tilZ ((Lay.sizeC (S : Int) (N : Int) : Nat) : Int) (stJ S N T) 0 = true ∧ ∀ j, j < S → ∀ k ∈ (T.getD j Sl.zero).v, atZ ((pl (aT S N j) (T.getD j Sl.zero).c k : Nat) : Int) (stJ S N T) = 5 := by
  obtain ⟨M, h1, h2, h3, h4, h5, h6, h7, h8, h9⟩ := st_map d
  obtain ⟨L, hL, hg⟩ := til_join h8 (by omega)
  have hl : M.x.length = Lay.sizeC (S : Int) (N : Int) := by rw [h1.lenx, h1.len, h3, h4]
  have hk8 : ∀ t, t < M.x.length → 1 ≤ M.x.getD t 0 ∧ M.x.getD t 0 ≤ 8 := fun t ht => by
    obtain ⟨r, hr, e⟩ := til_hit h8 t ht
    rw [e]
    exact ((head_k8 S N).append (all_k8 S N T S)) r hr
  unfold stJ
  rw [hL, ← hl]
  refine ⟨?_, fun j hj k hk => ?_⟩
  · have := tilZ_good hg (M.x.length : Int) (by omega) hk8 []
    rw [List.append_nil] at this
    rw [this]
    simp [tilZ]
  · obtain ⟨hk1, hk2⟩ := (Sl.mem_v _ _).1 hk
    have hc : (T.getD j Sl.zero).c ≠ 0 := fun e => by
      rw [e] at hk1
      have e0 : blC ((0 : Nat) : Int) = 0 := by kernel_rfl
      omega
    have hm : blkR (aT S N j) (T.getD j Sl.zero).c (T.getD j Sl.zero).f.reverse k ∈ headR S N ++ allT S N T S := by
      refine List.mem_append.2 (.inr (all_mem hj _ ?_))
      unfold slT
      rw [if_neg hc]
      exact List.mem_append.2 (.inl (List.mem_map.2 ⟨k, List.mem_range.2 hk1, rfl⟩))
    obtain ⟨a, n, e1, e2, e3, e4, e5⟩ := til_all h8 _ hm
    unfold blkR at e1 e2 e5
    simp only at e1 e2 e5
    have ea : pl (aT S N j) (T.getD j Sl.zero).c k = a := by exact_mod_cast e1
    have h50 := e5 0 (by omega)
    rw [if_neg (by simpa using hk2), Nat.add_zero, ← ea] at h50
    rw [atZ_good hg (by omega) (by omega)]
    exact h50
theorem live_any (d : St h S N l0 l T W) {j : Nat} (hj : j < S) : Calls Tryz.prog 25 #[pV h, .int .i64 (j : Int)] W fun e W' => ∃ u, e = .returned u ∧ St h S N l0 l T W' ∧ Fr W.heap.size (blkM h) W W' ∧ Row .i64 W' u (Lis.ints (kpA S N j (T.getD j Sl.zero) 5)) ∧ ∀ b, u.ownBlock = some b → W.heap.size ≤ b := by
  obtain ⟨H, L, d1, d2⟩ := d
  have HA := Lib.hid (d1.having hj (d2.hc j hj) 5)
  unfold pV at *
  go_enter Tryz.func25, Tryz.ntmps25
  go_wp2_with fail
  refine HA.out.mono ?_
  rintro e w1 ⟨u, ⟨rfl, q1, q2⟩, q3, q4⟩
  have HQ := Lib.hid (show St h S N l0 l T w1 from ⟨H, L, q1, d2⟩)
  have HQ2 := Lib.hid q2
  have HQ3 := Lib.hid q3
  clear q1 q2 q3 d1 d2 HA
  go_wp2
  go_ret
  exact ⟨u, rfl, HQ.out, HQ2.out, HQ3.out, q4⟩
end
end Go.Proofs.YtlcnhnhpaddkfaaGreatDoor.Reg

namespace Go.Proofs.YtlcnhnhpaddkfaaGreatDoor.Reg
open Go.RowKit
open Cls (szC blC pdC)
open Sla (pl aT lk Sl St Wd Ts pV kp kpA SlabOk)
open Mem (blkM Hm)
set_option linter.unusedVariables false

theorem arow_fr {α : Type} {k : Nat} {enc : α → List Value} {d : α} {w w' : World} {v : Value} {P : List α} {N : Nat} {S : Nat → Prop} (h : ARow k enc d w v P) (hf : Fr N S w w') (hN : w.heap.size ≤ N) (hs : ∀ b, v.ownBlock = some b → ¬ S b) : ARow k enc d w' v P := by
  obtain ⟨a, cap, h1, h2, h3, h5⟩ := h
  refine ⟨a, cap, h1, h2, h3, fun hne => ?_⟩
  obtain ⟨b, off, e, hlt, hc⟩ := h5 hne
  exact ⟨b, off, e, Nat.lt_of_lt_of_le hlt hf.size, fun i hi j x hx => hf.cell (hc i hi j x hx) (Nat.lt_of_lt_of_le hlt hN) (hs b (by rw [h1, e]; rfl))⟩
theorem mem_getD {X : List Nat} {k : Nat} (h : k < X.length) : X.getD k 0 ∈ X := by
  rw [List.getD, List.getElem?_eq_getElem h]
  exact List.getElem_mem h
/-- What is in hand while the live blocks are looked at. -/
structure AG (w : World) (h : Hm) (n : Nat) (l0 l : List Int) (T : List Sl) (J : List RZ) (u : Value) (W : World) : Prop where
  d : Wd w h n 7 226 l0 l T W
  z : ZRow W u J
  o : ∀ b, u.ownBlock = some b → n ≤ b
theorem AG.below {w W W' : World} {h : Hm} {n : Nat} {l0 l : List Int} {T : List Sl} {J : List RZ} {u : Value} (g : AG w h n l0 l T J u W) (hb : Below W.heap.size W W') : AG w h n l0 l T J u W' := ⟨g.d.below hb, g.z.mono hb (Nat.le_refl _), g.o⟩
theorem AG.live {w W : World} {h : Hm} {n : Nat} {l0 l : List Int} {T : List Sl} {J : List RZ} {u : Value} (g : AG w h n l0 l T J u W) (hJ : ∀ j, j < 7 → ∀ k ∈ (T.getD j Sl.zero).v, atZ ((pl (aT 7 226 j) (T.getD j Sl.zero).c k : Nat) : Int) J = 5) {j : Nat} (hj : j < 7) :
    Calls Tryz.prog 25 #[pV h, .int .i64 (j : Int)] W fun e W' => ∃ (p : Option Addr) (X : List Nat) (c : Nat), e = .returned (.slice p X.length c) ∧ AG w h n l0 l T J u W' ∧ Row .i64 W' (.slice p X.length c) (Lis.ints X) ∧ X.length ≤ 32 ∧ (∀ k, k < X.length → atZ ((X.getD k 0 : Nat) : Int) J = 5) := by
  refine (live_any g.d.st hj).mono ?_
  rintro e W' ⟨v, rfl, q1, q2, q3, q4⟩
  have hl := Sla.kpA_len 7 226 j (T.getD j Sl.zero) 5
  obtain ⟨p, c, rfl, -⟩ := id q3
  rw [Lis.ints_length] at *
  refine ⟨p, _, c, rfl, ⟨g.d.fr q1 q2, arow_fr g.z q2 (Nat.le_refl _) (fun b hb hk => ?_), g.o⟩, q3, hl, fun k hk => ?_⟩
  · have h1 := g.o b hb
    have h2 := g.d.lo.m b hk
    omega
  · have hm := mem_getD hk
    unfold kpA at hm
    obtain ⟨i, hi, e⟩ := List.mem_map.1 hm
    rw [Sla.kp_live] at hi
    unfold kpA
    rw [← e]
    exact hJ j hj i hi
set_option maxRecDepth 100000 in
set_option maxHeartbeats 8000000 in
theorem regionAgrees_walk (v : Value) (B : List Act) (w : World) (ht : Ts w) (hr : ActRow w v B) :
    Calls Tryz.prog 9 #[v] w fun e w' => e = .returned (.bool true) ∧ Below w.heap.size w w' := by
  have HW := Lib.hid (fun V (hv : Ts V) => maps_any V hv)
  have HTs := Lib.hid ht
  have hp := fun (hB : B.length ≤ 200) => played_any v B w ht hr hB
  obtain ⟨ad, cap, U, rfl, q2, q3, q4, q5⟩ := hr
  clear q4 q5 ht
  by_cases hL : 200 < B.length
  · have hL1 : (200 : Int) < (B.length : Int) := by omega
    clear hp
    go_enter Tryz.func9, Tryz.ntmps9
    go_wp2_with fail
    refine (HW.out _ HTs.out).mono ?_
    rintro e w1 ⟨rfl, hb⟩
    go_wp2
    go_ret
    exact ⟨rfl, hb⟩
  have hL0 : ¬ (200 : Int) < (B.length : Int) := by omega
  have hp := hp (by omega)
  unfold pV at hp
  have HP := Lib.hid hp
  clear hp
  go_enter Tryz.func9, Tryz.ntmps9
  go_wp2_with fail
  refine HP.out.mono ?_
  rintro e w1 ⟨h, n, l0, l, T, rfl, hd1⟩
  clear HP
  have HD1 := Lib.hid hd1
  obtain ⟨Z, hZ⟩ : ∃ Z : Nat, Z = Lay.sizeC ((7 : Nat) : Int) ((226 : Nat) : Int) := ⟨_, rfl⟩
  have hte := st_tells hd1.st
  rw [← hZ] at hte
  have hM : ∀ W, Wd w h n 7 226 l0 l T W → Calls Tryz.prog 49 #[pV h] W (MOk W (stJ 7 226 T)) := fun W d => st_map_any d.st
  have hA : ∀ W, Wd w h n 7 226 l0 l T W → Calls Tryz.prog 50 #[pV h] W fun e W' => e = .returned (.bool true) ∧ Below W.heap.size W W' := fun W d => agree_any d.st
  have hR : ∀ W, Wd w h n 7 226 l0 l T W → Calls Tryz.prog 29 #[pV h] W fun e W' => ∃ u, e = .returned u ∧ ZRow W' u (stJ 7 226 T) ∧ Below W.heap.size W W' := fun W d => st_runs_any d.st
  have hCf : ∀ W, Wd w h n 7 226 l0 l T W → Calls Tryz.prog 52 #[pV h] W fun e W' => e = .returned (.agg #[.int .i64 7, .int .i64 226]) ∧ Below W.heap.size W W' := fun W d => by
    obtain ⟨M, h1, -, h3, h4, -⟩ := st_map d.st
    have := Mem.config_any h (pV h) M W h1
    rw [h3, h4] at this
    exact this
  have hF : ∀ W, Wd w h n 7 226 l0 l T W → Calls Tryz.prog 23 #[pV h] W fun e W' => e = .returned (.int .i64 0) ∧ Below W.heap.size W W' := fun W d => d.st.faults
  have hSz : ∀ W, Calls Tryz.prog 51 #[.agg #[.int .i64 7, .int .i64 226]] W fun e w' => e = .returned (.int .i64 (Z : Int)) ∧ Below W.heap.size W w' := fun W => hZ ▸ Lay.refSize_any 7 226 W
  generalize stJ 7 226 T = J at hM hR hte
  have hLv : ∀ u W j, AG w h n l0 l T J u W → j < 7 → _ := fun u W j g hj => g.live hte.2 hj
  have hT : ∀ v W, ZRow W v J → Calls Tryz.prog 42 #[v, .int .i64 (Z : Int)] W fun e W' => e = .returned (.bool true) ∧ Below W.heap.size W W' := fun v W hz => hte.1 ▸ tiles_any v J Z W hz
  have hAt : ∀ v W a, ZRow W v J → atZ a J = 5 → Calls Tryz.prog 46 #[v, .int .i64 a] W fun e W' => e = .returned (.int .i64 5) ∧ Below W.heap.size W W' := fun v W a hz h5 => h5 ▸ at_any v J a W hz
  unfold pV at hM hA hR hCf hF hLv
  have HM := Lib.hid hM
  have HA := Lib.hid hA
  have HR := Lib.hid hR
  have HCf := Lib.hid hCf
  have HF := Lib.hid hF
  have HSz := Lib.hid hSz
  have HLv := Lib.hid hLv
  have HT := Lib.hid hT
  have HAt := Lib.hid hAt
  clear hd1 hZ hte hM hA hR hCf hF hSz hLv hT hAt
  go_wp2_with fail
  refine (HM.out _ HD1.out).mono ?_
  rintro e w2 ⟨u, rfl, hb2, hz2, ho2⟩
  have HG2 : Hid (AG w h n l0 l T J u w2) := ⟨HD1.out.below hb2, hz2, fun b hb => Nat.le_trans HD1.out.nn (ho2 b hb)⟩
  obtain ⟨pu, ku, rfl, -⟩ := hz2
  clear hb2 ho2 HD1 HM
  go_wp2_with fail
  refine (HA.out _ HG2.out.d).mono ?_
  rintro e w3 ⟨rfl, hb3⟩
  have HG3 := Lib.hid (HG2.out.below hb3)
  clear hb3 HG2 HA
  go_wp2_with fail
  refine (HCf.out _ HG3.out.d).mono ?_
  rintro e w4 ⟨rfl, hb4⟩
  have HG4 := Lib.hid (HG3.out.below hb4)
  clear hb4 HG3 HCf
  go_wp2_with fail
  refine (HSz.out _).mono ?_
  rintro e w5 ⟨rfl, hb5⟩
  have HG5 := Lib.hid (HG4.out.below hb5)
  clear hb5 HG4 HSz
  go_wp2_with fail
  refine (HT.out _ _ HG5.out.z).mono ?_
  rintro e w6 ⟨rfl, hb6⟩
  have HG6 := Lib.hid (HG5.out.below hb6)
  clear hb6 HG5 HT
  go_wp2_with fail
  refine (HR.out _ HG6.out.d).mono ?_
  rintro e w7 ⟨u7, rfl, hz7, hb7⟩
  have HG7 := Lib.hid (HG6.out.below hb7)
  have HZ7 := Lib.hid hz7
  obtain ⟨p7, k7, rfl, -⟩ := hz7
  clear hb7 HG6 HR
  go_wp2_with fail
  refine (sameZ_any _ _ J _ HG7.out.z HZ7.out).mono ?_
  rintro e w8 ⟨rfl, hm8⟩
  have HG8 := Lib.hid (HG7.out.below (Lay.below_drawn (Below.refl _ _) hm8))
  clear hm8 HG7 HZ7
  go_wp2
  go_loopw [6] (fun i wr => ∃ (j : Nat), j ≤ 7 ∧ i = .int .i64 j ∧ Hid (AG w h n l0 l T J (.slice pu J.length ku) wr)) (fun i _ => 7 - (intOf i).toNat)
  case atStart => exact ⟨0, by omega, rfl, HG8.out⟩
  case round =>
    clear HG8
    obtain ⟨j, hj, rfl, HG⟩ := hrel
    by_cases hlt : j < 7
    · have hlt1 : (j : Int) < 7 := by omega
      have hjw : IntKind.i64.wrap ((j : Int) + 1) = ((j + 1 : Nat) : Int) := (wrap_id (by omega) (by omega)).trans (by omega)
      go_wp2_with fail
      refine (HLv.out _ _ _ HG.out hlt).mono ?_
      rintro e w9 ⟨p, X, c, rfl, hg9, hr9, hx, h5⟩
      have HG9 := Lib.hid hg9
      have HR9 := Lib.hid hr9
      have H5 := Lib.hid h5
      have hx1 : ((X.length : Nat) : Int) ≤ 32 := by omega
      clear hg9 hr9 h5 HG
      go_wp2
      go_loopw [8] (fun k wr => ∃ (kk : Nat), kk ≤ X.length ∧ k = .int .i64 kk ∧ Hid (AG w h n l0 l T J (.slice pu J.length ku) wr) ∧ Hid (Row .i64 wr (.slice p X.length c) (Lis.ints X))) (fun k _ => X.length - (intOf k).toNat)
      case atStart => exact ⟨0, Nat.zero_le _, rfl, HG9.out, HR9.out⟩
      case round =>
        clear HG9 HR9
        obtain ⟨k, hk, rfl, HG10, HR10⟩ := hrel
        by_cases hkl : k < X.length
        · have hkl1 : (k : Int) < (X.length : Int) := by omega
          have hk0 : (0 : Int) ≤ (k : Int) := by omega
          have hkw : IntKind.i64.wrap ((k : Int) + 1) = ((k + 1 : Nat) : Int) := (wrap_id (by omega) (by omega)).trans (by omega)
          obtain ⟨a', cap', e', -, -, -, r5⟩ := id HR10.out
          injection e' with e1 e2 e3
          subst e1
          obtain ⟨b, off, rfl, hbl, hc⟩ := r5 (by rintro q; rw [← Lis.ints_length, q] at hkl; simp at hkl)
          have hck := hc k (by rw [Lis.ints_length]; exact hkl)
          rw [Lis.ints_get] at hck
          have HA5 := Lib.hid (H5.out k hkl)
          clear r5 hc e2 e3
          generalize X.getD k 0 = P at hck HA5
          go_wp2_with fail
          refine (HAt.out _ _ _ HG10.out.z HA5.out).mono ?_
          rintro e w11 ⟨rfl, hb11⟩
          have HG11 := Lib.hid (HG10.out.below hb11)
          have HR11 := Lib.hid (HR10.out.mono hb11 (Nat.le_refl _))
          clear hb11 HG10 HR10 hck HA5 hbl
          go_wp2
          go_roundw
          case rel => exact ⟨k + 1, by omega, by go_num, HG11.out, HR11.out⟩
          case measure => simp [intOf]; omega
        · obtain rfl : k = X.length := by omega
          clear HR10 H5
          go_wp2
          go_roundw
          case rel => exact ⟨j + 1, by omega, by go_num, HG10.out⟩
          case measure => simp [intOf]; omega
    · obtain rfl : j = 7 := by omega
      go_wp2_with fail
      refine (HF.out _ HG.out.d).mono ?_
      rintro e w9 ⟨rfl, hb9⟩
      have HB9 := Lib.hid ((HG.out.below hb9).d.b)
      clear hb9 HG
      go_wp2_with fail
      refine (HW.out _ (HTs.out.keep HB9.out)).mono ?_
      rintro e w10 ⟨rfl, hb10⟩
      have HB10 := Lib.hid (HB9.out.trans (hb10.mono HB9.out.size))
      clear hb10 HB9
      go_wp2
      go_ret
      exact ⟨rfl, HB10.out⟩
set_option maxRecDepth 100000 in
theorem act_cells {H : Type} {enc : TypeId × Value → H} {w : World} {base : Nat} {spare : Nat → Bool} {held : Bool} {n : Nat} {cs : List Value} {y : DataW H × List MemPlace}
    (h : DataW.trod enc Tryz.prog w base spare held n 90 cs = some y) : ∃ x, ActR w cs x := by
  obtain ⟨xs, n', -, -, hlen, hxs, hf⟩ := DataW.trod_struct Tryz.underlying90 h
  have h2 : cs.length = 2 := hlen.trans (by kernel_rfl)
  have x2 : xs.length = 2 := hxs
  match cs, h2, xs, x2 with
  | [c0, c1], _, [y0, y1], _ =>
    have f0 : DataW.trod enc Tryz.prog w base spare held n' 3 (([c0, c1].drop 0).take (Tryz.prog.cellsOf 3)) = [y0, y1][0]? := hf 0 _ rfl
    have f1 : DataW.trod enc Tryz.prog w base spare held n' 3 (([c0, c1].drop 1).take (Tryz.prog.cellsOf 3)) = [y0, y1][1]? := hf 1 _ rfl
    have q1 : Tryz.prog.cellsOf 3 = 1 := by kernel_rfl
    rw [q1] at f0 f1
    simp only [List.drop, List.take, List.getElem?_cons_zero, List.getElem?_cons_succ] at f0 f1
    obtain ⟨k0, e0, -, w0⟩ := DataW.trod_int Tryz.underlying3 f0
    obtain ⟨k1, e1, -, w1⟩ := DataW.trod_int Tryz.underlying3 f1
    simp at e0 e1
    subst e0 e1
    exact ⟨⟨k0, k1⟩, rfl, Sla.wf64 w0, Sla.wf64 w1⟩
set_option maxRecDepth 100000 in
theorem open_acts {H : Type} {enc : TypeId × Value → H} {w : World} {base : Nat} {spare : Nat → Bool} {held : Bool} {r : Reach} {b0 : Nat} {v : Value} {d : DataW H} {p : List MemPlace}
    (hval : Value.okWide Tryz.prog w r b0 80 v) (h : DataW.Trod enc Tryz.prog w base spare held 80 v d p) : ∃ x : Value × List Act, v = x.1 ∧ ActRow w x.1 x.2 := by
  obtain ⟨a, len, cap, rfl⟩ := WideShapes.okWide_slice Tryz.underlying80 hval
  obtain ⟨fuel, hf⟩ := h
  obtain ⟨L, -, hrow⟩ := open_grow Sla.Act.zero Tryz.underlying80 (show Tryz.prog.cellsOf 90 = 2 by kernel_rfl) (by omega) (fun n cs y hy => act_cells hy) hf
  exact ⟨(_, L), rfl, hrow⟩
end Go.Proofs.YtlcnhnhpaddkfaaGreatDoor.Reg
