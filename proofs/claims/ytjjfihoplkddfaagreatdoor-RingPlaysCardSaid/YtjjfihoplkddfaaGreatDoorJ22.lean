/- The landed ring where there is no entry. -/
import Derived.Test.YtjjfihoplkddfaaGreatDoorJ21
namespace Go.Proofs.YtjjfihoplkddfaaGreatDoor.Rin
open Go.RowKit Num
open Mem (Mm MemC MRet Hm rd blkM)
open Lis (Cf LM LR Tb at_ valsN)
open Sla (Sl St Lv pl aT pV Lo SR Sx)
open Arn (wrL is64)
set_option linter.unusedVariables false

section
variable {h : Hm} {S N : Nat} {l0 l l' : List Int} {T : List Sl} {w0 w w' W W' : World} {n : Nat} {E L : List Nat} {br : Nat} {B : Nat → Hea.Blk} {X : Fx} {R : Rv} {a : Int}
theorem st_hload_wild (d : St h S N l l T W) (hz : h.z = true) (h64 : is64 a) :
    Calls Tryz.prog 56 #[pV h, .int .i64 a, .int .i64 0] W fun e W' => ∃ v : Int, (Wat.kndA (kX S N T) a 4 = 5 → (v = 1 ↔ l.getD a.toNat 0 = 1)) ∧ e = .returned (.int .u64 v) ∧ St h S N l l T W' ∧ Fr W.heap.size (blkM h) W W' := by
  have hby := st_bytes d
  obtain ⟨H, L, ⟨C, rfl, rfl, h3, h4, h5⟩, d2⟩ := d
  obtain ⟨-, lk0, hm⟩ := id h4.m
  refine (hload_wild h (C.mm l lk0) a W h4.t hm h64 hby).mono ?_
  rintro e w' ⟨v, lk, ft, hrel, hq⟩
  rw [show (C.mm l lk0).x = C.x from rfl, sx_x h5] at hrel
  have hr : SR h { C with ft := ft } l (.int .u64 v) W e w' := h4.mret (C' := { C with ft := ft }) (lk := lk) hq
  have hC := h5.ok
  have hz' : h.z = false → ft = 0 := fun q => by rw [hz] at q; cases q
  exact ⟨v, hrel, hr.1, ⟨H, L, ⟨{ C with ft := ft }, rfl, rfl, hz', hr.2.1, ⟨⟨hC.lo, hC.hi, hC.right, hC.len, hC.big, hC.root, hC.head⟩, h5.rep, h5.xl, h5.ll, h5.tl, h5.low, h5.xlow, h5.sl⟩⟩, d2⟩, hr.2.2⟩
theorem kX_root (d : St h S N l0 l T W) {p : Nat} (h1 : 8 ≤ p) (h2 : p < 128) : (kX S N T).getD p 0 = 2 := by
  obtain ⟨H, L, ⟨C, rfl, rfl, h3, h4, h5⟩, d2⟩ := d
  rw [← sx_x h5]
  exact h5.ok.root p h1 h2
theorem Rs.load_wild (d : Rs X R w) (hz : X.h.z = true) (hE : X.E = []) (h64 : is64 a) :
    Calls Tryz.prog 56 #[pV X.h, .int .i64 a, .int .i64 0] w fun e w' => ∃ v : Int, (Wat.kndA (kX X.S X.N X.T) a 4 = 5 → (v = 1 ↔ X.lb.getD a.toNat 0 = 1)) ∧ RsR X R (.int .u64 v) w e w' := by
  obtain ⟨l, h1, h2⟩ := d
  refine (st_hload_wild h1.st hz h64).mono ?_
  rintro e w' ⟨v, hrel, rfl, hs, hf⟩
  refine ⟨v, fun q => ?_, rfl, ⟨l, ⟨hs, h1.lv, h1.rb, tabC_fr h1.tc h1.st hf⟩, h2⟩, hf⟩
  obtain ⟨p, rfl, g1, g2⟩ := knd_out (n := 4) (by omega) q
  rw [hrel q, Int.toNat_natCast]
  have hp : ¬ (60 ≤ p ∧ p < 72) := fun hp => by
    have := g2 0 (by omega)
    rw [Nat.add_zero, kX_root h1.st (by omega) (by omega)] at this
    omega
  rw [h2.out p hp (fun x hx => by rw [hE] at hx; cases hx)]
theorem Rs.kind_wild (d : Rs X R w) (h64 : is64 a) : Calls Tryz.prog 167 #[pV X.h, .int .i64 a, .int .i64 32] w fun e w' => e = .returned (.int .i64 (Wat.kndA (kX X.S X.N X.T) a 32)) ∧ Below w.heap.size w w' := by
  obtain ⟨l, h1, h2⟩ := d
  exact st_kind h1.st a 32 h64
set_option maxRecDepth 100000 in
theorem has_wild (d : Rs X R w) (hz : X.h.z = true) (hE : X.E = []) (h64 : is64 a) (hne : Wat.kndA (kX X.S X.N X.T) a 4 = 5 → X.lb.getD a.toNat 0 ≠ 1) : Calls Tryz.prog 215 #[rV X.h, .int .i64 a] w (RsR X R (.bool false) w) := by
  have d1 := RB.made d
  have c := d1.cell
  have HD := Lib.hid d1
  by_cases hm : a.tmod 16 = 0
  · have HK := Lib.hid (fun W (hW : Rs X R W) => hW.kind_wild h64)
    have HT := Lib.hid (fun W (hW : Rs X R W) => hW.load_wild hz hE h64)
    by_cases hk : Wat.kndA (kX X.S X.N X.T) a 32 = 5
    · rw [hk] at HK
      have HNe := Lib.hid (hne (knd_less (n := 32) (m := 4) (by omega) (by omega) hk))
      have HK4 := Lib.hid (knd_less (n := 32) (m := 4) (by omega) (by omega) hk)
      clear d d1 hne hk
      unfold rV pV at *
      go_enter Tryz.func215, Tryz.ntmps215
      go_wp2_with fail
      refine (HK.out _ HD.out.m).mono ?_
      rintro e w1 ⟨rfl, hb1⟩
      have HD1 := Lib.hid (HD.out.below hb1)
      replace c := HD1.out.cell
      clear hb1 HD HK
      go_wp2_with fail
      refine (HT.out _ HD1.out.m).mono ?_
      rintro e w2 ⟨v, hrel, hq⟩
      obtain rfl := hq.1
      have hv1 : v ≠ 1 := fun q => HNe.out ((hrel HK4.out).1 q)
      have hv : (v == 1) = false := by simpa using hv1
      have HE := Lib.hid ((HD1.out.step hq).done (.bool false))
      clear hq HD1 HT hrel hv1 HNe HK4
      go_wp2
      go_ret
      exact HE.out
    · generalize Wat.kndA (kX X.S X.N X.T) a 32 = k at HK hk
      have hk5 : (k == 5) = false := by simpa using hk
      clear d d1 hne hk HT
      unfold rV pV at *
      go_enter Tryz.func215, Tryz.ntmps215
      go_wp2_with fail
      refine (HK.out _ HD.out.m).mono ?_
      rintro e w1 ⟨rfl, hb1⟩
      have HE := Lib.hid ((HD.out.below hb1).done (.bool false))
      clear hb1 HD HK
      go_wp2
      go_ret
      exact HE.out
  · have hm5 : (a.tmod 16 == 0) = false := by simpa using hm
    have HE := Lib.hid (HD.out.done (.bool false))
    clear d d1 hne hm HD
    unfold rV pV at *
    go_enter Tryz.func215, Tryz.ntmps215
    go_wp2
    go_ret
    exact HE.out
section
variable (HH : Hid (∀ W, Rs X R W → Calls Tryz.prog 215 #[rV X.h, .int .i64 a] W (RsR X R (.bool false) W)))
include HH
theorem check_no (d : Rs X R w) : Calls Tryz.prog 140 #[rV X.h, .int .i64 a] w (RsR X R (.int .i64 30) w) := by
  have d1 := RB.made d
  have c := d1.cell
  have HM := Lib.hid (made_any d1.m)
  have HD := Lib.hid d1
  clear d d1
  unfold rV pV at *
  go_enter Tryz.func140, Tryz.ntmps140
  go_wp2_with fail
  refine HM.out.mono ?_
  rintro e w1 ⟨rfl, hb1⟩
  have HD1 := Lib.hid (HD.out.below hb1)
  replace c := HD1.out.cell
  clear hb1 HD HM
  go_wp2_with fail
  refine (HH.out _ HD1.out.m).mono ?_
  rintro e w2 hq
  obtain rfl := hq.1
  have HE := Lib.hid ((HD1.out.step hq).done (.int .i64 30))
  clear hq HD1 HH
  go_wp2
  go_ret
  exact HE.out
theorem checkLinked_no (d : Rs X R w) : Calls Tryz.prog 125 #[rV X.h, .int .i64 a] w (RsR X R (.int .i64 30) w) := by
  have d1 := RB.made d
  have c := d1.cell
  have HC := Lib.hid (check_no HH d1.m)
  have HD := Lib.hid d1
  clear d d1 HH
  unfold rV pV at *
  go_enter Tryz.func125, Tryz.ntmps125
  go_wp2_with fail
  refine HC.out.mono ?_
  rintro e w1 hq
  obtain rfl := hq.1
  have HE := Lib.hid ((HD.out.step hq).done (.int .i64 30))
  clear hq HD HC
  go_wp2
  go_ret
  exact HE.out
theorem remove_no (d : Rs X R w) : Calls Tryz.prog 46 #[pV X.h, .int .i64 a] w (RsR X R (.int .i64 30) w) := by
  have hb1 := below_made w (.cells #[.int .i64 a] 3)
  have hb2 := below_made (w.alloc (.cells #[.int .i64 a] 3)) (.cells #[pV X.h] 157)
  have hb := hb1.trans (hb2.mono hb1.size)
  have hs : (w.alloc (.cells #[.int .i64 a] 3)).heap.size = w.heap.size + 1 := by simp
  have n1 := heap_alloc_new w (.cells #[.int .i64 a] 3)
  have n2 := heap_alloc_new (w.alloc (.cells #[.int .i64 a] 3)) (.cells #[pV X.h] 157)
  rw [hs] at n2
  have c0 := (cell_block ((hb2.block w.heap.size (by rw [hs]; omega)).trans n1) 0).trans (show _ = some (.int .i64 a) from rfl)
  have c1 := (cell_block n2 0).trans (show _ = some (pV X.h) from rfl)
  have HC := Lib.hid (checkLinked_no HH (d.below hb))
  have HB := Lib.hid hb
  clear d hb1 hb2 hb n1 n2 hs HH
  unfold rV pV at *
  go_enter Tryz.func46, Tryz.ntmps46
  go_wp2_with fail
  refine HC.out.mono ?_
  rintro e w1 hq
  have hE := RsR.of_fr HB.out hq
  obtain rfl := hq.1
  have HE := Lib.hid hE
  clear hq HB HC hE
  go_wp2
  go_ret
  exact HE.out
theorem insert_no (d : Rs X R w) : Calls Tryz.prog 54 #[pV X.h, .int .i64 a] w (RsR X R (.int .i64 30) w) := by
  have hb1 := below_made w (.cells #[.int .i64 a] 3)
  have hb2 := below_made (w.alloc (.cells #[.int .i64 a] 3)) (.cells #[pV X.h] 157)
  have hb := hb1.trans (hb2.mono hb1.size)
  have hs : (w.alloc (.cells #[.int .i64 a] 3)).heap.size = w.heap.size + 1 := by simp
  have n1 := heap_alloc_new w (.cells #[.int .i64 a] 3)
  have n2 := heap_alloc_new (w.alloc (.cells #[.int .i64 a] 3)) (.cells #[pV X.h] 157)
  rw [hs] at n2
  have c0 := (cell_block ((hb2.block w.heap.size (by rw [hs]; omega)).trans n1) 0).trans (show _ = some (.int .i64 a) from rfl)
  have c1 := (cell_block n2 0).trans (show _ = some (pV X.h) from rfl)
  have HC := Lib.hid (check_no HH (d.below hb))
  have HB := Lib.hid hb
  clear d hb1 hb2 hb n1 n2 hs HH
  unfold rV pV at *
  go_enter Tryz.func54, Tryz.ntmps54
  go_wp2_with fail
  refine HC.out.mono ?_
  rintro e w1 hq
  have hE := RsR.of_fr HB.out hq
  obtain rfl := hq.1
  have HE := Lib.hid hE
  clear hq HB HC hE
  go_wp2
  go_ret
  exact HE.out
end
theorem Wl.open (d : Wl w0 h n T E B l L br W) (b : Bs E B l L br) : ∃ R, En (fx h T E B l) l R W ∧ Rp R E L br := by
  obtain ⟨R, ⟨l', h1, h2⟩, h3⟩ := id d.rg
  obtain ⟨R0, g1, g2⟩ := b.ex
  obtain ⟨e1, e2, e3, e4⟩ := g2.same h3
  have e : l' = l := g1.back h1.rb b.by_ (st_bytes h1.st) b.ap b.len h2 e1 e2 e3 e4
  subst e
  exact ⟨R, h1, h3⟩
/-- A call that knows no entry. -/
theorem Wl.wild {f : Nat} {args : Array Value} {φ : Value → Prop} (d : Wl w0 h n T E B l L br W) (b : Bs E B l L br)
    (hc : ∀ R, Rs (fx h T [] B l) R W → Calls Tryz.prog f args W fun e w' => ∃ r, φ r ∧ RsR (fx h T [] B l) R r W e w') :
    Calls Tryz.prog f args W fun e w' => ∃ r, φ r ∧ e = .returned r ∧ Wl w0 h n T E B l L br w' ∧ Fr W.heap.size (blkM h) W w' := by
  obtain ⟨R, h1, h3⟩ := d.open b
  have hr0 : Rb [] B l R := h1.rb.sub (fun x hx => by cases hx)
  refine (hc R ⟨l, ⟨h1.st, fun x hx => (by cases hx), hr0, h1.tc⟩, Nr.refl _ _⟩).mono ?_
  rintro e w' ⟨r, hr, rfl, ⟨l', g1, g2⟩, hf⟩
  have e : l' = l := hr0.back g1.rb b.by_ (st_bytes g1.st) (g2.len ▸ ap_of (E := []) g1.st (fun x hx => (by cases hx))) b.len g2 rfl rfl rfl (fun x hx => by cases hx)
  subst e
  have hrg : Rg (fx h T E B l') L br w' := ⟨R, ⟨l', ⟨g1.st, h1.lv, h1.rb, g1.tc⟩, Nr.refl _ _⟩, h3⟩
  exact ⟨r, hr, rfl, ⟨hrg, d.wr.fr ⟨B, l', hrg⟩ hf⟩, hf⟩
/-- What the first field at a place is, and that the ring knows no entry there if it is no entry's. -/
theorem Wl.load_wild (d : Wl w0 h n T E B l L br W) (b : Bs E B l L br) (hz : h.z = true) (h64 : is64 a) : Calls Tryz.prog 56 #[pV h, .int .i64 a, .int .i64 0] W fun e w' =>
    ∃ v : Int, (Wat.kndA (kX 7 224 T) a 4 = 5 → (v = 1 ↔ l.getD a.toNat 0 = 1)) ∧ e = .returned (.int .u64 v) ∧ Wl w0 h n T E B l L br w' ∧ Fr W.heap.size (blkM h) W w' := by
  refine (d.wild b (φ := fun r => ∃ v : Int, (Wat.kndA (kX 7 224 T) a 4 = 5 → (v = 1 ↔ l.getD a.toNat 0 = 1)) ∧ r = .int .u64 v) (fun R hR => (hR.load_wild hz rfl h64).mono ?_)).mono ?_
  · rintro e w' ⟨v, h1, h2⟩
    exact ⟨_, ⟨v, h1, rfl⟩, h2⟩
  · rintro e w' ⟨r, ⟨v, h1, rfl⟩, h2⟩
    exact ⟨v, h1, h2⟩
set_option maxRecDepth 100000 in
theorem Wl.remove_wild (d : Wl w0 h n T E B l L br W) (b : Bs E B l L br) (hz : h.z = true) (h64 : is64 a) (hne : Wat.kndA (kX 7 224 T) a 4 = 5 → l.getD a.toNat 0 ≠ 1) : Calls Tryz.prog 46 #[pV h, .int .i64 a] W fun e w' =>
    e = .returned (.int .i64 30) ∧ Wl w0 h n T E B l L br w' ∧ Fr W.heap.size (blkM h) W w' := by
  have hh : ∀ R, Hid (∀ W, Rs (fx h T [] B l) R W → Calls Tryz.prog 215 #[rV (fx h T [] B l).h, .int .i64 a] W (RsR (fx h T [] B l) R (.bool false) W)) := fun R W hW => has_wild (X := fx h T [] B l) hW hz rfl h64 hne
  refine (d.wild b (φ := fun r => r = .int .i64 30) (fun R hR => (remove_no (X := fx h T [] B l) (hh R) hR).mono ?_)).mono ?_
  · rintro e w' h2
    exact ⟨_, rfl, h2⟩
  · rintro e w' ⟨r, rfl, h2⟩
    exact h2
set_option maxRecDepth 100000 in
theorem Wl.insert_wild (d : Wl w0 h n T E B l L br W) (b : Bs E B l L br) (hz : h.z = true) (h64 : is64 a) (hne : Wat.kndA (kX 7 224 T) a 4 = 5 → l.getD a.toNat 0 ≠ 1) : Calls Tryz.prog 54 #[pV h, .int .i64 a] W fun e w' =>
    e = .returned (.int .i64 30) ∧ Wl w0 h n T E B l L br w' ∧ Fr W.heap.size (blkM h) W w' := by
  have hh : ∀ R, Hid (∀ W, Rs (fx h T [] B l) R W → Calls Tryz.prog 215 #[rV (fx h T [] B l).h, .int .i64 a] W (RsR (fx h T [] B l) R (.bool false) W)) := fun R W hW => has_wild (X := fx h T [] B l) hW hz rfl h64 hne
  refine (d.wild b (φ := fun r => r = .int .i64 30) (fun R hR => (insert_no (X := fx h T [] B l) (hh R) hR).mono ?_)).mono ?_
  · rintro e w' h2
    exact ⟨_, rfl, h2⟩
  · rintro e w' ⟨r, rfl, h2⟩
    exact h2
end
end Go.Proofs.YtjjfihoplkddfaaGreatDoor.Rin
