/- RecordsApart: rows that are written, one byte after another. -/
import Derived.Test.YtmjklelajnadcaaRecL
import Derived.Deep.RegionHeld3
import Derived.BigRegion
namespace Go.Proofs.Ytmjklelajnadcaa.Rec
open Go.RowKit
set_option linter.unusedVariables false

/-- A header at hb, ho of n rows U i, each of which may be written: its bytes lie at block B or behind, ahead of block C. -/
def WSh (B C n hb ho : Nat) (U : Nat → Value) (w : World) : Prop :=
  ∀ i, i < n → w.cell? ⟨hb, ho + i, none⟩ = some (U i) ∧ ∃ a len cap, U i = .slice a len cap ∧ len ≤ cap ∧ cap ≤ 9223372036854775807 ∧
    (0 < len → ∃ b off, a = some ⟨b, off, none⟩ ∧ B ≤ b ∧ b < C ∧ ∀ j, j < len → (∃ x : Int, w.cell? ⟨b, off + j, none⟩ = some (.int .u8 x) ∧ 0 ≤ x ∧ x < 256) ∧ w.frozen? ⟨b, off + j, none⟩ = false)
theorem WSh.ofRow {B : Nat} {w : World} {v : Value} {L : List (List Int)} (h : WLRow B w v L) : ∃ a cap hb ho U, v = .slice a L.length cap ∧ L.length ≤ cap ∧ cap ≤ 9223372036854775807 ∧ (0 < L.length → a = some ⟨hb, ho, none⟩ ∧ hb < w.heap.size) ∧ WSh B w.heap.size L.length hb ho U w := by
  obtain ⟨a, cap, U, h1, h2, h3, h4, h5⟩ := h
  by_cases hpos : 0 < L.length
  · obtain ⟨hb, ho, rfl, hlt, hc⟩ := h5 (by rintro rfl; simp at hpos)
    refine ⟨_, cap, hb, ho, U, h1, h2, h3, fun _ => ⟨rfl, hlt⟩, fun i hi => ⟨hc i hi, ?_⟩⟩
    obtain ⟨⟨ad, c, e, g2, g3, g4, g5⟩, hw⟩ := h4 i hi
    refine ⟨ad, _, c, e, g2, g3, fun hp => ?_⟩
    have hne : L.getD i [] ≠ [] := by intro e0; rw [e0] at hp; simp at hp
    obtain ⟨b, off, rfl, hb2, hcc⟩ := g5 hne
    obtain ⟨k1, k2⟩ := hw b off _ _ e hne
    refine ⟨b, off, rfl, k1, hb2, fun j hj => ⟨⟨_, hcc j hj, ?_⟩, k2 j hj⟩⟩
    have := bounds_u8 (g4 j hj)
    omega
  · exact ⟨a, cap, 0, 0, U, h1, h2, h3, fun h => absurd h hpos, fun i hi => by omega⟩
theorem WSh.set {B C n hb ho : Nat} {U : Nat → Value} {w : World} {p : Addr} {x y : Int} (h : WSh B C n hb ho U w) (hp : w.cell? p = some (.int .u8 y)) (hx : 0 ≤ x ∧ x < 256) : WSh B C n hb ho U (w.setCell p (.int .u8 x)) := by
  intro i hi
  obtain ⟨h1, a, len, cap, e, h2, h3, h4⟩ := h i hi
  refine ⟨?_, a, len, cap, e, h2, h3, fun hl => ?_⟩
  · by_cases hq : p = ⟨hb, ho + i, none⟩
    · rw [hq, h1, e] at hp; cases hp
    · rw [World.cell?_setCell_other _ _ _ _ hq]; exact h1
  · obtain ⟨b, off, ha, hB, hlt, hc⟩ := h4 hl
    refine ⟨b, off, ha, hB, hlt, fun j hj => ⟨?_, by rw [World.frozen?_setCell]; exact (hc j hj).2⟩⟩
    by_cases hq : p = ⟨b, off + j, none⟩
    · subst hq
      exact ⟨x, World.cell?_setCell_same _ _ _ hp, hx⟩
    · rw [World.cell?_setCell_other _ _ _ _ hq]; exact (hc j hj).1
theorem WSh.drew {B C n hb ho : Nat} {U : Nat → Value} {w : World} (h : WSh B C n hb ho U w) (m : Nat) : WSh B C n hb ho U (w.drewN m) := h
theorem WSh.mono {B C D n hb ho : Nat} {U : Nat → Value} {w w' : World} (h : WSh B C n hb ho U w) (hC : C ≤ w.heap.size) (hh : 0 < n → hb < w.heap.size) (hbel : Below D w w') (hD : w.heap.size ≤ D) : WSh B C n hb ho U w' := by
  intro i hi
  obtain ⟨h1, a, len, cap, e, h2, h3, h4⟩ := h i hi
  refine ⟨(hbel.cell (p := ⟨hb, ho + i, none⟩) (show hb < D by have := hh (by omega); omega)).trans h1, a, len, cap, e, h2, h3, fun hl => ?_⟩
  obtain ⟨b, off, ha, hB, hlt, hc⟩ := h4 hl
  have hblk := hbel.block b (by omega)
  refine ⟨b, off, ha, hB, hlt, fun j hj => ⟨?_, ?_⟩⟩
  · rw [World.cell?_of_block (w := w) hblk]; exact (hc j hj).1
  · rw [World.frozen?_of_block (w := w) hblk]; exact (hc j hj).2
theorem Row.set_far {w : World} {v : Value} {l : List Int} {p : Addr} {u : Value} (h : Row .u8 w v l) (hf : l ≠ [] → v.ownBlock ≠ some p.block) : Row .u8 (w.setCell p u) v l := by
  obtain ⟨a, cap, rfl, h2, h3, h4, h5⟩ := h
  refine ⟨a, cap, rfl, h2, h3, h4, fun hne => ?_⟩
  obtain ⟨b, off, rfl, hlt, hc⟩ := h5 hne
  have hb : b ≠ p.block := fun e => hf hne (by simp [Value.ownBlock, e])
  refine ⟨b, off, rfl, by simpa using hlt, fun i hi => ?_⟩
  rw [World.cell?_setCell_far _ _ _ _ (Ne.symm hb)]
  exact hc i hi
theorem pck_short (L : List (List Int)) : (pckB L).length ≤ 3000 := by
  unfold pckB
  split
  · rename_i h
    rw [packL_length]
    have := (few6_sz h).2
    omega
  · simp
theorem unp_pck (L : List (List Int)) : (szE L = 0 ∧ unpV (pckB L) = (L, 0)) ∨ ((szE L == 0) = false ∧ unpV (pckB L) = ([], 3)) := by
  by_cases h : szE L = 0
  · exact .inl ⟨h, by rw [pckB, if_pos h]; exact unp_pack L h⟩
  · refine .inr ⟨by simpa using h, ?_⟩
    rw [pckB, if_neg h, unpV, if_pos (by decide)]
/-- A byte of a row that may be written, where it lies. -/
theorem WSh.at_ {B C n hb ho : Nat} {U : Nat → Value} {w : World} (h : WSh B C n hb ho U w) {i : Nat} (hi : i < n) : w.cell? ⟨hb, ho + i, none⟩ = some (U i) := (h i hi).1

set_option maxRecDepth 100000 in
set_option maxHeartbeats 4000000 in
theorem recordsApart_walk (D : Does) (v : Value) (L : List (List Int)) (w : World) (hr : QRow w v L) :
    Calls Try.prog 7 #[v] w fun e w' => e = .returned (.bool true) ∧ Below w.heap.size w w' := by
  have HD := Lib.hid D
  have HR := Lib.hid hr
  have HF := Lib.hid (few_any v L w hr)
  clear hr
  by_cases hf : few6 L = true
  · rw [hf] at HF
    have HFF := Lib.hid hf
    have hL60 : L.length ≤ 60 := (few6_out hf).1
    clear hf
    go_enter Try.func7, Try.ntmps7
    go_wp2_with fail
    refine HF.out.mono ?_
    rintro e w' ⟨rfl, rfl⟩
    clear HF
    go_wp2_with fail
    refine (HD.out.clone _ _ _ HR.out HFF.out).mono ?_
    rintro e w1 ⟨u1, rfl, hb1, hr1⟩
    have HR1 := Lib.hid (HR.out.mono hb1 (Nat.le_refl _))
    have HO1 := Lib.hid hr1.qrow
    clear hr1 HR
    go_wp2_with fail
    refine (HD.out.clone _ _ _ HO1.out HFF.out).mono ?_
    rintro e w2 ⟨u2, rfl, hb2, hr2⟩
    have HR2 := Lib.hid (HR1.out.mono hb2 (Nat.le_refl _))
    have HO2 := Lib.hid (HO1.out.mono hb2 (Nat.le_refl _))
    have HT2 := Lib.hid hr2
    clear hr2
    go_wp2_with fail
    refine (HD.out.pack _ _ _ HO2.out HFF.out).mono ?_
    rintro e w3 ⟨u3, rfl, hb3, hp3, hn3⟩
    have HP3 := Lib.hid hp3
    have HN3 := Lib.hid hn3
    have HPB := Lib.hid (pck_short L)
    have HUP := Lib.hid (unp_pck L)
    obtain ⟨P, hP⟩ : ∃ P, P = pckB L := ⟨_, rfl⟩
    rw [← hP] at HP3 HN3 HPB HUP
    clear hp3 hn3 hP
    go_wp2_with fail
    refine (HD.out.unpack _ P _ HP3.out HPB.out).mono ?_
    rintro e w4 ⟨u4, rfl, hb4, hr4⟩
    have HP4 := Lib.hid (HP3.out.mono hb4 (Nat.le_refl _))
    have HQ4 := Lib.hid hr4
    obtain ⟨x, hx⟩ : ∃ x, x = (unpV P).1 := ⟨_, rfl⟩
    obtain ⟨c, hc⟩ : ∃ c, c = (unpV P).2 := ⟨_, rfl⟩
    rw [← hx] at HQ4
    rw [← hc]
    obtain ⟨a2, cap2, hb2', ho2, U2, rfl, t1, t2, t3, T2⟩ := WSh.ofRow HT2.out
    obtain ⟨a4, cap4, hb4', ho4, U4, rfl, o1, o2, o3, O4⟩ := WSh.ofRow HQ4.out
    have hs1 := hb1.size
    have hs2 := hb2.size
    have hs3 := hb3.size
    have hs4 := hb4.size
    have HT4 := Lib.hid ((T2.mono (Nat.le_refl _) (fun h => (t3 h).2) hb3 (Nat.le_refl _)).mono hs3 (fun h => by have := (t3 h).2; omega) hb4 (Nat.le_refl _))
    have HO4 := Lib.hid O4
    have HAT := Lib.hid t3
    have HAO := Lib.hid o3
    have HBLK : Hid (P ≠ [] → ∀ k, u3.ownBlock = some k → w2.heap.size ≤ k ∧ k < w3.heap.size) := by
      intro hne k hk
      refine ⟨HN3.out hne k hk, ?_⟩
      obtain ⟨k', h1, h2⟩ := HP3.out.block hne
      rw [hk] at h1
      injection h1 with h1
      omega
    have HB14 := Lib.hid (hb2.trans ((hb3.mono hs2).trans (hb4.mono (show w1.heap.size ≤ w3.heap.size by omega))))
    have HB1 := Lib.hid hb1
    have HB24 := Lib.hid hb4
    have HX := Lib.hid hx
    have HC := Lib.hid hc
    clear HT2 HQ4 T2 O4 t3 o3 hx hc HN3 HP3 HR2 HO2 hb1 hb2 hb3 hb4 
    go_wp2
    go_loopw [9] (fun i wr => ∃ k : Nat, k ≤ L.length ∧ i = .int .i64 k ∧ Hid (WSh w1.heap.size w2.heap.size L.length hb2' ho2 U2 wr) ∧ Hid (WSh w3.heap.size w4.heap.size x.length hb4' ho4 U4 wr) ∧ Hid (Row .u8 wr u3 P) ∧ Below w1.heap.size w4 wr) (fun i _ => L.length - (intOf i).toNat)
    case atStart => exact ⟨0, Nat.zero_le _, rfl, HT4.out, HO4.out, HP4.out, Below.refl _ _⟩
    case round =>
      obtain ⟨k, hk, rfl, HT, HO, HP, hbel⟩ := hrel
      by_cases hlt : k < L.length
      · have hlt1 : (k : Int) < (L.length : Int) := by omega
        obtain ⟨rfl, hhb⟩ := HAT.out (by omega)
        obtain ⟨-, ar, len, cap, hU, g1, g2, g3⟩ := HT.out k hlt
        have g3H := Lib.hid g3
        obtain ⟨UK, hUK⟩ : ∃ u, u = U2 k := ⟨_, rfl⟩
        rw [← hUK] at hU
        subst hU
        have HUK := Lib.hid hUK
        obtain ⟨W5, rfl⟩ : ∃ W5, W5 = wr := ⟨_, rfl⟩
        have HBL := Lib.hid hbel
        clear hUK g3 hbel
        have hl63 : (len : Int) ≤ 9223372036854775807 := by omega
        go_wp2
        go_loopw [10] (fun j wz => ∃ m : Nat, m ≤ len ∧ j = .int .i64 m ∧ Hid (WSh w1.heap.size w2.heap.size L.length hb2' ho2 U2 wz) ∧ Hid (WSh w3.heap.size w4.heap.size x.length hb4' ho4 U4 wz) ∧ Hid (Row .u8 wz u3 P) ∧ Below w1.heap.size w4 wz) (fun j _ => len - (intOf j).toNat)
        case atStart => exact ⟨0, Nat.zero_le _, rfl, HT.out, HO.out, HP.out, HBL.out⟩
        case round =>
          obtain ⟨m, hm, rfl, HTz, HOz, HPz, hbelz⟩ := hrel
          have hh := HTz.out.at_ hlt
          rw [← HUK.out] at hh
          by_cases hlt2 : m < len
          · have hlt3 : (m : Int) < (len : Int) := by omega
            obtain ⟨-, ar2, len2, cap2b, hU2, -, -, e3⟩ := HTz.out k hlt
            rw [← HUK.out] at hU2
            injection hU2 with f1 f2 f3
            subst f1 f2 f3
            obtain ⟨b, off, rfl, eB, eC, ec⟩ := e3 (by omega)
            obtain ⟨⟨y, ey, y0, y1⟩, efz⟩ := ec m hlt2
            obtain ⟨z, hz⟩ : ∃ z, z = IntKind.u8.wrap (y + 1) := ⟨_, rfl⟩
            have hzb : 0 ≤ z ∧ z < 256 := by rw [hz]; simp [IntKind.wrap, IntKind.bits, IntKind.signed]; omega
            have hz' := hz.symm
            have n0 : (0 : Int) ≤ (m : Int) := by omega
            have n1 : (0 : Int) ≤ (k : Int) := by omega
            clear hz ec e3
            go_wp2_with fail
            have hpf : P ≠ [] → u3.ownBlock ≠ some b := fun hne e => by
              have := HBLK.out hne b e
              omega
            go_region
            go_wp2
            refine ⟨⟨m + 1, by omega, by go_num, (HTz.out.set ey hzb).drew 1, (HOz.out.set ey hzb).drew 1, (Row.set_far HPz.out hpf).mono (B := _) (Below.refl _ _).drew (Nat.le_refl _), (hbelz.setCell eB _).drew⟩, by simp [intOf]; omega⟩
          · go_wp2
            refine ⟨⟨k + 1, by omega, by go_num, HTz, HOz, HPz, hbelz⟩, by simp [intOf]; omega⟩
      · have hb1r := HB14.out.trans hbel
        have hv := HR1.out.mono hb1r (Nat.le_refl _)
        have ho := HO1.out.mono hb1r (Nat.le_refl _)
        clear HT
        go_wp2_with fail
        refine (sameQ_any _ _ _ _ _ ho hv).mono ?_
        rintro e w6 ⟨he, hm6⟩
        rw [dec_self] at he
        subst he
        have hb6 := below_drawn (Below.refl wr.heap.size wr) hm6
        obtain ⟨m6, rfl⟩ := hm6
        have HO6 : Hid (WSh w3.heap.size w4.heap.size x.length hb4' ho4 U4 (wr.drewN m6)) := HO.out
        have HP6 := Lib.hid (HP.out.mono hb6 (Nat.le_refl _))
        have HW6 := Lib.hid (hb1r.trans (hb6.mono hb1r.size))
        have hsz6 : w4.heap.size ≤ (wr.drewN m6).heap.size := hbel.size
        clear hv ho HO HP hb6 hb1r hbel
        obtain ⟨W6, hW6⟩ : ∃ W6, W6 = wr.drewN m6 := ⟨_, rfl⟩
        rw [← hW6] at HO6 HP6 HW6 hsz6 ⊢
        clear hW6
        have hx60 : x.length ≤ 60 := by
          rw [HX.out]
          rcases HUP.out with ⟨-, h⟩ | ⟨-, h⟩
          · rw [h]; exact hL60
          · rw [h]; simp
        go_wp2
        go_loopw [11] (fun i wr => ∃ k : Nat, k ≤ x.length ∧ i = .int .i64 k ∧ Hid (WSh w3.heap.size w4.heap.size x.length hb4' ho4 U4 wr) ∧ Hid (Row .u8 wr u3 P) ∧ Below w3.heap.size W6 wr) (fun i _ => x.length - (intOf i).toNat)
        case atStart => exact ⟨0, Nat.zero_le _, rfl, HO6, HP6.out, Below.refl _ _⟩
        case round =>
          obtain ⟨k, hk, rfl, HT, HP, hbel⟩ := hrel
          by_cases hlt : k < x.length
          · have hlt1 : (k : Int) < (x.length : Int) := by omega
            obtain ⟨rfl, hhb⟩ := HAO.out (by omega)
            obtain ⟨-, ar, len, cap, hU, g1, g2, g3⟩ := HT.out k hlt
            obtain ⟨UK, hUK⟩ : ∃ u, u = U4 k := ⟨_, rfl⟩
            rw [← hUK] at hU
            subst hU
            have HUK := Lib.hid hUK
            obtain ⟨W7, rfl⟩ : ∃ W7, W7 = wr := ⟨_, rfl⟩
            have HBL := Lib.hid hbel
            clear hUK g3 hbel
            have hl63 : (len : Int) ≤ 9223372036854775807 := by omega
            go_wp2
            go_loopw [12] (fun j wz => ∃ m : Nat, m ≤ len ∧ j = .int .i64 m ∧ Hid (WSh w3.heap.size w4.heap.size x.length hb4' ho4 U4 wz) ∧ Hid (Row .u8 wz u3 P) ∧ Below w3.heap.size W6 wz) (fun j _ => len - (intOf j).toNat)
            case atStart => exact ⟨0, Nat.zero_le _, rfl, HT.out, HP.out, HBL.out⟩
            case round =>
              obtain ⟨m, hm, rfl, HTz, HPz, hbelz⟩ := hrel
              have hh := HTz.out.at_ hlt
              rw [← HUK.out] at hh
              by_cases hlt2 : m < len
              · have hlt3 : (m : Int) < (len : Int) := by omega
                obtain ⟨-, ar2, len2, cap2b, hU2, -, -, e3⟩ := HTz.out k hlt
                rw [← HUK.out] at hU2
                injection hU2 with f1 f2 f3
                subst f1 f2 f3
                obtain ⟨b, off, rfl, eB, eC, ec⟩ := e3 (by omega)
                obtain ⟨⟨y, ey, y0, y1⟩, efz⟩ := ec m hlt2
                obtain ⟨z, hz⟩ : ∃ z, z = IntKind.u8.wrap (y + 1) := ⟨_, rfl⟩
                have hzb : 0 ≤ z ∧ z < 256 := by rw [hz]; simp [IntKind.wrap, IntKind.bits, IntKind.signed]; omega
                have hz' := hz.symm
                have n0 : (0 : Int) ≤ (m : Int) := by omega
                have n1 : (0 : Int) ≤ (k : Int) := by omega
                clear hz ec e3
                go_wp2_with fail
                have hpf : P ≠ [] → u3.ownBlock ≠ some b := fun hne e => by
                  have := HBLK.out hne b e
                  omega
                go_region
                go_wp2
                refine ⟨⟨m + 1, by omega, by go_num, (HTz.out.set ey hzb).drew 1, (Row.set_far HPz.out hpf).mono (B := _) (Below.refl _ _).drew (Nat.le_refl _), (hbelz.setCell eB _).drew⟩, by simp [intOf]; omega⟩
              · go_wp2
                refine ⟨⟨k + 1, by omega, by go_num, HTz, HPz, hbelz⟩, by simp [intOf]; omega⟩
          · have HPr := Lib.hid HP.out
            clear HT HP
            go_wp2_with fail
            refine (HD.out.unpack _ P _ HPr.out HPB.out).mono ?_
            rintro e w8 hg
            obtain ⟨u8b, rfl, hb8, hr8⟩ := hg.got
            have hw36 : w3.heap.size ≤ W6.heap.size := by omega
            have hbr := HW6.out.trans (hbel.mono (show w1.heap.size ≤ w3.heap.size by omega))
            have hb8r := hbr.trans (hb8.mono hbr.size)
            have HV8 := Lib.hid (HR1.out.mono hb8r (Nat.le_refl _))
            have hbt := HB1.out.trans (hb8r.mono hs1)
            have HQ8 := Lib.hid hr8
            clear hr8 hg hbr hb8r hb8 hbel HPr
            rcases HUP.out with ⟨hE, hU⟩ | ⟨hE, hU⟩
            · rw [hU] at HQ8 ⊢
              rw [hE]
              simp only [] at HQ8 ⊢
              clear hE hU HUP
              go_wp2_with fail
              refine (sameQ_any _ _ _ _ _ HQ8.out HV8.out).mono ?_
              rintro e w9 ⟨he, hm9⟩
              rw [dec_self] at he
              subst he
              have hb9 := below_drawn hbt hm9
              clear hm9 HQ8 HV8 hbt
              go_wp2_with fail
              refine (packs_any HD.out _).mono ?_
              rintro e w10 ⟨rfl, hb10⟩
              go_wp2
              go_ret
              exact ⟨rfl, hb9.trans (hb10.mono hb9.size)⟩
            · rw [hU]
              simp only []
              have hE2 : (szE L != 0) = true := by rw [bne, hE]; rfl
              clear hU HUP HQ8 HV8
              go_wp2_with fail
              refine (packs_any HD.out _).mono ?_
              rintro e w10 ⟨rfl, hb10⟩
              go_wp2
              go_ret
              exact ⟨rfl, hbt.trans (hb10.mono hbt.size)⟩
  · have hf3 : few6 L = false := by simpa using hf
    rw [hf3] at HF
    clear hf hf3
    go_enter Try.func7, Try.ntmps7
    go_wp2_with fail
    refine HF.out.mono ?_
    rintro e w' ⟨rfl, rfl⟩
    clear HF
    go_wp2_with fail
    refine (packs_any HD.out _).mono ?_
    rintro e w1 ⟨rfl, hb⟩
    go_wp2
    go_ret
    exact ⟨rfl, hb⟩
end Go.Proofs.Ytmjklelajnadcaa.Rec
