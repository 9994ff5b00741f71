/- Contract of wire's add. -/
import Derived.Test.YtjhmjimfehanbaaWireS
import Derived.Deep.RegionWith
import Derived.Deep.RegionHeld3
namespace Go.Proofs.Ytjhmjimfehanbaa.Wire
open Go.RowKit Fold Name
open Go.Maps (string_keyed)
set_option linter.unusedVariables false

/-- Below block N the world w is as a was, but for the blocks of S. -/
structure FrN (N : Nat) (S : Nat → Prop) (a w : World) : Prop where
  os : w.os = a.os
  tape : w.tape = a.tape
  output : w.output = a.output
  size : a.heap.size ≤ w.heap.size
  block : ∀ k, k < N → ¬ S k → w.heap[k]? = a.heap[k]?
theorem FrN.refl (N : Nat) (S : Nat → Prop) (w : World) : FrN N S w w := ⟨rfl, rfl, rfl, Nat.le_refl _, fun _ _ _ => rfl⟩
theorem FrN.grown {N : Nat} {S : Nat → Prop} {a w w' : World} {row : Option Nat} (h : FrN N S a w) (hg : w.grownBy w' row) (hN : N ≤ w.heap.size) (hr : ∀ k, row = some k → N ≤ k ∨ S k) : FrN N S a w' :=
  ⟨hg.os.trans h.os, hg.tape.trans h.tape, hg.output.trans h.output, Nat.le_trans h.size hg.size, fun k hk hs => (hg.block k (by omega) (fun e => by rcases hr k e.symm with h | h; omega; exact hs h)).trans (h.block k hk hs)⟩
theorem FrN.setCell {N : Nat} {S : Nat → Prop} {a w : World} (h : FrN N S a w) {p : Addr} (hp : S p.block) (u : Value) : FrN N S a (w.setCell p u) :=
  ⟨h.os, h.tape, h.output, by have := h.size; simp [World.setCell]; exact this, fun k hk hs => (Below.heap_setCell _ _ _ _ (fun e => hs (by rw [e]; exact hp))).trans (h.block k hk hs)⟩
theorem FrN.below {N : Nat} {S : Nat → Prop} {a w w' : World} (h : FrN N S a w) (hb : Below w.heap.size w w') (hN : N ≤ w.heap.size) : FrN N S a w' :=
  ⟨hb.os.trans h.os, hb.tape.trans h.tape, hb.output.trans h.output, Nat.le_trans h.size hb.size, fun k hk hs => (hb.block k (by omega)).trans (h.block k hk hs)⟩
theorem FrN.toBelow {N B : Nat} {S : Nat → Prop} {a w : World} (h : FrN N S a w) (hB : B ≤ N) (hS : ∀ k, S k → B ≤ k) : Below B a w :=
  ⟨h.os, h.tape, h.output, h.size, fun k hk => h.block k (by omega) (fun hs => by have := hS k hs; omega)⟩

/-- The packer at block g: its bytes, and its map at block m. -/
def PS (w : World) (B g m n : Nat) (V : Value) (b : List Int) (D : DataW Unit) : Prop :=
  w.heap[g]? = some (.cells #[V, .map (some m)] 57 (0, 0)) ∧ w.ownsRow B 5 1 V b.length (vals b) ∧ w.ownsMap Try.prog 9 (plainElem Try.prog 3) m n D
theorem PS.cells {w : World} {B g m n : Nat} {V : Value} {b : List Int} {D : DataW Unit} (h : PS w B g m n V b D) :
    w.cell? ⟨g, 0, none⟩ = some V ∧ w.cell? ⟨g, 1, none⟩ = some (.map (some m)) ∧ w.frozen? ⟨g, 0, none⟩ = false ∧ w.frozen? ⟨g, 1, none⟩ = false := by
  obtain ⟨h1, -, -⟩ := h
  refine ⟨by rw [cell_block h1]; rfl, by rw [cell_block h1]; rfl, by simp [World.frozen?, h1], by simp [World.frozen?, h1]⟩
theorem PS.lt {w : World} {B g m n : Nat} {V : Value} {b : List Int} {D : DataW Unit} (h : PS w B g m n V b D) : g < w.heap.size := (Array.getElem?_eq_some_iff.1 h.1).1
theorem PS.below {w w' : World} {B g m n : Nat} {V : Value} {b : List Int} {D : DataW Unit} (h : PS w B g m n V b D) (hb : Below w.heap.size w w') : PS w' B g m n V b D := by
  have hlt := h.lt
  obtain ⟨h1, h2, h3⟩ := h
  refine ⟨(hb.block g hlt).trans h1, ownsRow_stays h2 hb, h3.kept (row := none) ⟨hb.os, hb.tape, hb.output, hb.size, fun j hj _ => hb.block j hj⟩ (by simp)⟩
/-- Behind a write into the bytes. -/
theorem PS.after {w w' : World} {B g m n : Nat} {V : Value} {b : List Int} {D : DataW Unit} (h : PS w B g m n V b D) (hg : w.grownBy w' V.ownBlock) (hgB : g < B) :
    w'.cell? ⟨g, 0, none⟩ = some V ∧ w'.cell? ⟨g, 1, none⟩ = some (.map (some m)) ∧ w'.frozen? ⟨g, 0, none⟩ = false ∧ w'.frozen? ⟨g, 1, none⟩ = false := by
  have h1 : w'.heap[g]? = some (.cells #[V, .map (some m)] 57 (0, 0)) := (hg.block g h.lt (ne_low h.2.1 hgB)).trans h.1
  refine ⟨by rw [cell_block h1]; rfl, by rw [cell_block h1]; rfl, by simp [World.frozen?, h1], by simp [World.frozen?, h1]⟩
theorem PS.wrote {w w' : World} {B g m n : Nat} {V V' : Value} {b b' : List Int} {D : DataW Unit} (h : PS w B g m n V b D) (hg : w.grownBy w' V.ownBlock) (hgB : g < B) (hmB : m < B) (hne : g ≠ m) (hown : w'.ownsRow B 5 1 V' b'.length (vals b')) :
    PS (w'.setCell ⟨g, 0, none⟩ V') B g m n V' b' D := by
  have h1 : w'.heap[g]? = some (.cells #[V, .map (some m)] 57 (0, 0)) := (hg.block g h.lt (ne_low h.2.1 hgB)).trans h.1
  refine ⟨?_, ?_, ?_⟩
  · simp [World.setCell, Array.getElem?_modify, h1]
  · refine hown.kept (w' := w'.setCell ⟨g, 0, none⟩ V') (row := some g) ⟨rfl, rfl, rfl, by simp [World.setCell], fun k hk hne => Below.heap_setCell _ _ _ _ (fun e => hne (by rw [e]))⟩ ?_
    exact .inr (fun e => ne_low hown hgB e.symm)
  · exact (h.2.2.kept hg (ne_low h.2.1 hmB)).setCell (fun e => hne e.symm) _

theorem PS.stored {w w' : World} {B g m n : Nat} {V : Value} {b : List Int} {D D' : DataW Unit} (h : PS w B g m n V b D) (hg : w.grownBy w' (some m)) (hne : g ≠ m) (hmB : m < B) (hm : w'.ownsMap Try.prog 9 (plainElem Try.prog 3) m (n + 1) D') : PS w' B g m (n + 1) V b D' :=
  ⟨(hg.block g h.lt (by simp [hne])).trans h.1, h.2.1.kept hg (.inr (fun e => ne_low h.2.1 hmB e.symm)), hm⟩
theorem FrN.drew {N : Nat} {S : Nat → Prop} {a w : World} (h : FrN N S a w) : FrN N S a w.drew := ⟨h.os, h.tape, h.output, h.size, h.block⟩
theorem encN_hit {t : List (List ByteArray × Nat)} {b : List Int} {s : ByteArray} {l : List ByteArray} {to : Nat} (h : fnd t ((s :: l).map lowS) = some to) : encN t b (s :: l) = (b ++ [192 + (to : Int) / 256, (to : Int) % 256], t) := by
  rw [encN, h]
theorem encN_miss {t : List (List ByteArray × Nat)} {b : List Int} {s : ByteArray} {l : List ByteArray} (h : fnd t ((s :: l).map lowS) = none) : encN t b (s :: l) = encN (t ++ [((s :: l).map lowS, b.length)]) (b ++ ((s.size : Int) :: bs (lowS s))) l := by
  rw [encN, h]
theorem owns_slice {w : World} {base : Nat} {e : TypeId} {size : Nat} {v : Value} {n : Nat} {xs : List Value} (h : w.ownsRow base e size v n xs) : ∃ a c, v = .slice a n c := by
  rcases h.2 with ⟨rfl, rfl⟩ | ⟨g, cap, cur, rfl, _⟩
  · exact ⟨none, 0, rfl⟩
  · exact ⟨_, _, rfl⟩
def sizeS : Value → Nat | .string s => s.size | _ => 0
theorem keyS_head {l : List ByteArray} (h : allLab l = true) (h0 : 0 < (keyS l).size) : (((keyS l)[0]'h0).toNat : Int) = (putL l).getD 0 0 := by rw [← bs_getD, bs_keyS h]

theorem encN_small (t : List (List ByteArray × Nat)) (b : List Int) (l : List ByteArray) (hb : b.length + wire l ≤ 16384) (ht : ∀ x p, (x, p) ∈ t → p < 16384) : ∀ x p, (x, p) ∈ (encN t b l).2 → p < 16384 := by
  induction l generalizing t b with
  | nil => simpa [encN] using ht
  | cons s l ih =>
    have hw := wire_pos l
    simp only [wire] at hb
    unfold encN
    split
    · exact ht
    · refine ih _ _ (by simp [bs_length, lowS_size]; omega) ?_
      intro x p hx
      rcases List.mem_append.1 hx with h | h
      · exact ht x p h
      · simp at h
        omega

def Added (w : World) (B g m n : Nat) (V : Value) (r : List Int × List (List ByteArray × Nat)) (k : Nat) (e : Ending) (w' : World) : Prop :=
  e = .returned (.tuple #[]) ∧ ∃ V' n' D', PS w' B g m n' V' r.1 D' ∧ MapOk D' r.2 ∧ n' ≤ n + k ∧ FrN w.heap.size (fun k => k = g ∨ k = m ∨ V.ownBlock = some k) w w' ∧ (V'.ownBlock = V.ownBlock ∨ ∀ r, V'.ownBlock = some r → w.heap.size ≤ r)

theorem keyedS : Maps.Keyed Try.prog 9 := string_keyed Try.underlying9
theorem zeroInt (w : World) : (zeroValue 3).run Try.prog w = .ok (.int .i64 0) w := by kernel_rfl

set_option maxRecDepth 100000 in
set_option maxHeartbeats 4000000 in
theorem add_any (B g m n : Nat) (V : Value) (b : List Int) (t : List (List ByteArray × Nat)) (D : DataW Unit) (l : List ByteArray) (w : World) (hP : PS w B g m n V b D) (hgB : g < B) (hmB : m < B) (hne : g ≠ m) (hB : B ≤ w.heap.size)
    (hM : MapOk D t) (ha : allLab l = true) (hlen : b.length + wire l ≤ 16384) (ht : ∀ x p, (x, p) ∈ t → p < 16384) (hn : n ≤ 100000) :
    Calls Try.prog 25 #[.pointer (some ⟨g, 0, none⟩), .string (keyS l)] w (Added w B g m n V (encN t b l) l.length) := by
  have HP0 := Lib.hid hP
  have HM0 := Lib.hid hM
  have HA0 := Lib.hid ha
  have HL0 := Lib.hid hlen
  have HT0 := Lib.hid ht
  clear hP hM ha hlen ht
  go_enter Try.func25, Try.ntmps25
  go_wp2
  go_loopw [4] (fun r wr => ∃ (l' : List ByteArray) (t' : List (List ByteArray × Nat)) (b' : List Int) (V' : Value) (n' : Nat) (D' : DataW Unit), r = .string (keyS l') ∧ Hid (encN t' b' l' = encN t b l) ∧ Hid (PS wr B g m n' V' b' D') ∧ Hid (MapOk D' t') ∧ Hid (allLab l' = true) ∧ Hid (b'.length + wire l' ≤ 16384) ∧ Hid (∀ x p, (x, p) ∈ t' → p < 16384) ∧ Hid (n' + l'.length ≤ n + l.length) ∧
      Hid (FrN w.heap.size (fun k => k = g ∨ k = m ∨ V.ownBlock = some k) w wr) ∧ Hid (V'.ownBlock = V.ownBlock ∨ ∀ r, V'.ownBlock = some r → w.heap.size ≤ r)) (fun r _ => sizeS r)
  case atStart => exact ⟨l, t, b, V, n, D, rfl, rfl, HP0, HM0, HA0, HL0, HT0, Nat.le_refl _, FrN.refl _ _ _, .inl rfl⟩
  case round =>
    obtain ⟨l', t', b', V', n', D', rfl, HE, HP, HM, HA, HL, HT, HN, HF, HV⟩ := hrel
    have hbig : B ≤ wr.heap.size := by have := HF.out.size; omega
    obtain ⟨c0, c1, f0, f1⟩ := HP.out.cells
    have hT0 := keyS_head HA.out
    have hTs := keyS_size l'
    have hw1 := wire_pos l'
    have hsz0 : 0 < (keyS l').size := by omega
    have hsi : (0 : Int) < ((keyS l').size : Int) := by omega
    have hT1 := hT0 hsz0
    clear hT0
    have HV2 : Hid (∀ k, V'.ownBlock = some k → w.heap.size ≤ k ∨ (k = g ∨ k = m ∨ V.ownBlock = some k)) := by
      intro k hk
      rcases HV.out with h | h
      · exact .inr (.inr (.inr (h.symm.trans hk)))
      · exact .inl (h k hk)
    have hbl := HL.out
    obtain ⟨aV, cV, rfl⟩ := owns_slice HP.out.2.1
    cases l' with
    | nil =>
      have hT00 : ((keyS [])[0]'hsz0).toNat = 0 := by simp [putL] at hT1; omega
      have HX := Lib.hid (madeU1 wr 0 (by omega) (by omega))
      have HP1 := Lib.hid (HP.out.below (below_made wr (.cells #[.int .u8 0] 5)))
      have HF1 := Lib.hid (HF.out.below (below_made wr (.cells #[.int .u8 0] 5)) HF.out.size)
      clear hT1 hTs hw1
      generalize keyS [] = T at hsz0 hsi hT00 ⊢
      simp only [wire] at hbl
      go_wp2_with fail
      refine (with_any B _ _ b' _ _ HP1.out.2.1 HX.out (by simp; omega) (le_alloc _ hbig)).mono ?_
      rintro e w2 ⟨v2, rfl, hown2, hg2, hv2⟩
      obtain ⟨d0, d1, e0, e1⟩ := HP1.out.after hg2 hgB
      have HP2 := Lib.hid (HP1.out.wrote hg2 hgB hmB hne hown2)
      have HF2 := Lib.hid ((HF1.out.grown hg2 (Nat.le_trans HF.out.size (le_alloc _ (Nat.le_refl _))) HV2.out).setCell (p := ⟨g, 0, none⟩) (.inl rfl) v2)
      have HV3 : Hid (v2.ownBlock = V.ownBlock ∨ ∀ r, v2.ownBlock = some r → w.heap.size ≤ r) := by
        rcases hv2 with h | h
        · unfold Hid; rw [h]; exact HV.out
        · refine .inr fun r hr => ?_
          rw [h] at hr
          injection hr with hr
          have h1 : wr.heap.size ≤ r := by rw [← hr]; exact le_alloc _ (Nat.le_refl _)
          exact Nat.le_trans HF.out.size h1
      obtain ⟨a2, c2, rfl⟩ := owns_slice hown2
      clear hown2 hg2 hv2
      have HEq : (b' ++ [0], t') = encN t b l := HE.out
      have hl1 : (b' ++ [0]).length = b'.length + 1 := by simp
      rw [hl1] at HP2 HF2 HV3
      have HEnd : Hid (∀ w', PS w' B g m n' (.slice a2 (b'.length + 1) c2) (b' ++ [0]) D' → FrN w.heap.size (fun k => k = g ∨ k = m ∨ V.ownBlock = some k) w w' → Added w B g m n V (encN t b l) l.length (.returned (.tuple #[])) w') := by
        intro w' h1 h2
        rw [← HEq]
        refine ⟨rfl, _, _, _, h1, HM.out, ?_, h2, HV3.out⟩
        have := HN.out
        simp at this
        omega
      clear HEq HE hl1
      go_wp2
      go_end0
      exact HEnd.out _ HP2.out HF2.out
    | cons s l2 =>
      have hss : labS s = 0 ∧ allLab l2 = true := by
        have := HA.out
        unfold allLab at this ⊢
        simp only [List.all_cons, Bool.and_eq_true, beq_iff_eq] at this
        exact this
      have hz := labS_size hss.1
      have hT00 : ((keyS (s :: l2))[0]'hsz0).toNat = s.size := by
        have e : (putL (s :: l2)).getD 0 0 = (s.size : Int) := rfl
        omega
      simp only [wire] at hbl hTs
      have hkey := WideMaps.keyOf_string_mk (P := Try.prog) (k := 9) Try.underlying9 (s := keyS (s :: l2)) (maxLen_of (by omega))
      obtain ⟨hm1, hm2⟩ := HM.out.2 (s :: l2) HA.out
      cases hf : fnd t' ((s :: l2).map lowS) with
      | some to =>
        obtain ⟨hh, hat0⟩ := hm1 to hf
        have HE2 := (encN_hit (b := b') hf).symm.trans HE.out
        have hto := HT.out _ _ (fnd_mem hf)
        unfold klS at hh hat0
        have HH := Lib.hid hh
        have HAT := Lib.hid hat0
        have HEq := Lib.hid HE2
        have HK := Lib.hid hkey
        clear hm1 hm2 hh hat0 HE2 HE hf hkey hT1 hTs hw1
        have hs256 : (s.size : Int) < 256 := by omega
        have hsn0 : ((s.size : Int) != 0) = true := by rw [bne_iff_ne]; omega
        generalize keyS (s :: l2) = T at hsz0 hsi hT00 HH HAT HK ⊢
        have hto2 : (to : Int) < 16384 := by omega
        go_wp2_with (at_lookup; refine wpList_lookup_own_ok_int _ rfl _ _ 55 rfl 9 3 .i64 keyedS Try.underlying55 Try.underlying3 (zeroInt _) m n' D' rfl HP.out.2.2 _ _ rfl HK.out ?_; intro c hat hwc; rw [HH.out])
        obtain rfl : c = (to : Int) := by
          have := hat.symm.trans HAT.out
          injection this with this
          injection this
        have hx1 : (192 + (to : Int) / 256) % 256 = 192 + (to : Int) / 256 := by omega
        have HX1 := Lib.hid hx1
        have HX := Lib.hid (madeU2 wr ((192 + (to : Int) / 256) % 256) ((to : Int) % 256) (by omega) (by omega) (by omega) (by omega))
        have HP1 := Lib.hid (HP.out.below (below_made wr (.cells #[.int .u8 ((192 + (to : Int) / 256) % 256), .int .u8 ((to : Int) % 256)] 5)))
        have HF1 := Lib.hid (HF.out.below (below_made wr (.cells #[.int .u8 ((192 + (to : Int) / 256) % 256), .int .u8 ((to : Int) % 256)] 5)) HF.out.size)
        refine (with_any B _ _ b' _ _ HP1.out.2.1 HX.out (by simp; omega) (le_alloc _ hbig)).mono ?_
        rintro e w2 ⟨v2, rfl, hown2, hg2, hv2⟩
        rw [hx1] at hown2
        obtain ⟨d0, d1, e0, e1⟩ := HP1.out.after hg2 hgB
        have HP2 := Lib.hid (HP1.out.wrote hg2 hgB hmB hne hown2)
        have HF2 := Lib.hid ((HF1.out.grown hg2 (Nat.le_trans HF.out.size (le_alloc _ (Nat.le_refl _))) HV2.out).setCell (p := ⟨g, 0, none⟩) (.inl rfl) v2)
        have HV3 : Hid (v2.ownBlock = V.ownBlock ∨ ∀ r, v2.ownBlock = some r → w.heap.size ≤ r) := by
          rcases hv2 with h | h
          · unfold Hid; rw [h]; exact HV.out
          · refine .inr fun r hr => ?_
            rw [h] at hr
            injection hr with hr
            have h1 : wr.heap.size ≤ r := by rw [← hr]; exact le_alloc _ (Nat.le_refl _)
            exact Nat.le_trans HF.out.size h1
        obtain ⟨a2, c2, rfl⟩ := owns_slice hown2
        clear hown2 hg2 hv2 hx1
        have hl1 : (b' ++ [192 + (to : Int) / 256, (to : Int) % 256]).length = b'.length + 2 := by simp
        rw [hl1] at HP2 HF2 HV3
        have HEnd : Hid (∀ w', PS w' B g m n' (.slice a2 (b'.length + 2) c2) (b' ++ [192 + (to : Int) / 256, (to : Int) % 256]) D' → FrN w.heap.size (fun k => k = g ∨ k = m ∨ V.ownBlock = some k) w w' → Added w B g m n V (encN t b l) l.length (.returned (.tuple #[])) w') := by
          intro w' h1 h2
          rw [← HEq.out]
          refine ⟨rfl, _, _, _, h1, HM.out, ?_, h2, HV3.out⟩
          have := HN.out
          omega
        clear hl1 HEq hat hwc hto2 HAT
        go_wp2
        (try simp only [Exit.inBlock, Exit.then]); refine bodyPost_ret (results_none rfl _ _ _) rfl ?_
        exact HEnd.out _ HP2.out HF2.out
      | none =>
        have hh := hm2 hf
        have HE2 := (encN_miss (b := b') hf).symm.trans HE.out
        unfold klS at hh
        have HH := Lib.hid hh
        have HEq := Lib.hid HE2
        have HK := Lib.hid hkey
        have HM2 := Lib.hid (HM.out.put (n := b'.length) HA.out hf)
        unfold klS at HM2
        have hxs := lowS_size s
        have hb1 : bs ((keyS (s :: l2)).extract 0 (1 + s.size)) = [(s.size : Int)] ++ bs (lowS s) := by
          rw [bs_cut, bs_keyS HA.out, putL]
          simp only [List.drop_zero, Nat.sub_zero]
          rw [List.take_append_of_le_length (by simp [bs_length, lowS_size]; omega), List.take_of_length_le (by simp [bs_length, lowS_size]; omega)]
          rfl
        have hb2 : (keyS (s :: l2)).extract (1 + s.size) (keyS (s :: l2)).size = keyS l2 := by
          apply bs_inj
          rw [bs_cut, bs_keyS HA.out, bs_keyS hss.2, keyS_size, putL, List.drop_append, List.drop_eq_nil_of_le (by simp [bs_length, lowS_size]; omega), List.nil_append]
          simp only [List.length_cons, bs_length, lowS_size, wire]
          rw [show 1 + s.size - (s.size + 1) = 0 by omega, List.drop_zero, List.take_of_length_le (by rw [putL_length]; omega)]
        have hs256 : (s.size : Int) < 256 := by omega
        have hsn0 : ((s.size : Int) != 0) = true := by rw [bne_iff_ne]; omega
        have hcut : (1 : Int) + s.size ≤ ((keyS (s :: l2)).size : Int) := by omega
        have hT2 := keyS_size l2
        clear hm1 hm2 hh HE2 HE hf hkey hT1 hw1
        obtain ⟨N, hN⟩ : ∃ N, N = s.size := ⟨_, rfl⟩
        simp only [← hN] at hT00 hb1 hb2 hs256 hsn0 hcut
        have HNs := Lib.hid hN
        clear hN
        have HTS := Lib.hid hTs
        clear hTs
        generalize keyS (s :: l2) = T at hsz0 hsi hT00 HH HK hb1 hb2 hcut HTS HM2 ⊢
        obtain ⟨M, hM⟩ : ∃ M, M = 1 + N := ⟨_, rfl⟩
        have hMw : IntKind.i64.wrap (1 + (N : Int)) = (M : Int) := (wrap_id (by omega) (by omega)).trans (by omega)
        rw [← hM] at hb1 hb2
        have hcut : (M : Int) ≤ (T.size : Int) := by omega
        have hcut0 : (0 : Int) ≤ (M : Int) := by omega
        have HMN := Lib.hid hM
        clear hM
        obtain ⟨Y, hY⟩ : ∃ Y, T.extract 0 M = Y := ⟨_, rfl⟩
        rw [hY] at hb1
        obtain ⟨T2, hT2e⟩ : ∃ T2, T2 = keyS l2 := ⟨_, rfl⟩
        rw [← hT2e] at hb2 hT2
        have HT2 := Lib.hid hT2e
        have HT2S := Lib.hid hT2
        clear hT2e hT2
        go_wp2_with (at_lookup; refine wpList_lookup_own_ok_int _ rfl _ _ 55 rfl 9 3 .i64 keyedS Try.underlying55 Try.underlying3 (zeroInt _) m n' D' rfl HP.out.2.2 _ _ rfl HK.out ?_; intro c hat hwc; rw [HH.out])
        have HPd : PS wr.drew B g m n' (.slice aV b'.length cV) b' D' := HP.out
        have hnm : n' < maxLen := by have := HN.out; have := HL0.out; have := wire_len l; unfold maxLen; omega
        obtain ⟨w1, hrun, hown1, hgr1⟩ := HPd.2.2.update (key := .string T) (val := .int .i64 (b'.length : Int)) (d := .lit (.int .i64 (b'.length : Int))) (ps := []) keyedS Try.underlying55 hnm HK.out (plainElem_int Try.underlying3 (WalkArith.wf_i64 (by omega)))
        have HP1 := Lib.hid (HPd.stored hgr1 hne hmB hown1)
        have HF1 := Lib.hid (HF.out.drew.grown hgr1 HF.out.size (fun k hk => .inr (.inr (.inl (by injection hk with hk; exact hk.symm)))))
        have hs1 : wr.heap.size ≤ w1.heap.size := hgr1.size
        obtain ⟨x0, x1, y0, y1⟩ := HP1.out.cells
        have hYs : Y.size = M := by rw [← bs_length, hb1]; have := HMN.out; simp [bs_length, hxs, ← HNs.out]; omega
        obtain ⟨v4, W, hconv, hbel4, hsz4, hrow, -⟩ := bytes_row (P := Try.prog) w1.drew 9 22 5 Y Try.underlying9 Try.underlying22 Try.underlying5 (by rw [hYs, HMN.out, HNs.out]; omega)
        have HPd1 : PS w1.drew B g m (n' + 1) (.slice aV b'.length cV) b' (D'.put (.string T.data.toList) (.lit (.int .i64 (b'.length : Int)))) := HP1.out
        have HP2 := Lib.hid (HPd1.below hbel4)
        have HF2 := Lib.hid (HF1.out.drew.below hbel4 HF1.out.size)
        have hs2 : w1.heap.size ≤ W.heap.size := hbel4.size
        have HX := Lib.hid hrow
        have hxlen : b'.length + (bs Y).length ≤ 1000000 := by rw [bs_length, hYs, HMN.out, HNs.out]; omega
        have hwB : B ≤ W.heap.size := by omega
        have HB1 := Lib.hid hb1
        have HYS := Lib.hid hYs
        have HXL := Lib.hid hxlen
        clear hgr1 hown1 HPd hnm hat hwc HPd1 hbel4 hsz4 hrow hb1 hYs hxlen
        go_region
        clear hrun
        go_wp2_with fail
        obtain ⟨q0, q1, q2, q3⟩ := HP2.out.cells
        go_region_with (go_at_call 27; refine (with_any B _ _ b' _ _ HP2.out.2.1 HX.out HXL.out hwB).mono ?_; rintro e w2 ⟨v2, rfl, hown2, hg2, hv2⟩; obtain ⟨d0, d1, e0, e1⟩ := HP2.out.after hg2 hgB; obtain ⟨a2, c2, rfl⟩ := owns_slice hown2)
        all_goals
          have HP3 := Lib.hid (HP2.out.wrote hg2 hgB hmB hne hown2)
          have HF3 := Lib.hid ((HF2.out.grown hg2 (Nat.le_trans HF.out.size (Nat.le_trans hs1 hs2)) HV2.out).setCell (p := ⟨g, 0, none⟩) (.inl rfl) (.slice a2 (b' ++ bs Y).length c2))
          have HV3 : Hid ((Value.slice a2 (b' ++ bs Y).length c2).ownBlock = V.ownBlock ∨ ∀ r, (Value.slice a2 (b' ++ bs Y).length c2).ownBlock = some r → w.heap.size ≤ r) := by
            rcases hv2 with h | h
            · unfold Hid; rw [h]; exact HV.out
            · refine .inr fun r hr => ?_
              rw [h] at hr
              injection hr with hr
              have h1 : wr.heap.size ≤ r := by rw [← hr]; exact Nat.le_trans hs1 hs2
              exact Nat.le_trans HF.out.size h1
          have hl1 : (b' ++ bs Y).length = b'.length + (bs Y).length := List.length_append
          have hl2 : b' ++ bs Y = b' ++ ((s.size : Int) :: bs (lowS s)) := by rw [HB1.out, HNs.out]; rfl
          have HP4 : Hid (PS (w2.setCell ⟨g, 0, none⟩ (.slice a2 (b'.length + (bs Y).length) c2)) B g m (n' + 1) (.slice a2 (b'.length + (bs Y).length) c2) (b' ++ ((s.size : Int) :: bs (lowS s))) (D'.put (.string T.data.toList) (.lit (.int .i64 (b'.length : Int))))) := by
            have := HP3.out
            rw [hl2] at this
            rw [← hl2, hl1] at this
            rw [hl2] at this
            exact this
          rw [hl1] at HF3 HV3
          clear hl1 hl2 hown2 hg2 hv2 d0 d1 e0 e1 HP3 x0 x1 y0 y1 q0 q1 q2 q3
          go_wp2
          go_roundw
          case rel =>
            refine ⟨l2, t' ++ [((s :: l2).map lowS, b'.length)], b' ++ ((s.size : Int) :: bs (lowS s)), _, n' + 1, _, by rw [HT2.out], HEq, HP4, HM2, hss.2, ?_, ?_, ?_, HF3, HV3⟩
            · unfold Hid
              simp only [List.length_append, List.length_cons, bs_length, lowS_size]
              omega
            · intro x p hx
              rcases List.mem_append.1 hx with h | h
              · exact HT.out x p h
              · simp at h
                have := wire_pos l2
                omega
            · have := HN.out
              unfold Hid
              simp only [List.length_cons] at this
              omega
          case measure =>
            have h1 := HTS.out
            have h2 := HT2S.out
            show T2.size < T.size
            omega
end Go.Proofs.Ytjhmjimfehanbaa.Wire
