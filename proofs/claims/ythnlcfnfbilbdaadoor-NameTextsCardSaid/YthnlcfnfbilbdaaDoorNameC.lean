/- Contracts of name's Parse and the document's. -/
import Derived.Test.YthnlcfnfbilbdaaDoorNameB
namespace Go.Proofs.YthnlcfnfbilbdaaDoor.Name
open Go.RowKit Fold
set_option linter.unusedVariables false

/-- The library's own word of a world. -/
def Shp (w : World) : Prop := ∃ m, w.cell? ⟨0, 0, none⟩ = some (.int .i64 m)
theorem Shp.mono {w w' : World} (h : Shp w) {B : Nat} (hb : Below B w w') (hB : w.heap.size ≤ B) : Shp w' := by
  obtain ⟨m, hm⟩ := h
  have := World.block_lt_of_cell? w _ hm
  exact ⟨m, (hb.cell (p := ⟨0, 0, none⟩) (Nat.lt_of_lt_of_le this hB)).trans hm⟩

/-- What a text is parsed as. -/
def plb (s : ByteArray) : List ByteArray := if s = dotB then [] else if chk (prs s) = 0 then prs s else []
def pch (s : ByteArray) : Int := if s = dotB then 0 else chk (prs s)
def Parsed (w : World) (s : ByteArray) (e : Ending) (w' : World) : Prop :=
  ∃ u, e = .returned (.tuple #[u, .int .i64 (pch s)]) ∧ Below w.heap.size w w' ∧ SRow w' u (plb s)

theorem prs_get_size (s : ByteArray) (i : Nat) (h : i < (prs s).length) : ((prs s).getD i ByteArray.empty).size < s.size + 2 := by
  have := wire_get (prs s) i h
  have := wire_prs s
  omega
theorem str_dot (s : ByteArray) : (s.toList == [46]) = decide (s = dotB) := by
  rw [← show (⟨#[46]⟩ : ByteArray).toList = [46] by rw [ByteArray.toList_eq], str_beq, Bool.eq_iff_iff, beq_iff_eq, decide_eq_true_eq]
  exact ⟨fun h => bs_inj h, fun h => by rw [h]; rfl⟩

theorem parse_any (s : ByteArray) (w : World) (hs : s.size ≤ 100000) (hm : Shp w) :
    Calls Tryd.prog 8 #[.string s] w (Parsed w s) := by
  by_cases hd : s = dotB
  · have h1 : (s.toList == [46]) = true := by rw [str_dot]; simpa using hd
    have HP : Hid (pch s = 0 ∧ plb s = []) := ⟨by rw [pch, if_pos hd], by rw [plb, if_pos hd]⟩
    clear hd
    go_enter Tryd.func8, Tryd.ntmps8
    go_wp2
    go_ret2
    exact ⟨_, ret_pair rfl (by rw [HP.out.1]; rfl), Below.refl _ _, by rw [HP.out.2]; exact SRow.nil _⟩
  · have h1 : (s.toList == [46]) = false := by rw [str_dot]; simpa using hd
    have HL := Lib.hid (lower_any s w (by omega))
    have HT := Lib.hid (fun (u : World) => Tryd.strings_TrimSuffix (lowS s) ⟨#[46]⟩ u (by rw [lowS_size]; omega))
    have hts : (⟨(Lib.trimSuffix (lowS s).data.toList [46]).toArray⟩ : ByteArray).size < 4294967281 := by
      rw [← bs_length, bs_trimB]
      have := trim_length (bs (lowS s))
      rw [bs_length, lowS_size] at this
      omega
    have HS := Lib.hid (fun (u : World) (m : Int) hm => Tryd.strings_Split ⟨(Lib.trimSuffix (lowS s).data.toList [46]).toArray⟩ ⟨#[46]⟩ m u hts hm (by decide))
    have hlen : Lib.countB ⟨(Lib.trimSuffix (lowS s).data.toList [46]).toArray⟩ ⟨#[46]⟩ + 1 = (prs s).length := by
      rw [← prs_lib s]
      exact (Lib.splitB_all dotB (by decide) 0 _ _ rfl).symm
    have hsp : Lib.splitB ⟨#[46]⟩ 0 (Lib.countB ⟨(Lib.trimSuffix (lowS s).data.toList [46]).toArray⟩ ⟨#[46]⟩) ⟨(Lib.trimSuffix (lowS s).data.toList [46]).toArray⟩ = prs s := prs_lib s
    rw [hlen, hsp] at HS
    have hwi := wire_prs s
    have hll := wire_len (prs s)
    have HM := Lib.hid (fun (u : World) => SRow.made u (prs s) 9 _ rfl (fun i hi => by have := prs_get_size s i hi; omega) (by omega))
    have HC := Lib.hid (fun (u : World) v hu => check_any v (prs s) u hu (by omega))
    have hp1 : pch s = chk (prs s) := by rw [pch, if_neg hd]
    have hp2 : plb s = if chk (prs s) = 0 then prs s else [] := by rw [plb, if_neg hd]
    unfold Parsed
    rw [hp1, hp2]
    have HX := Lib.hid hm
    clear hp1 hp2 hd hts hlen hsp hwi hll hm
    obtain ⟨T, hT⟩ : ∃ T, T = Lib.trimSuffix (lowS s).data.toList [46] := ⟨_, rfl⟩
    rw [← hT] at HS
    have HT2 : Hid (∀ u : World, Calls Tryd.prog 22 #[.string (lowS s), .string ⟨#[46]⟩] u fun e w' => e = .returned (.string ⟨T.toArray⟩) ∧ w' = u) := by
      intro u
      rw [hT]
      exact HT.out u
    clear hT HT
    obtain ⟨L, hL⟩ : ∃ L, L = prs s := ⟨_, rfl⟩
    rw [← hL] at HS HM HC ⊢
    obtain ⟨S, hS⟩ : ∃ S, S = lowS s := ⟨_, rfl⟩
    rw [← hS] at HT2 HL
    clear hL hS
    by_cases hc : chk L = 0
    · rw [hc] at HC ⊢
      rw [if_pos rfl]
      clear hc
      go_enter Tryd.func8, Tryd.ntmps8
      go_wp2_with fail
      refine HL.out.mono ?_
      rintro e w1 ⟨rfl, hb1⟩
      have HX1 := Lib.hid (HX.out.mono hb1 (Nat.le_refl _))
      go_wp2_with fail
      refine (HT2.out _).mono ?_
      rintro e w2 ⟨rfl, rfl⟩
      obtain ⟨m, hm⟩ := HX1.out
      have HS1 := Lib.hid (HS.out _ m hm)
      clear hm HX1
      go_wp2_with fail
      refine HS1.out.mono ?_
      rintro e w3 ⟨rfl, rfl⟩
      have HR := Lib.hid (HM.out w2)
      have hb2 := hb1.trans ((below_made w2 (.cells (L.map Value.string).toArray 9)).mono hb1.size)
      obtain ⟨W, hW⟩ : ∃ W, W = w2.alloc (.cells (L.map Value.string).toArray 9) := ⟨_, rfl⟩
      rw [← hW] at HR hb2 ⊢
      obtain ⟨g, hg⟩ : ∃ g, g = w2.heap.size := ⟨_, rfl⟩
      rw [← hg] at HR ⊢
      clear hW hg hb1
      have HC1 := Lib.hid (HC.out _ _ HR.out)
      go_wp2_with fail
      refine HC1.out.mono ?_
      rintro e w4 ⟨rfl, hb3⟩
      have HR2 := Lib.hid (HR.out.mono hb3 (Nat.le_refl _))
      go_wp2
      go_ret2
      exact ⟨_, rfl, hb2.trans (hb3.mono hb2.size), HR2.out⟩
    · rw [if_neg hc]
      have hn2 : (chk L != 0) = true := by simpa using hc
      obtain ⟨c, hm⟩ : ∃ c, c = chk L := ⟨_, rfl⟩
      rw [← hm] at HC hn2 ⊢
      clear hc hm
      go_enter Tryd.func8, Tryd.ntmps8
      go_wp2_with fail
      refine HL.out.mono ?_
      rintro e w1 ⟨rfl, hb1⟩
      have HX1 := Lib.hid (HX.out.mono hb1 (Nat.le_refl _))
      go_wp2_with fail
      refine (HT2.out _).mono ?_
      rintro e w2 ⟨rfl, rfl⟩
      obtain ⟨m, hm⟩ := HX1.out
      have HS1 := Lib.hid (HS.out _ m hm)
      clear hm HX1
      go_wp2_with fail
      refine HS1.out.mono ?_
      rintro e w3 ⟨rfl, rfl⟩
      have HR := Lib.hid (HM.out w2)
      have hb2 := hb1.trans ((below_made w2 (.cells (L.map Value.string).toArray 9)).mono hb1.size)
      obtain ⟨W, hW⟩ : ∃ W, W = w2.alloc (.cells (L.map Value.string).toArray 9) := ⟨_, rfl⟩
      rw [← hW] at HR hb2 ⊢
      obtain ⟨g, hg⟩ : ∃ g, g = w2.heap.size := ⟨_, rfl⟩
      rw [← hg] at HR ⊢
      clear hW hg hb1
      have HC1 := Lib.hid (HC.out _ _ HR.out)
      go_wp2_with fail
      refine HC1.out.mono ?_
      rintro e w4 ⟨rfl, hb3⟩
      go_wp2
      go_ret2
      exact ⟨_, rfl, hb2.trans (hb3.mono hb2.size), SRow.nil _⟩
end Go.Proofs.YthnlcfnfbilbdaaDoor.Name
