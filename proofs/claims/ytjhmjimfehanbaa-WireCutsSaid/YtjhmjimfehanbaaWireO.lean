/- The walk of the statement WireBack, whole. -/
import Derived.Test.YtjhmjimfehanbaaWireK
namespace Go.Proofs.Ytjhmjimfehanbaa.Wire
open Go.RowKit Fold Name
set_option linter.unusedVariables false

set_option maxRecDepth 100000 in
theorem wireBack_walk (D : Does) (v : Value) (L : List (List ByteArray)) (w : World) (hr : NRow w v L) :
    Calls Try.prog 5 #[v] w fun e w' => e = .returned (.bool true) ∧ Below w.heap.size w w' := by
  have HD := Lib.hid D
  have HF := Lib.hid (fewN_any v L w hr)
  have HN := Lib.hid hr
  by_cases hf : few5 L = true
  · by_cases hz : (packW L).2.2 = 0
    · obtain ⟨ad, cap, U, rfl, -, -, -, -⟩ := id hr
      exact wireBack_in D ad cap L w hr hf hz
    · obtain ⟨z1, z2⟩ := packW_fail hz
      have HK := Lib.hid (D.pack v L w hr hf)
      unfold PGot at HK
      rw [z1, z2] at HK
      rw [hf] at HF
      have hc : ((packW L).2.2 != 0) = true := by simpa using hz
      obtain ⟨c, hcc⟩ : ∃ c, c = (packW L).2.2 := ⟨_, rfl⟩
      rw [← hcc] at HK hc
      clear hf hz z1 z2 hcc hr
      go_enter Try.func5, Try.ntmps5
      go_wp2_with fail
      refine HF.out.mono ?_
      rintro e w0 ⟨rfl, rfl⟩
      go_wp2_with fail
      refine HK.out.mono ?_
      rintro e w1 ⟨u1, p1, rfl, hb1, hr1, -⟩
      obtain ⟨adb, capb, rfl, -, -, -, -⟩ := hr1
      simp only []
      go_wp2_with fail
      refine (wires_any HD.out _).mono ?_
      rintro e w4 ⟨rfl, hb4⟩
      go_wp2
      go_ret
      exact ⟨rfl, hb1.trans (hb4.mono hb1.size)⟩
  · have hf2 : few5 L = false := by simpa using hf
    rw [hf2] at HF
    clear hf hf2 hr
    go_enter Try.func5, Try.ntmps5
    go_wp2_with fail
    refine HF.out.mono ?_
    rintro e w0 ⟨rfl, rfl⟩
    go_wp2_with fail
    refine (wires_any HD.out _).mono ?_
    rintro e w4 ⟨rfl, hb4⟩
    go_wp2
    go_ret
    exact ⟨rfl, hb4⟩

end Go.Proofs.Ytjhmjimfehanbaa.Wire
