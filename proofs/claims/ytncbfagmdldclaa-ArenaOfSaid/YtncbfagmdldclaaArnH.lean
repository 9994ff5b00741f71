/- The example of the page. -/
import Derived.Test.YtncbfagmdldclaaArnL
import Derived.Test.YtncbfagmdldclaaKit5
namespace Go.Proofs.Ytncbfagmdldclaa.Arn
open Go.RowKit Num
set_option linter.unusedVariables false

def ex1 : List Int := [0, 0, 0, 0, 2, 1, 0, 0, 0, 0, 0, 0, 0, 0, 0, 0]
theorem exPut : putA (List.replicate 16 0) 4 4 258 = (ex1, 0) := by decide +kernel
theorem exGet : ldv ex1 4 2 = (258, 0) := by decide +kernel
theorem exFit : fitB ex1.length 4 1 = true := by decide +kernel
theorem exPart : (ex1.drop 4).take 1 = [2] := by decide +kernel
theorem exHas : hasA ex1 [2, 1, 0] = true := by decide +kernel
theorem exHasNot : hasA ex1 [3] = false := by decide +kernel
theorem exStr : (strOfNums [2]).toList = [2] := by rw [ByteArray.toList_eq]; kernel_rfl
theorem made_const (w : World) (l : List Int) (c : Array Value) (f : Nat × Nat) (n : Nat) (hc : c = (l.map (Value.int .u8)).toArray) (hn : l.length = n) (hb : ∀ i, 0 ≤ l.getD i 0 ∧ l.getD i 0 < 256) (h : l.length ≤ 1000) : Row .u8 (w.alloc (.cells c 5 f)) (.slice (some ⟨w.heap.size, 0, none⟩) n n) l := by
  subst hn
  exact Row.made_mark w l 5 c f hc (fun i _ => by have := hb i; exact WalkArith.wf_u8 (by omega)) (by omega)

set_option maxRecDepth 100000 in
set_option maxHeartbeats 4000000 in
theorem holds_any {H : Type} {blk : H → Nat → Prop} {Ar : H → World → Value → List Int → Prop} {Tb : World → Prop} (D : Does blk Ar Tb) (w : World) (htb : Tb w) :
    Calls Try.prog 8 #[] w fun e w' => e = .returned (.bool true) ∧ Below w.heap.size w w' := by
  have HD := Lib.hid D
  have HTb := Lib.hid htb
  clear htb
  have HN : Hid (Calls Try.prog 9 #[.int .i64 16] w fun e w' => ∃ v h, e = .returned v ∧ Ar h w' v (List.replicate 16 0) ∧ Below w.heap.size w w' ∧ ∀ k, blk h k → w.heap.size ≤ k) := D.new_yes 16 w (by decide)
  go_enter Try.func8, Try.ntmps8
  go_wp2_with fail
  refine HN.out.mono ?_
  rintro e w1 ⟨v, h, rfl, ha, hb1, hk1⟩
  obtain ⟨g, rfl⟩ := HD.out.ptr _ _ _ _ ha
  have HP := Lib.hid (HD.out.put h _ _ 4 4 258 w1 ha (by decide) (by decide))
  rw [exPut] at HP
  clear ha
  go_wp2_with fail
  refine HP.out.mono ?_
  rintro e w2 ⟨rfl, h2, ha2, hk2, hf2⟩
  have hb2 : Below w.heap.size w w2 := hb1.trans (hf2.toBelow hb1.size (fun k hk hh => by have := hk1 k hh; omega))
  have hk2' : ∀ k, blk h2 k → w.heap.size ≤ k := fun k hh => by
    rcases hk2 k hh with h' | h'
    · exact hk1 k h'
    · have := hb1.size; omega
  have HG := Lib.hid (HD.out.get h2 _ _ 4 2 w2 ha2)
  rw [exGet] at HG
  have HA2 := Lib.hid ha2
  clear ha2 hk2 hf2 hb1 hk1 HP HN
  go_wp2_with fail
  refine HG.out.mono ?_
  rintro e w3 ⟨rfl, hb3⟩
  have st : ∀ {u u' : World}, Below u.heap.size u u' → Ar h2 u (.pointer (some ⟨g, 0, none⟩)) ex1 → Ar h2 u' (.pointer (some ⟨g, 0, none⟩)) ex1 := fun hb ha =>
    HD.out.stay _ _ _ _ _ _ (fun _ => False) ha (Fr.of_below hb) (fun k hk => ⟨HD.out.lt _ _ _ _ ha k hk, fun h => h⟩)
  have HA3 := Lib.hid (st hb3 HA2.out)
  have hB3 := hb2.trans (hb3.mono hb2.size)
  have HV := Lib.hid (HD.out.view h2 _ _ 4 1 w3 HA3.out (by unfold is64; omega))
  rw [exFit] at HV
  clear HG HA2 hb3
  go_wp2_with fail
  refine HV.out.mono ?_
  rintro e w4 ⟨hb4, hv4⟩
  obtain ⟨x, rfl, hrow4, -⟩ : ∃ x, e = .returned (.tuple #[.slice x (1 : Int).toNat (1 : Int).toNat, .int .i64 0]) ∧ ViewAt blk Ar w4 (.pointer (some ⟨g, 0, none⟩)) h2 ex1 (4 : Int).toNat (1 : Int).toNat x := by
    rcases hv4 with ⟨-, h⟩ | ⟨h, -⟩
    · exact h
    · cases h
  have hr4 : Row .u8 w4 (.slice x 1 1) [2] := by rw [← exPart]; exact hrow4
  have HA4 := Lib.hid (st hb4 HA3.out)
  have hB4 := hB3.trans (hb4.mono hB3.size)
  have hconv : (convert 32 9 (.slice x 1 1)).run Try.prog w4 = .ok (.string (strOfNums [2])) w4 := Row.string (P := Try.prog) hr4 32 9 5 Try.underlying32 Try.underlying5 Try.underlying9
  have hstr := exStr
  have HL := Lib.hid (HD.out.len h2 _ _ w4 HA4.out)
  clear hv4 hrow4 hr4 HV HA3 hb4
  go_wp2_with fail
  refine HL.out.mono ?_
  rintro e w5 ⟨rfl, hb5⟩
  have HA5 := Lib.hid (st hb5 HA4.out)
  have hB5 := hB4.trans (hb5.mono hB4.size)
  have kc := Lib.run_convert_bytes_const (P := Try.prog) w5 32 5 #[.int .u8 2, .int .u8 1, .int .u8 0] 3 3 Try.underlying32 Try.underlying5
  have hb5' := below_made w5 (.cells #[.int .u8 2, .int .u8 1, .int .u8 0] 5 (3, 4))
  have hr5 := made_const w5 [2, 1, 0] #[.int .u8 2, .int .u8 1, .int .u8 0] (3, 4) 3 rfl rfl (fun i => by rcases i with _ | _ | _ | i <;> simp) (by decide)
  have HH := Lib.hid (HD.out.has h2 _ _ _ _ _ (st hb5' HA5.out) hr5 (by decide) (HD.out.keep (hB5.trans (hb5'.mono hB5.size)) HTb.out))
  rw [exHas] at HH
  have hex : (ex1.length : Int) = 16 := rfl
  clear HL HA4 hb5 hr5
  go_wp2_with fail
  refine HH.out.mono ?_
  rintro e w6 ⟨rfl, hb6⟩
  have HA6 := Lib.hid (st hb6 (st hb5' HA5.out))
  have hB6 := hB5.trans ((hb5'.trans (hb6.mono hb5'.size)).mono hB5.size)
  have kc2 := Lib.run_convert_bytes_const (P := Try.prog) w6 32 5 #[.int .u8 3] 1 1 Try.underlying32 Try.underlying5
  have hb6' := below_made w6 (.cells #[.int .u8 3] 5 (1, 2))
  have hr6 := made_const w6 [3] #[.int .u8 3] (1, 2) 1 rfl rfl (fun i => by rcases i with _ | i <;> simp) (by decide)
  have HH2 := Lib.hid (HD.out.has h2 _ _ _ _ _ (st hb6' HA6.out) hr6 (by decide) (HD.out.keep (hB6.trans (hb6'.mono hB6.size)) HTb.out))
  rw [exHasNot] at HH2
  clear HH HA5 hb6 hr6 kc hb5'
  go_wp2_with fail
  refine HH2.out.mono ?_
  rintro e w7 ⟨rfl, hb7⟩
  have hB7 := hB6.trans ((hb6'.trans (hb7.mono hb6'.size)).mono hB6.size)
  go_wp2
  go_ret
  exact ⟨rfl, hB7⟩
end Go.Proofs.Ytncbfagmdldclaa.Arn
