/- Contracts of probe: led, Right, check. -/
import Derived.Test.YtjikikiconhlaaaProS
import Derived.Test.YtjikikiconhlaaaKit11
namespace Go.Proofs.Ytjikikiconhlaaa.Pro
open Go.RowKit
set_option linter.unusedVariables false

theorem wrap_id {n : Int} (h0 : -9223372036854775808 ≤ n) (h1 : n ≤ 9223372036854775807) : IntKind.i64.wrap n = n := by
  rw [IntWalk.i64_left]; exact IntWalk.wrap64_in _ ⟨h0, h1⟩
theorem far_at (u : Value) (T : List Cel) (p : Nat) (x : Int) (w : World) (hr : CRow w u T) (hp : p < T.length) (hn : T.length ≤ 1000000) (hx : x = p) : Calls Try.prog 42 #[u, .int .i64 x] w fun e w' => e = .returned (.int .i64 (fr T p)) ∧ w = w' := by
  subst hx
  exact far_any u T p w hr hp hn
theorem bw_one {n p : Nat} (hp : p < n) : (p + n - 1) % n = pv n p := by
  unfold pv
  split
  · subst_vars
    rw [Nat.zero_add, Nat.mod_eq_of_lt (by omega)]
  · rw [show p + n - 1 = (p - 1) + n by omega, Nat.add_mod_right, Nat.mod_eq_of_lt (by omega)]
/-- Led, as the program tests it. -/
def ldC (T : List Cel) (p : Nat) : Bool := decide (fr T p = 0) || (!emC (gt T (pv T.length p)) && decide (fr T p - 1 ≤ fr T (pv T.length p)))

set_option maxRecDepth 100000 in
theorem led_any (u : Value) (T : List Cel) (p : Nat) (w : World) (hr : CRow w u T) (hp : p < T.length) (hn : T.length ≤ 1000000) :
    Calls Try.prog 44 #[u, .int .i64 (p : Int)] w fun e w' => e = .returned (.bool (ldC T p)) ∧ Below w.heap.size w w' := by
  have HR := Lib.hid hr
  have hq := pv_lt hp
  have HF := Lib.hid (fun x W hW hx => far_at u T p x W hW hp hn hx)
  have HG := Lib.hid (fun x W hW hx => far_at u T (pv T.length p) x W hW hq hn hx)
  have HQ := Lib.hid (bw_one hp)
  have hf1 := dI_nn T.length (gt T p).2 p
  have hf2 := dI_lt T.length (gt T p).2 p (by omega)
  rw [show dI T.length (gt T p).2 p = fr T p from rfl] at hf1 hf2
  have hw := Lib.hid (show IntKind.i64.wrap (fr T p - 1) = fr T p - 1 from wrap_id (by omega) (by omega))
  have hw2 : IntKind.i64.wrap (fr T p - 1) = fr T p - 1 := hw.out
  have E := Lib.hid (show ldC T p = (decide (fr T p = 0) || (!emC (gt T (pv T.length p)) && decide (fr T p - 1 ≤ fr T (pv T.length p)))) from rfl)
  obtain ⟨q, hqq⟩ : ∃ q, q = pv T.length p := ⟨_, rfl⟩
  rw [← hqq] at HG HQ E hq
  clear hqq hw
  obtain ⟨b, off, c, rfl, q1, q2, hblt, hc⟩ := hr.open (by omega)
  obtain ⟨c1, c2⟩ := hc q hq
  have hq1 : (q : Int) < (T.length : Int) := by omega
  have HE := Lib.hid (fun W => empty_any (gt T q).1 (gt T q).2 W)
  rw [show emC ((gt T q).1, (gt T q).2) = emC (gt T q) from rfl] at HE
  generalize (gt T q).2 = y at *
  generalize (gt T q).1 = x at *
  have HC1 := Lib.hid c1
  have HC2 := Lib.hid c2
  clear hc hr c1 c2
  generalize ldC T p = O at *
  generalize fr T p = F at *
  generalize fr T q = G at *
  have HBk := Lib.hid (fun W => backwards_any (some ⟨b, off, none⟩) T.length c (p : Int) W)
  have HBw := Lib.hid (fun b1 b2 W hB => bw_any (some ⟨b, off, none⟩) T.length c p 1 b1 b2 W hB (by omega) hn (by omega) (by omega))
  rw [HQ.out] at HBw
  clear HQ
  go_enter Try.func44, Try.ntmps44
  go_wp2_with fail
  refine (HBk.out _).mono ?_
  rintro e w1 ⟨b1, b2, rfl, hl1, hl2, hbox, hb1⟩
  unfold bwV
  have HR1 := Lib.hid (HR.out.mono hb1 (Nat.le_refl _))
  have HX := Lib.hid hbox
  have HB1 := Lib.hid hb1
  have c1 := (hb1.cell (p := ⟨b, off + q * 2, none⟩) hblt).trans HC1.out
  have c2 := (hb1.cell (p := ⟨b, off + q * 2 + 1, none⟩) hblt).trans HC2.out
  clear hb1 hbox HC1 HC2 HR HBk
  go_wp2_with fail
  refine (HBw.out _ _ _ HX.out).mono ?_
  rintro e w2 ⟨rfl, rfl⟩
  by_cases h1 : F = 0
  · subst h1
    go_wp2_with (go_at_call 42; refine (HF.out _ _ HR1.out rfl).mono ?_; rintro e w2 ⟨rfl, rfl⟩)
    go_ret
    exact ⟨ret_bool (by rw [E.out]; rfl), HB1.out⟩
  · have h2 : (F == 0) = false := by simp [h1]
    cases hb : emC (gt T q) with
    | true =>
      rw [hb] at HE E
      clear hb
      go_wp2_with fail
      refine (HF.out _ _ HR1.out rfl).mono ?_
      rintro e w2 ⟨rfl, rfl⟩
      go_wp2_with fail
      refine (HE.out _).mono ?_
      rintro e w2 ⟨rfl, hb2⟩
      go_wp2
      go_ret
      exact ⟨ret_bool (by rw [E.out]; simp [h1]), HB1.out.trans (hb2.mono HB1.out.size)⟩
    | false =>
      rw [hb] at HE E
      clear hb
      go_wp2_with fail
      refine (HF.out _ _ HR1.out rfl).mono ?_
      rintro e w2 ⟨rfl, rfl⟩
      go_wp2_with fail
      refine (HE.out _).mono ?_
      rintro e w2 ⟨rfl, hb2⟩
      have HR2 := Lib.hid (HR1.out.mono hb2 (Nat.le_refl _))
      go_wp2_with fail
      refine (HG.out _ _ HR2.out rfl).mono ?_
      rintro e w3 ⟨rfl, rfl⟩
      go_wp2_with fail
      refine (HF.out _ _ HR2.out rfl).mono ?_
      rintro e w3 ⟨rfl, rfl⟩
      go_wp2
      go_ret
      exact ⟨ret_bool (by rw [E.out]; simp [h1]), HB1.out.trans (hb2.mono HB1.out.size)⟩

theorem made_map (W : World) (n : Int) : (Instr.makeMap 68 (some (.int .i64 n))).run Try.prog W = .ok (.map (some W.heap.size)) (W.alloc (.map #[] 0)) := by
  have hu := run_underlying undMap W
  have hi : (asIntOf (.int .i64 n)).run Try.prog W = .ok (.i64, n) W := by simp [asIntOf]
  simp [Instr.makeMap, hu, asInt, hi, Result.andThen]
/-- The IDs of the cells ahead of k. -/
def ids (T : List Cel) (k : Nat) : List Int := ((T.take k).filter fun c => !emC c).map (·.1)
theorem ids_succ {T : List Cel} {k : Nat} (h : k < T.length) : ids T (k + 1) = ids T k ++ if emC (gt T k) then [] else [(gt T k).1] := by
  unfold ids
  rw [List.take_succ_eq_append_getElem h, List.filter_append, List.map_append]
  have : gt T k = T[k] := by simp [gt, List.getD, h]
  rw [this]
  congr 1
  cases e : emC T[k] <;> simp [e]
theorem ids_len (T : List Cel) (k : Nat) : (ids T k).length ≤ T.length := by
  unfold ids
  rw [List.length_map]
  exact Nat.le_trans (List.length_filter_le _ _) (by rw [List.length_take]; omega)
def naC (T : List Cel) (c : Cel) : Bool := decide (c.1 ≠ 0 ∧ 0 ≤ c.2 ∧ c.2 < T.length)
def okC (T : List Cel) (i : Nat) : Bool := emC (gt T i) || (naC T (gt T i) && !decide ((gt T i).1 ∈ ids T i) && ldC T i)
def RC (T : List Cel) : Bool := (List.range T.length).all (okC T) && decide (0 < T.length)
theorem rc_no {T : List Cel} {k : Nat} (h : k < T.length) (h1 : okC T k = false) : RC T = false := by
  unfold RC
  rw [Bool.and_eq_false_iff]
  left
  rw [List.all_eq_false]
  exact ⟨k, List.mem_range.2 h, by simp [h1]⟩
theorem rc_yes {T : List Cel} (h : ∀ j, j < T.length → okC T j = true) : RC T = decide (0 < T.length) := by
  unfold RC
  rw [show (List.range T.length).all (okC T) = true from List.all_eq_true.2 (fun j hj => h j (List.mem_range.1 hj)), Bool.true_and]
/-- IDs are numbers of 32 bits. -/
def WU (T : List Cel) : Prop := ∀ c ∈ T, wu c.1
theorem WU.at {T : List Cel} (h : WU T) {k : Nat} (hk : k < T.length) : wu (gt T k).1 := h _ (by simp [gt, List.getD, hk])

theorem cell_box {w V : World} {x : Int} {y : Int} (h : Below (w.alloc (.cells #[.int .u32 x, .int .i64 y] 48)).heap.size (w.alloc (.cells #[.int .u32 x, .int .i64 y] 48)) V) :
    V.cell? ⟨w.heap.size, 0, none⟩ = some (.int .u32 x) ∧ V.cell? ⟨w.heap.size, 1, none⟩ = some (.int .i64 y) := by
  have e0 : V.heap[w.heap.size]? = some (.cells #[.int .u32 x, .int .i64 y] 48 (0, 0)) := by
    rw [h.block _ (by rw [size_alloc]; omega)]
    exact heap_alloc_new _ _
  exact ⟨by rw [cell_block e0]; rfl, by rw [cell_block e0]; rfl⟩

set_option maxRecDepth 100000 in
set_option maxHeartbeats 1000000 in
theorem right_any (u : Value) (T : List Cel) (w : World) (hr : CRow w u T) (hn : T.length ≤ 1000) (hu : WU T) :
    Calls Try.prog 16 #[u] w fun e w' => e = .returned (.bool (RC T)) ∧ Below w.heap.size w w' := by
  by_cases h0 : 0 < T.length
  · have HR := Lib.hid hr
    obtain ⟨b, off, c, rfl, q1, q2, hblt, hc⟩ := hr.open h0
    have HC := Lib.hid hc
    have HL := Lib.hid (fun k hk W hW => led_any (.slice (some ⟨b, off, none⟩) T.length c) T k W hW hk (by omega))
    have HN := Lib.hid (fun x y W hW => named_any (.slice (some ⟨b, off, none⟩) T.length c) T x y W hW)
    have HM0 : Hid (SetU (w.alloc (.map #[] 0)) w.heap.size (ids T 0)) := SetU.made w
    have HB0 := Lib.hid (below_made w (.map #[] 0))
    have HU := Lib.hid (fun k (hk : k < T.length) => hu.at hk)
    have HRy := Lib.hid (@rc_yes T)
    have HRn := Lib.hid (fun k => @rc_no T k)
    rw [show decide (0 < T.length) = true from decide_eq_true h0] at HRy
    have h01 : (0 : Int) < (T.length : Int) := by omega
    clear hc hr hu
    go_enter Try.func16, Try.ntmps16
    have hmm := made_map
    go_wp2
    clear hmm
    go_loopw [11] (fun i wr => ∃ k : Nat, k ≤ T.length ∧ i = .int .i64 k ∧ Hid (SetU wr w.heap.size (ids T k)) ∧ Hid (Below w.heap.size w wr) ∧ Hid (∀ j, j < k → okC T j = true)) (fun i _ => T.length - (intOf i).toNat)
    case atStart => exact ⟨0, Nat.zero_le _, rfl, HM0, HB0, fun j hj => by omega⟩
    case round =>
      obtain ⟨k, hk, rfl, HS, HB, HK⟩ := hrel
      clear HM0 HB0
      by_cases hlt : k < T.length
      · have hlt1 : (k : Int) < (T.length : Int) := by omega
        obtain ⟨d1, d2⟩ := HC.out k hlt
        have c1 := (HB.out.cell (p := ⟨b, off + k * 2, none⟩) hblt).trans d1
        have c2 := (HB.out.cell (p := ⟨b, off + k * 2 + 1, none⟩) hblt).trans d2
        have HE := Lib.hid (fun W => empty_any (gt T k).1 (gt T k).2 W)
        rw [show emC ((gt T k).1, (gt T k).2) = emC (gt T k) from rfl] at HE
        have HNk := Lib.hid (fun W hW => HN.out (gt T k).1 (gt T k).2 W hW)
        rw [show decide ((gt T k).1 ≠ 0 ∧ 0 ≤ (gt T k).2 ∧ (gt T k).2 < T.length) = naC T (gt T k) from rfl] at HNk
        have HLk := Lib.hid (fun W hW => HL.out k hlt W hW)
        have EO := Lib.hid (show okC T k = (emC (gt T k) || (naC T (gt T k) && !decide ((gt T k).1 ∈ ids T k) && ldC T k)) from rfl)
        have EI := Lib.hid (ids_succ hlt)
        have HUk := Lib.hid (HU.out k hlt)
        have HRk := Lib.hid (HRn.out k hlt)
        have hil := ids_len T k
        generalize emC (gt T k) = eb at *
        generalize naC T (gt T k) = nb at *
        generalize (gt T k).2 = y at *
        generalize (gt T k).1 = x at *
        generalize ldC T k = lb at *
        have hsz := HB.out.size
        have HBx := Lib.hid (fun V hV => @cell_box wr V x y hV)
        have HBa := Lib.hid (HB.out.alloc hsz (.cells #[.int .u32 x, .int .i64 y] 48))
        have HSa := Lib.hid (HS.out.below (below_made wr (.cells #[.int .u32 x, .int .i64 y] 48)))
        have hsz1 := size_alloc wr (.cells #[.int .u32 x, .int .i64 y] 48)
        clear d1 d2
        go_wp2_with fail
        obtain ⟨wa, hwa⟩ : ∃ wa, wa = wr.alloc (.cells #[.int .u32 x, .int .i64 y] 48) := ⟨_, rfl⟩
        rw [← hwa] at HBx HBa HSa hsz1
        rw [← hwa]
        clear hwa c1 c2
        refine (HE.out _).mono ?_
        rintro e w1 ⟨rfl, hb1⟩
        have HB1 := Lib.hid hb1
        have HB1w := Lib.hid (HBa.out.trans (hb1.mono (by omega)))
        have HS1 := Lib.hid (HSa.out.below hb1)
        have hsz2 := hb1.size
        obtain ⟨c1, c2⟩ := HBx.out _ hb1
        clear hb1
        cases eb with
        | true =>
          have e3 : okC T k = true := by rw [EO.out]; rfl
          have e4 : ids T (k + 1) = ids T k := by rw [EI.out]; simp
          have HS2 : Hid (SetU w1 w.heap.size (ids T (k + 1))) := by rw [e4]; exact HS1.out
          have HK2 : Hid (∀ j, j < k + 1 → okC T j = true) := fun j hj => by
            by_cases e : j = k
            · subst e; exact e3
            · exact HK.out j (by omega)
          clear e3 e4
          go_wp2
          go_roundw
          case rel => exact ⟨k + 1, by omega, by go_num, HS2, HB1w, HK2⟩
          case measure => simp [intOf]; omega
        | false =>
          have HRa := Lib.hid (HR.out.mono HB1w.out (Nat.le_refl _))
          go_wp2_with fail
          refine (HNk.out _ HRa.out).mono ?_
          rintro e w2 ⟨rfl, rfl⟩
          cases nb with
          | false =>
            have HRf := Lib.hid (HRk.out (by rw [EO.out]; rfl))
            go_wp2
            go_ret
            exact ⟨ret_bool (by rw [HRf.out]), HB1w.out⟩
          | true =>
            have hlook := HS1.out.look HUk.out
            by_cases hm : x ∈ ids T k
            · have HRf := Lib.hid (HRk.out (by rw [EO.out]; simp [hm]))
              rw [decide_eq_true hm] at hlook
              clear hm
              go_wp2
              go_ret
              exact ⟨ret_bool (by rw [HRf.out]), HB1w.out⟩
            · rw [decide_eq_false hm] at hlook
              have HM := Lib.hid hm
              clear hm
              go_wp2_with fail
              refine (HLk.out _ HRa.out).mono ?_
              rintro e w2 ⟨rfl, hb2⟩
              clear hlook
              cases lb with
              | false =>
                have HRf := Lib.hid (HRk.out (by rw [EO.out]; simp))
                go_wp2
                go_ret
                exact ⟨ret_bool (by rw [HRf.out]), HB1w.out.trans (hb2.mono HB1w.out.size)⟩
              | true =>
                have e3 : okC T k = true := by rw [EO.out]; simp [HM.out]
                have e4 : ids T (k + 1) = ids T k ++ [x] := by rw [EI.out]; simp
                obtain ⟨w3, hput, hS3, hg3⟩ := (HS1.out.below hb2).put HUk.out HM.out (by omega)
                rw [← e4] at hS3
                have HS2 := Lib.hid hS3
                have HK2 : Hid (∀ j, j < k + 1 → okC T j = true) := fun j hj => by
                  by_cases e : j = k
                  · subst e; exact e3
                  · exact HK.out j (by omega)
                have HBz := Lib.hid ((HB1w.out.trans (hb2.mono HB1w.out.size)).grown hg3 (Nat.le_trans HB1w.out.size hb2.size) (fun r hr => by injection hr with hr; omega))
                have hd := HBx.out _ (HB1.out.trans (hb2.mono hsz2))
                obtain ⟨d1, d2⟩ := hd
                clear e3 e4 hS3 hg3 hb2 c1 c2
                go_wp2
                go_roundw
                case rel => exact ⟨k + 1, by omega, by go_num, HS2, HBz, HK2⟩
                case measure => simp [intOf]; omega
      · obtain rfl : k = T.length := by omega
        have HRf := Lib.hid (HRy.out HK.out)
        go_wp2
        go_ret
        exact ⟨ret_bool (by rw [HRf.out]), HB.out⟩
  · obtain rfl : T = [] := List.length_eq_zero_iff.1 (by omega)
    obtain ⟨a, c, rfl, -, -⟩ := hr.slice
    have HB0 := Lib.hid (below_made w (.map #[] 0))
    clear hr
    go_enter Try.func16, Try.ntmps16
    have hmm := made_map
    go_wp2
    clear hmm
    go_loopw [11] (fun i wr => i = .int .i64 0 ∧ Hid (Below w.heap.size w wr)) (fun i _ => 0)
    case atStart => exact ⟨rfl, HB0⟩
    case round =>
      obtain ⟨rfl, HB⟩ := hrel
      go_wp2
      go_ret
      exact ⟨ret_bool rfl, HB.out⟩
/-- What is wrong with an ID and its home, and with a table. -/
def ckC (T : List Cel) (c : Cel) : Int := if naC T c = false then 2 else if RC T = false then 4 else 0
theorem check_any (u : Value) (T : List Cel) (x y : Int) (w : World) (hr : CRow w u T) (hn : T.length ≤ 1000) (hu : WU T) :
    Calls Try.prog 25 #[u, .int .u32 x, .int .i64 y] w fun e w' => e = .returned (.int .i64 (ckC T (x, y))) ∧ Below w.heap.size w w' := by
  have HN := Lib.hid (named_any u T x y w hr)
  rw [show decide (x ≠ 0 ∧ 0 ≤ y ∧ y < T.length) = naC T (x, y) from rfl] at HN
  have HT := Lib.hid (right_any u T w hr hn hu)
  have E := Lib.hid (show ckC T (x, y) = if naC T (x, y) = false then 2 else if RC T = false then 4 else 0 from rfl)
  generalize ckC T (x, y) = O at *
  generalize naC T (x, y) = nb at *
  generalize RC T = rb at *
  clear hr hu
  cases nb with
  | false =>
    go_enter Try.func25, Try.ntmps25
    go_wp2_with fail
    refine HN.out.mono ?_
    rintro e w1 ⟨rfl, rfl⟩
    go_wp2
    go_ret
    exact ⟨ret_int (by rw [E.out]; rfl), Below.refl _ _⟩
  | true =>
    cases rb with
    | false =>
      go_enter Try.func25, Try.ntmps25
      go_wp2_with fail
      refine HN.out.mono ?_
      rintro e w1 ⟨rfl, rfl⟩
      go_wp2_with fail
      refine HT.out.mono ?_
      rintro e w1 ⟨rfl, hb1⟩
      go_wp2
      go_ret
      exact ⟨ret_int (by rw [E.out]; rfl), hb1⟩
    | true =>
      go_enter Try.func25, Try.ntmps25
      go_wp2_with fail
      refine HN.out.mono ?_
      rintro e w1 ⟨rfl, rfl⟩
      go_wp2_with fail
      refine HT.out.mono ?_
      rintro e w1 ⟨rfl, hb1⟩
      go_wp2
      go_ret
      exact ⟨ret_int (by rw [E.out]; rfl), hb1⟩
end Go.Proofs.Ytjikikiconhlaaa.Pro
