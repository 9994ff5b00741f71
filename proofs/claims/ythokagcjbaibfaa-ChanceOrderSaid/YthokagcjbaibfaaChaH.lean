/- The contract of the document's Order. -/
import Derived.Test.YthokagcjbaibfaaChaF
namespace Go.Proofs.Ythokagcjbaibfaa.Cha
open Go.RowKit
set_option linter.unusedVariables false

set_option maxRecDepth 100000 in
theorem refOrder_bad (u v : Value) (U V : List Bool) (x : Int) (w : World) (hu : BRow w u U) (hv : BRow w v V) (hb : ¬ ckU U.length V.length x = 0) :
    Calls Try.prog 15 #[u, v, .int .i64 x] w fun e w' => e = .returned (.tuple #[.slice none 0 0, .int .i64 (ckU U.length V.length x)]) ∧ w = w' := by
  have HC := Lib.hid (may_any u v U V x w hu hv)
  obtain ⟨a, c, rfl, -, -, -⟩ := hu
  obtain ⟨a2, c2, rfl, -, -, -⟩ := hv
  obtain ⟨n, hn⟩ : ∃ n, n = U.length := ⟨_, rfl⟩
  obtain ⟨m, hm⟩ : ∃ m, m = V.length := ⟨_, rfl⟩
  rw [← hn, ← hm] at HC hb ⊢
  obtain ⟨z, hz⟩ : ∃ z, z = ckU n m x := ⟨_, rfl⟩
  rw [← hz] at HC hb ⊢
  have hz2 : (z != 0) = true := by simp [hb]
  have hz3 : (z == 0) = false := by simp [hb]
  clear hn hm hz hb
  go_enter Try.func15, Try.ntmps15
  go_wp2_with (go_at_call 21; refine HC.out.mono ?_; rintro e w' ⟨rfl, rfl⟩)
  go_ret2
  exact ⟨rfl, rfl⟩

theorem grow_set (W : World) (b j : Nat) (v : Value) : W.grownBy (W.setCell ⟨b, j, none⟩ v) (some b) :=
  ⟨rfl, rfl, rfl, by rw [show (W.setCell ⟨b, j, none⟩ v).heap.size = W.heap.size from by simp [World.setCell]]; exact Nat.le_refl _, fun k _ hk => Below.heap_setCell _ _ _ k (fun e => hk (by rw [e]))⟩
theorem own_ne {o : Value} {g : Nat} (h : ∀ r, o.ownBlock = some r → r ≠ g) : o.ownBlock = none ∨ o.ownBlock ≠ some g := by
  cases e : o.ownBlock with
  | none => exact .inl rfl
  | some r => exact .inr (by intro h2; injection h2 with h2; exact h r e h2)

/-- The document's play: what is used, what is gone, who went, behind p visits. -/
structure Pl (w W : World) (g g2 n : Nat) (o : Value) (u : Nat → Bool) (b : Nat → Bool) (L : List Nat) : Prop where
  used : CA W g n (fun i => .bool (u i))
  gone : CA W g2 n (fun i => .bool (b i))
  out : W.ownsRow w.heap.size 3 1 o L.length (vals64 (ints L))
  apart : ∀ r, o.ownBlock = some r → r ≠ g ∧ r ≠ g2
  below : Below w.heap.size w W
  ne : g ≠ g2
  up : w.heap.size ≤ g
  up2 : w.heap.size ≤ g2
theorem Pl.ext {w W : World} {g g2 n : Nat} {o : Value} {u u' b b' : Nat → Bool} {L L' : List Nat} (d : Pl w W g g2 n o u b L) (h1 : ∀ i, i < n → u' i = u i) (h2 : ∀ i, i < n → b' i = b i) (h3 : L' = L) : Pl w W g g2 n o u' b' L' := by
  subst h3
  exact ⟨d.used.ext (fun i hi => by rw [h1 i hi]), d.gone.ext (fun i hi => by rw [h2 i hi]), d.out, d.apart, d.below, d.ne, d.up, d.up2⟩
theorem Pl.setU {w W : World} {g g2 n x : Nat} {o : Value} {u b : Nat → Bool} {L : List Nat} (d : Pl w W g g2 n o u b L) (hx : x < n) (y : Bool) : Pl w (W.setCell ⟨g, x, none⟩ (.bool y)) g g2 n o (fun i => if i = x then y else u i) b L := by
  refine ⟨(d.used.set x hx _).ext (fun i hi => ?_), d.gone.other _ d.ne, ?_, d.apart, d.below.setCell d.up _, d.ne, d.up, d.up2⟩
  · by_cases e : i = x <;> simp [e]
  · exact d.out.kept (grow_set W g x (.bool y)) (own_ne fun r h => (d.apart r h).1)
theorem Pl.setG {w W : World} {g g2 n x : Nat} {o : Value} {u b : Nat → Bool} {L : List Nat} (d : Pl w W g g2 n o u b L) (hx : x < n) (y : Bool) : Pl w (W.setCell ⟨g2, x, none⟩ (.bool y)) g g2 n o u (fun i => if i = x then y else b i) L := by
  refine ⟨d.used.other _ d.ne.symm, (d.gone.set x hx _).ext (fun i hi => ?_), ?_, d.apart, d.below.setCell d.up2 _, d.ne, d.up, d.up2⟩
  · by_cases e : i = x <;> simp [e]
  · exact d.out.kept (grow_set W g2 x (.bool y)) (own_ne fun r h => (d.apart r h).2)
theorem Pl.grown {w W W' : World} {g g2 n x : Nat} {o o' : Value} {u b : Nat → Bool} {L : List Nat} (d : Pl w W g g2 n o u b L) (e : TypeId) (c : Array Value)
    (ho : W'.ownsRow w.heap.size 3 1 o' (L.length + 1) (vals64 (ints L) ++ [.int .i64 (x : Int)])) (hg : (W.alloc (.cells c e)).grownBy W' o.ownBlock) (hk : o'.ownBlock = o.ownBlock ∨ o'.ownBlock = some (W.alloc (.cells c e)).heap.size) : Pl w W' g g2 n o' u b (L ++ [x]) := by
  have hz : (W.alloc (.cells c e)).heap.size = W.heap.size + 1 := Array.size_push _
  have hb : ∀ k, k < W.heap.size → some k ≠ o.ownBlock → W'.heap[k]? = W.heap[k]? := fun k hk2 hne => (hg.block k (by omega) hne).trans (Below.heap_alloc _ _ _ hk2)
  have hca : ∀ h V, CA W h n V → (∀ r, o.ownBlock = some r → r ≠ h) → CA W' h n V := by
    intro h V k hne
    have hbl := hb h k.1 (fun e => hne h e.symm rfl)
    refine ⟨by have := hg.size; have := k.1; omega, fun i hi => ?_⟩
    have := k.2 i hi
    simp only [World.cell?, World.frozen?, hbl] at this ⊢
    exact this
  refine ⟨hca _ _ d.used (fun r h => (d.apart r h).1), hca _ _ d.gone (fun r h => (d.apart r h).2), ?_, fun r hr => ?_, ?_, d.ne, d.up, d.up2⟩
  · rw [List.length_append, ints_app, vals64_app]; exact ho
  · rcases hk with hk | hk
    · exact d.apart r (hk ▸ hr)
    · rw [hk] at hr
      injection hr with hr
      have := d.used.1
      have := d.gone.1
      omega
  · exact (d.below.alloc d.below.size _).grown hg (by rw [hz]; have := d.below.size; omega) (fun r hr => by have := (d.out.lt r hr).1; omega)
theorem Pl.at_used {w W : World} {g g2 n x : Nat} {o : Value} {u b : Nat → Bool} {L : List Nat} (d : Pl w W g g2 n o u b L) (hx : x < n) : W.cell? ⟨g, x, none⟩ = some (.bool (u x)) ∧ W.frozen? ⟨g, x, none⟩ = false := d.used.2 x hx
theorem Pl.at_gone {w W : World} {g g2 n x : Nat} {o : Value} {u b : Nat → Bool} {L : List Nat} (d : Pl w W g g2 n o u b L) (hx : x < n) : W.cell? ⟨g2, x, none⟩ = some (.bool (b x)) ∧ W.frozen? ⟨g2, x, none⟩ = false := d.gone.2 x hx
theorem Pl.shape {w W : World} {g g2 n : Nat} {o : Value} {u b : Nat → Bool} {L : List Nat} (d : Pl w W g g2 n o u b L) : ∃ a c, o = .slice a L.length c := by
  rcases d.out.2 with ⟨rfl, h0⟩ | ⟨r, cap, cur, rfl, _⟩
  · exact ⟨none, 0, by rw [h0]⟩
  · exact ⟨_, _, rfl⟩
theorem outP_le {U V : List Bool} {h p : Nat} (hp : p ≤ 2 * U.length) : (outP U V h p).length ≤ U.length := by
  have : ∀ q, (outP U V h p).length ≤ (outP U V h (p + q)).length := by
    intro q
    induction q with
    | zero => exact Nat.le_refl _
    | succ q ih => rw [← Nat.add_assoc, outP_succ, List.length_append]; omega
  have h2 := this (2 * U.length - p)
  rw [show p + (2 * U.length - p) = 2 * U.length by omega, outP_ord, ord_length] at h2
  exact h2
/-- While not all went there is a visit to come. -/
theorem outP_more {U V : List Bool} {h p : Nat} (hp : p ≤ 2 * U.length) (hl : (outP U V h p).length < U.length) : p < 2 * U.length := by
  rcases Nat.lt_or_ge p (2 * U.length) with h1 | h1
  · exact h1
  · obtain rfl : p = 2 * U.length := by omega
    rw [outP_ord, ord_length] at hl
    omega
/-- Behind all visits, or ahead of them, once all went the order is whole. -/
theorem outP_whole {U V : List Bool} {h p : Nat} (hp : p ≤ 2 * U.length) (hl : ¬ (outP U V h p).length < U.length) : outP U V h p = ord U V h := by
  have : ∀ q, (outP U V h p) <+: (outP U V h (p + q)) := by
    intro q
    induction q with
    | zero => exact List.prefix_refl _
    | succ q ih => rw [← Nat.add_assoc, outP_succ]; exact ih.trans (List.prefix_append _ _)
  have h2 := this (2 * U.length - p)
  rw [show p + (2 * U.length - p) = 2 * U.length by omega, outP_ord] at h2
  exact h2.eq_of_length_le (by rw [ord_length]; omega)

set_option maxRecDepth 100000 in
set_option maxHeartbeats 4000000 in
theorem refOrder_ok (u v : Value) (U V : List Bool) (h : Nat) (w : World) (hu : BRow w u U) (hv : BRow w v V) (hn : U.length ≤ 1000) (hl : U.length = V.length) (hh : h < U.length) :
    Calls Try.prog 15 #[u, v, .int .i64 (h : Int)] w fun e w' => ∃ y, e = .returned (.tuple #[y, .int .i64 0]) ∧ Below w.heap.size w w' ∧ Row .i64 w' y (ints (ord U V h)) := by
  obtain ⟨i0, hi, hz0, hz1, hz2⟩ := info_parts infoI64
  obtain ⟨i1, gi, gz0, gz1, gz2⟩ := info_parts infoBool
  have hck : ckU U.length V.length (h : Int) = 0 := by rw [ckU, if_pos hl, ck, if_neg (by omega), if_neg (by omega)]
  have HC := Lib.hid (may_any u v U V h w hu hv)
  rw [hck] at HC
  obtain ⟨g, cap, w1, hrun, q1, q2, q3, hb1, hca⟩ := clone_run u U w hu hn (by omega)
  have HEl := Lib.hid (fun t => el_step (n := U.length) (h := h) (t := t) (by omega))
  have HEb := Lib.hid (fun t => el_lt (n := U.length) (h := h) (p := t) (by omega))
  have HE0 := Lib.hid (el_zero hh)
  have HSk := Lib.hid (fun p (hp : p < 2 * U.length) (hg : gn U V h p (el U.length h p) = true) => gone_skip hh hp hg)
  have HNo := Lib.hid (fun p (hp : p < 2 * U.length) (hg : gn U V h p (el U.length h p) = false) => gone_not hh hp hg)
  have HSu := Lib.hid (fun p => outP_succ U V h p)
  have HLe := Lib.hid (fun p (hp : p ≤ 2 * U.length) => outP_le (U := U) (V := V) (h := h) hp)
  have HMo := Lib.hid (fun p (hp : p ≤ 2 * U.length) (hl : (outP U V h p).length < U.length) => outP_more hp hl)
  have HWh := Lib.hid (fun p (hp : p ≤ 2 * U.length) (hl : ¬ (outP U V h p).length < U.length) => outP_whole hp hl)
  have HOl := Lib.hid (ord_length U V h)
  have HOb : Hid (∀ x ∈ ord U V h, x ≤ 1000000) := fun x hx => by have := ord_lt hh hx; omega
  obtain ⟨a, c, rfl, hc1, hc2, -⟩ := id hu
  obtain ⟨b2, o2, c2, rfl, hc3, hc4, hlt2, hv2⟩ := brow_open hv (by omega)
  have HV := Lib.hid hv2
  have HRun := Lib.hid hrun
  have HB1 := Lib.hid hb1
  have HL := Lib.hid hl
  have HP0 : Hid (Pl w (w1.alloc (.cells (madeCells (Value.bool false).cells U.length) 4)) g w1.heap.size U.length (.slice none 0 0) (us U V h 0) (gn U V h 0) (outP U V h 0)) := by
    have hgl := hca.1
    refine ⟨(hca.mono (below_made w1 _) (Nat.le_refl _)).ext (fun i hi => by rw [us_zero]), (CA.made w1 (.bool false) U.length 4).ext (fun i hi => by rw [gn_zero]), World.ownsRow_nil _ _ _ _, (fun r hr => by simp [Value.ownBlock] at hr), hb1.alloc hb1.size _, by omega, q3, hb1.size⟩
  clear hck hu hv hv2 hrun hb1 hca
  obtain ⟨O, hO⟩ : ∃ O : Nat → List Nat, O = outP U V h := ⟨_, rfl⟩
  obtain ⟨Z, hZ⟩ : ∃ Z, Z = ord U V h := ⟨_, rfl⟩
  obtain ⟨K, hK⟩ : ∃ K : Nat → Bool, K = tk U V h := ⟨_, rfl⟩
  obtain ⟨G, hG⟩ : ∃ G : Nat → Nat → Bool, G = gn U V h := ⟨_, rfl⟩
  obtain ⟨J, hJ⟩ : ∃ J : Nat → Nat → Bool, J = us U V h := ⟨_, rfl⟩
  rw [← hO] at HSu HLe HMo HWh HP0
  rw [← hZ] at HWh HOl HOb ⊢
  rw [← hK] at HSk HNo HSu
  rw [← hG] at HSk HNo HP0
  rw [← hJ] at HSk HNo HP0
  obtain ⟨n, hN⟩ : ∃ n, n = U.length := ⟨_, rfl⟩
  obtain ⟨m, hM⟩ : ∃ m, m = V.length := ⟨_, rfl⟩
  rw [← hN] at HC HEl HEb HE0 HSk HNo HSu HLe HMo HWh HOl HRun HP0 hh hn q1 HL ⊢
  rw [← hM] at HC HV hc3 HL ⊢
  obtain ⟨E, hE⟩ : ∃ E : Nat → Nat, E = el n h := ⟨_, rfl⟩
  rw [← hE] at HEl HEb HE0 HSk HNo HSu
  have k1 : (n : Int) ≤ (cap : Int) := by omega
  have k2 : ¬ n = 0 := by omega
  have k3 : (m : Int) ≤ (c2 : Int) := by omega
  clear hO hZ hK hG hJ hN hM hE hl hc1 hc3
  go_enter Try.func15, Try.ntmps15
  go_wp2_with (first
    | (go_at_call 21; refine HC.out.mono ?_; rintro e w' ⟨rfl, rfl⟩)
    | (at_builtin; refine wpList_append_run rfl (.tmp 19) (.tmp 20) 22 22 rfl rfl _ _ _ _ rfl rfl HRun.out ?_)
    | (refine wpList_make_row rfl (.tmp 23) (.tmp 23) 22 rfl 4 i1 (.bool false) 1 Try.underlying22 gi gz0 gz1 gz2 .i64 .i64 n rfl rfl (by omega) (by omega) ?_))
  go_loopg [2, 11] (2 * n) (fun k x o wr => ∃ p y : Nat, k = 2 * n - p ∧ p ≤ 2 * n ∧ x = .int .i64 (y : Int) ∧ y < n ∧ Hid ((O p).length < n → y = E p) ∧ Hid (Pl w wr g w1.heap.size n o (J p) (G p) (O p)))
  case atStart => exact ⟨0, h, by omega, Nat.zero_le _, rfl, hh, fun _ => HE0.out.symm, HP0.out⟩
  case round =>
    obtain ⟨p, y, hgk, hp, rfl, hyn, HY, HP⟩ := hrel
    obtain ⟨oa, oc, rfl⟩ := HP.out.shape
    have HK := Lib.hid hgk
    clear hgk
    by_cases hlt : (O p).length < n
    · obtain rfl : y = E p := HY.out hlt
      have hp2 := HMo.out p hp hlt
      have i1 : ((O p).length : Int) < (n : Int) := by omega
      clear HY
      go_wp2
      go_loopg [2] (2 * n - p) (fun k x W => ∃ p2 : Nat, k = 2 * n - p2 ∧ p ≤ p2 ∧ p2 < 2 * n ∧ x = .int .i64 (E p2 : Int) ∧ Hid (O p2 = O p) ∧ Hid (∀ i, i < n → G p2 i = G p i) ∧ Hid (∀ i, i < n → J p2 i = J p i) ∧ wr = W)
      case atStart => exact ⟨p, rfl, Nat.le_refl _, hp2, rfl, rfl, fun _ _ => rfl, fun _ _ => rfl, rfl⟩
      case round =>
        obtain ⟨p2, hgk2, hpp, hp3, rfl, H1, H2, H3, rfl⟩ := hrel
        have HK2 := Lib.hid hgk2
        have e1 := HEb.out p2
        have e2 := HEl.out p2
        have j1 : ((E p2 : Nat) : Int) < (n : Int) := by omega
        have j2 : (0 : Int) ≤ ((E p2 : Nat) : Int) := by omega
        have c1 := (HP.out.at_gone e1).1
        have hG := H2.out _ e1
        have HSk2 := Lib.hid (HSk.out p2 hp3)
        have HNo2 := Lib.hid (HNo.out p2 hp3)
        have HSu2 := Lib.hid (HSu.out p2)
        have i4 : IntKind.i64.wrap (((E p2 : Nat) : Int) + 1) = ((E p2 + 1 : Nat) : Int) := (wrap_in (by omega) (by omega)).trans (by omega)
        rw [← hG] at c1
        clear hgk2 hG
        obtain ⟨x, hx⟩ : ∃ x, x = E p2 := ⟨_, rfl⟩
        rw [← hx] at e1 e2 j1 j2 c1 HSk2 HNo2 HSu2 i4 ⊢
        have HX := Lib.hid hx
        obtain ⟨s, hs⟩ : ∃ s, s = x + 1 := ⟨_, rfl⟩
        rw [← hs] at e2 i4
        obtain ⟨z, hz⟩ : ∃ z, z = E (p2 + 1) := ⟨_, rfl⟩
        rw [← hz] at e2
        have HZ := Lib.hid hz
        clear hx hs hz
        obtain ⟨t, ht⟩ : ∃ t, t = G p2 x := ⟨_, rfl⟩
        rw [← ht] at c1 HSk2 HNo2
        clear ht
        cases t with
        | true =>
          obtain ⟨s1, s2, s3⟩ := HSk2.out rfl
          have o1 : O (p2 + 1) = O p := by rw [HSu2.out, s1, H1.out]; simp
          have o2 : p2 + 1 < 2 * n := HMo.out _ (by omega) (by rw [o1]; exact hlt)
          have G1 := Lib.hid o1
          have G2 : Hid (∀ i, i < n → G (p2 + 1) i = G p i) := fun i hi => (s2 i hi).trans (H2.out i hi)
          have G3 : Hid (∀ i, i < n → J (p2 + 1) i = J p i) := fun i hi => (s3 i hi).trans (H3.out i hi)
          clear s1 s2 s3 o1 HSk2 HNo2
          go_wp2
          go_roundg (2 * n - (p2 + 1))
          case measure => have := HK2.out; omega
          case rel => exact ⟨p2 + 1, rfl, by omega, o2, by rw [HZ.out], G1, G2, G3, by first | exact rfl | trivial⟩
        | false =>
          obtain ⟨s1, s2, s3⟩ := HNo2.out rfl
          have c3 := (HP.out.below.cell (p := ⟨b2, o2 + x, none⟩) hlt2).trans (HV.out x (by have := HL.out; omega))
          have c2' := (HP.out.at_used e1).1
          have f2 := (HP.out.at_used e1).2
          have f1 := (HP.out.at_gone e1).2
          have hJ := H3.out _ e1
          rw [← hJ] at c2'
          obtain ⟨ju, hju⟩ : ∃ ju, ju = J p2 x := ⟨_, rfl⟩
          obtain ⟨q, hq⟩ : ∃ q, q = V.getD x false := ⟨_, rfl⟩
          rw [← hju] at s1 c2'
          rw [← hq] at s1 c3
          have j3 : (x : Int) < (m : Int) := by have := HL.out; omega
          have S2 := Lib.hid s2
          have S3 := Lib.hid s3
          have S1 := Lib.hid s1
          clear hJ hju hq HSk2 HNo2 s1 s2 s3
          cases hk : K p2 with
          | false =>
            have s1 := S1.out
            rw [hk] at s1
            obtain ⟨rfl, rfl⟩ : ju = true ∧ q = false := by simpa using s1
            have o1 : Hid (O (p2 + 1) = O p) := by unfold Hid; rw [HSu2.out, hk, H1.out]; simp
            have HPn : Hid (Pl w (wr.setCell ⟨g, x, none⟩ (.bool false)) g w1.heap.size n (.slice oa (O p).length oc) (J (p2 + 1)) (G (p2 + 1)) (O (p2 + 1))) := by
              refine (HP.out.setU e1 false).ext (fun i hi => ?_) (fun i hi => ?_) o1.out
              · rw [S3.out i hi, hk]
                by_cases e : i = x
                · subst e; simp
                · simp [e, H3.out i hi]
              · rw [S2.out i hi, hk]; simp [H2.out i hi]
            clear hk s1 S1 S2 S3
            go_wp2
            go_roundg (2 * n - (p2 + 1))
            case measure => have := HK.out; omega
            case rel => exact ⟨p2 + 1, z, rfl, by omega, rfl, by rw [HZ.out]; exact HEb.out _, fun _ => HZ.out, HPn⟩
          | true =>
            have s1 := S1.out
            rw [hk] at s1
            have s4 : (ju && !q) = false := by simpa using s1
            have o1 : Hid (O (p2 + 1) = O p ++ [x]) := by unfold Hid; rw [HSu2.out, hk, H1.out]; simp
            have HP2 := Lib.hid (HP.out.setG e1 true)
            have HO2 := Lib.hid HP2.out.out
            have hws : (wr.setCell ⟨w1.heap.size, x, none⟩ (.bool true)).heap.size = wr.heap.size := by simp [World.setCell]
            have HNw := Lib.hid (news_one (wr.setCell ⟨w1.heap.size, x, none⟩ (.bool true)) .i64 (x : Int) 3)
            rw [hws] at HNw
            have HLe2 : Hid (w.heap.size ≤ ((wr.setCell ⟨w1.heap.size, x, none⟩ (.bool true)).alloc (.cells #[.int .i64 (x : Int)] 3)).heap.size) := le_alloc _ (by rw [hws]; exact HP.out.below.size)
            have HFin : Hid (∀ v' w2, w2.ownsRow w.heap.size 3 1 v' ((O p).length + 1) (vals64 (ints (O p)) ++ [.int .i64 (x : Int)]) → ((wr.setCell ⟨w1.heap.size, x, none⟩ (.bool true)).alloc (.cells #[.int .i64 (x : Int)] 3)).grownBy w2 (Value.slice oa (O p).length oc).ownBlock →
                (v'.ownBlock = (Value.slice oa (O p).length oc).ownBlock ∨ v'.ownBlock = some (wr.heap.size + 1)) → Pl w w2 g w1.heap.size n v' (J (p2 + 1)) (G (p2 + 1)) (O (p2 + 1))) := by
              intro v' w2 h1 h2 h3
              have hz9 : ((wr.setCell ⟨w1.heap.size, x, none⟩ (.bool true)).alloc (.cells #[.int .i64 (x : Int)] 3)).heap.size = wr.heap.size + 1 := (Array.size_push _).trans (by rw [hws])
              rw [← hz9] at h3
              refine (HP2.out.grown _ _ h1 h2 h3).ext (fun i hi => ?_) (fun i hi => ?_) o1.out
              · rw [S3.out i hi, hk]; simp [H3.out i hi]
              · rw [S2.out i hi, hk]
                by_cases e : i = x
                · subst e; simp
                · simp [e, H2.out i hi]
            have Hln : Hid ((O (p2 + 1)).length = (O p).length + 1) := by unfold Hid; rw [o1.out]; simp
            have HOp := Lib.hid (show (O p).length ≤ n from Nat.le_of_lt hlt)
            clear hk s1 S1 S2 S3 hws
            by_cases hend : (O p).length + 1 < n
            · have i6 : (((O p).length + 1 : Nat) : Int) < (n : Int) := by omega
              have i7 : (((O p).length : Nat) : Int) + 1 < (n : Int) := by omega
              cases ju with
              | false =>
                clear s4
                have h1 := HO2.out
                go_wp2_with (at_builtin; refine wpList_append_own_at _ rfl (.tmp 56) (.tmp 58) 32 rfl w.heap.size 3 i0 (.int .i64 0) 1 8 Try.underlying32 hi hz0 hz1 hz2 rfl (by decide) _ _ _ rfl (HO2.out.alloc _) ⟨wr.heap.size, 0, none⟩ 1 1 [.int .i64 (x : Int)] rfl rfl (HNw.out) (oneCell_one _ _) (by unfold maxLen; omega) (by omega) HLe2.out ?_)
                intro v' w2 hown' hgrow _ hkeep
                have HPn := Lib.hid (HFin.out v' w2 hown' hgrow hkeep)
                obtain ⟨va, vc, rfl⟩ := HPn.out.shape
                rw [Hln.out]
                clear hown' hgrow hkeep
                go_wp2
                go_roundg (2 * n - (p2 + 1))
                case measure => have := HK.out; omega
                case rel => exact ⟨p2 + 1, z, rfl, by omega, rfl, by rw [HZ.out]; exact HEb.out _, fun _ => HZ.out, by have h9 := HPn.out; rw [Hln.out] at h9; exact h9⟩
              | true =>
                obtain rfl : q = true := by simpa using s4
                clear s4
                have h1 := HO2.out
                go_wp2_with (at_builtin; refine wpList_append_own_at _ rfl (.tmp 56) (.tmp 58) 32 rfl w.heap.size 3 i0 (.int .i64 0) 1 8 Try.underlying32 hi hz0 hz1 hz2 rfl (by decide) _ _ _ rfl (HO2.out.alloc _) ⟨wr.heap.size, 0, none⟩ 1 1 [.int .i64 (x : Int)] rfl rfl (HNw.out) (oneCell_one _ _) (by unfold maxLen; omega) (by omega) HLe2.out ?_)
                intro v' w2 hown' hgrow _ hkeep
                have HPn := Lib.hid (HFin.out v' w2 hown' hgrow hkeep)
                obtain ⟨va, vc, rfl⟩ := HPn.out.shape
                rw [Hln.out]
                clear hown' hgrow hkeep
                go_wp2
                go_roundg (2 * n - (p2 + 1))
                case measure => have := HK.out; omega
                case rel => exact ⟨p2 + 1, z, rfl, by omega, rfl, by rw [HZ.out]; exact HEb.out _, fun _ => HZ.out, by have h9 := HPn.out; rw [Hln.out] at h9; exact h9⟩
            · have i6 : ¬ (((O p).length + 1 : Nat) : Int) < (n : Int) := by omega
              have i7 : ¬ (((O p).length : Nat) : Int) + 1 < (n : Int) := by omega
              cases ju with
              | false =>
                clear s4
                have h1 := HO2.out
                go_wp2_with (at_builtin; refine wpList_append_own_at _ rfl (.tmp 56) (.tmp 58) 32 rfl w.heap.size 3 i0 (.int .i64 0) 1 8 Try.underlying32 hi hz0 hz1 hz2 rfl (by decide) _ _ _ rfl (HO2.out.alloc _) ⟨wr.heap.size, 0, none⟩ 1 1 [.int .i64 (x : Int)] rfl rfl (HNw.out) (oneCell_one _ _) (by unfold maxLen; omega) (by omega) HLe2.out ?_)
                intro v' w2 hown' hgrow _ hkeep
                have HPn := Lib.hid (HFin.out v' w2 hown' hgrow hkeep)
                obtain ⟨va, vc, rfl⟩ := HPn.out.shape
                rw [Hln.out]
                clear hown' hgrow hkeep
                go_wp2
                go_roundg (2 * n - (p2 + 1))
                case measure => have := HK.out; omega
                case rel => exact ⟨p2 + 1, x, rfl, by omega, rfl, e1, fun hh => absurd hh (by rw [Hln.out]; exact hend), by have h9 := HPn.out; rw [Hln.out] at h9; exact h9⟩
              | true =>
                obtain rfl : q = true := by simpa using s4
                clear s4
                have h1 := HO2.out
                go_wp2_with (at_builtin; refine wpList_append_own_at _ rfl (.tmp 56) (.tmp 58) 32 rfl w.heap.size 3 i0 (.int .i64 0) 1 8 Try.underlying32 hi hz0 hz1 hz2 rfl (by decide) _ _ _ rfl (HO2.out.alloc _) ⟨wr.heap.size, 0, none⟩ 1 1 [.int .i64 (x : Int)] rfl rfl (HNw.out) (oneCell_one _ _) (by unfold maxLen; omega) (by omega) HLe2.out ?_)
                intro v' w2 hown' hgrow _ hkeep
                have HPn := Lib.hid (HFin.out v' w2 hown' hgrow hkeep)
                obtain ⟨va, vc, rfl⟩ := HPn.out.shape
                rw [Hln.out]
                clear hown' hgrow hkeep
                go_wp2
                go_roundg (2 * n - (p2 + 1))
                case measure => have := HK.out; omega
                case rel => exact ⟨p2 + 1, x, rfl, by omega, rfl, e1, fun hh => absurd hh (by rw [Hln.out]; exact hend), by have h9 := HPn.out; rw [Hln.out] at h9; exact h9⟩
    · have i1 : ¬ ((O p).length : Int) < (n : Int) := by omega
      have hO := HWh.out p hp hlt
      have HR : Hid (Row .i64 wr (.slice oa (O p).length oc) (ints Z)) := by
        have h9 := row64_of_owns HP.out.out (ints_length _) (ints_wf (by rw [hO]; exact HOb.out))
        have e9 : ints (O p) = ints Z := by rw [hO]
        rw [e9] at h9
        exact h9
      have HB := Lib.hid HP.out.below
      clear hO HY
      go_wp2
      go_ret2
      exact ⟨_, rfl, HB.out, HR.out⟩
end Go.Proofs.Ythokagcjbaibfaa.Cha
