/- What is asked of arena's functions; acts; few acts; the example of the page. -/
import Derived.Test.YtncbfagmdldclaaArnC
import Derived.Test.YtncbfagmdldclaaKit12
namespace Go.Proofs.Ytncbfagmdldclaa.Arn
open Go.RowKit Num
set_option linter.unusedVariables false

/-- A row of bytes in new memory that may be written. -/
def NewRow (B : Nat) (w : World) (v : Value) (l : List Int) : Prop :=
  Row .u8 w v l ∧ ∀ b off n c, v = .slice (some ⟨b, off, none⟩) n c → l ≠ [] → B ≤ b ∧ ∀ i, i < l.length → w.frozen? ⟨b, off + i, none⟩ = false

section
variable {H : Type} (blk : H → Nat → Prop) (Ar : H → World → Value → List Int → Prop) (Tb : World → Prop)
/-- What a writing call comes to. -/
def WroteS (w : World) (v : Value) (h : H) (r : List Int × Int) (e : Ending) (w' : World) : Prop :=
  e = .returned (.int .i64 r.2) ∧ ∃ h', Ar h' w' v r.1 ∧ (∀ k, blk h' k → blk h k ∨ w.heap.size ≤ k) ∧ Fr w.heap.size (blk h) w w'
/-- What a view is: a byte that is written into it is the arena's. -/
def ViewAt (w : World) (v : Value) (h : H) (l : List Int) (a m : Nat) (x : Option Addr) : Prop :=
  Row .u8 w (.slice x m m) ((l.drop a).take m) ∧ (0 < m → ∃ b off, x = some ⟨b, off, none⟩ ∧ blk h b ∧ ∀ w' l', Ar h w' v l' → ∀ i, i < m → w'.frozen? ⟨b, off + i, none⟩ = false ∧ (∃ u, w'.cell? ⟨b, off + i, none⟩ = some u) ∧ ∀ y, 0 ≤ y → y < 256 → Ar h (w'.setCell ⟨b, off + i, none⟩ (.int .u8 y)) v (l'.set (a + i) y))

def is64 (n : Int) : Prop := -9223372036854775808 ≤ n ∧ n ≤ 9223372036854775807
structure Does : Prop where
  keep : ∀ {w w' : World}, Below w.heap.size w w' → Tb w → Tb w'
  lt : ∀ h w v l, Ar h w v l → ∀ k, blk h k → k < w.heap.size
  stay : ∀ h w w' v l N T, Ar h w v l → Fr N T w w' → (∀ k, blk h k → k < N ∧ ¬ T k) → Ar h w' v l
  ptr : ∀ h w v l, Ar h w v l → ∃ g, v = .pointer (some ⟨g, 0, none⟩)
  good : ∀ h w v l, Ar h w v l → IsBytes l ∧ mayN l.length = true
  new_yes : ∀ (n : Nat) w, mayN n = true → Calls Try.prog 9 #[.int .i64 (n : Int)] w fun e w' => ∃ v h, e = .returned v ∧ Ar h w' v (List.replicate n 0) ∧ Below w.heap.size w w' ∧ ∀ k, blk h k → w.heap.size ≤ k
  new_no : ∀ (n : Int) w, mayN n = false → Calls Try.prog 9 #[.int .i64 n] w fun e w' => e = .returned (.pointer none) ∧ Below w.heap.size w w'
  of_yes : ∀ u l w, Row .u8 w u l → mayN l.length = true → Calls Try.prog 14 #[u] w fun e w' => ∃ v h, e = .returned v ∧ Ar h w' v l ∧ Below w.heap.size w w' ∧ ∀ k, blk h k → w.heap.size ≤ k
  of_no : ∀ u l w, Row .u8 w u l → mayN l.length = false → Calls Try.prog 14 #[u] w fun e w' => e = .returned (.pointer none) ∧ Below w.heap.size w w'
  len : ∀ h v l w, Ar h w v l → Calls Try.prog 13 #[v] w fun e w' => e = .returned (.int .i64 (l.length : Int)) ∧ Below w.heap.size w w'
  get : ∀ h v l a x w, Ar h w v l → Calls Try.prog 18 #[v, .int .i64 a, .int .i64 x] w fun e w' => e = .returned (.tuple #[.int .u64 (ldv l a x).1, .int .i64 (ldv l a x).2]) ∧ Below w.heap.size w w'
  put : ∀ h v l a x y w, Ar h w v l → 0 ≤ y → y < 18446744073709551616 → Calls Try.prog 17 #[v, .int .i64 a, .int .i64 x, .int .u64 y] w (WroteS blk Ar w v h (putA l a x y))
  write : ∀ h v l a u X w, Ar h w v l → is64 a → Row .u8 w u X → X.length ≤ 1000000 → Calls Try.prog 20 #[v, .int .i64 a, u] w (WroteS blk Ar w v h (wriA l a X))
  zero : ∀ h v l a m w, Ar h w v l → is64 a → Calls Try.prog 21 #[v, .int .i64 a, .int .i64 m] w (WroteS blk Ar w v h (zerA l a m))
  move : ∀ h v l f t m w, Ar h w v l → is64 f → is64 t → Calls Try.prog 22 #[v, .int .i64 f, .int .i64 t, .int .i64 m] w (WroteS blk Ar w v h (movA l f t m))
  read : ∀ h v l a m w, Ar h w v l → is64 a → Calls Try.prog 19 #[v, .int .i64 a, .int .i64 m] w fun e w' => ∃ u, e = .returned (.tuple #[u, .int .i64 (reaA l a m).2]) ∧ Below w.heap.size w w' ∧ NewRow w.heap.size w' u (reaA l a m).1
  view : ∀ h v l a m w, Ar h w v l → is64 a → Calls Try.prog 16 #[v, .int .i64 a, .int .i64 m] w fun e w' => Below w.heap.size w w' ∧
    ((fitB l.length a m = true ∧ ∃ x, e = .returned (.tuple #[.slice x m.toNat m.toNat, .int .i64 0]) ∧ ViewAt blk Ar w' v h l a.toNat m.toNat x) ∨ (fitB l.length a m = false ∧ e = .returned (.tuple #[.slice none 0 0, .int .i64 6])))
  has : ∀ h v l u X w, Ar h w v l → Row .u8 w u X → X.length ≤ 1000000 → Tb w → Calls Try.prog 23 #[v, u] w fun e w' => e = .returned (.bool (hasA l X)) ∧ Below w.heap.size w w'
  image : ∀ h v l w, Ar h w v l → Calls Try.prog 12 #[v] w fun e w' => ∃ u, e = .returned u ∧ Below w.heap.size w w' ∧ NewRow w.heap.size w' u l
end

/-- An act. -/
structure Act where
  k : Int
  at_ : Int
  to : Int
  n : Int
  x : Int
  v : Int
  u : Value
  b : List Int
def Act.zero : Act := ⟨0, 0, 0, 0, 0, 0, .slice none 0 0, []⟩
def Act.cells (x : Act) : List Value := [.int .i64 x.k, .int .i64 x.at_, .int .i64 x.to, .int .i64 x.n, .int .i64 x.x, .int .u64 x.v, x.u]
def Act.agg (x : Act) : Value := .agg #[.int .i64 x.k, .int .i64 x.at_, .int .i64 x.to, .int .i64 x.n, .int .i64 x.x, .int .u64 x.v, x.u]
def ActR (w : World) (cs : List Value) (x : Act) : Prop := cs = x.cells ∧ is64 x.k ∧ is64 x.at_ ∧ is64 x.to ∧ is64 x.n ∧ is64 x.x ∧ 0 ≤ x.v ∧ x.v < 18446744073709551616 ∧ Row .u8 w x.u x.b
theorem actR_stays : GStays ActR := fun _ _ _ _ _ h hb hB => ⟨h.1, h.2.1, h.2.2.1, h.2.2.2.1, h.2.2.2.2.1, h.2.2.2.2.2.1, h.2.2.2.2.2.2.1, h.2.2.2.2.2.2.2.1, h.2.2.2.2.2.2.2.2.mono hb hB⟩
abbrev ActRow := GRow 7 ActR Act.zero

/-- How many bytes acts have. -/
def datA (L : List Act) : Nat := (L.map fun x => x.b.length).sum
theorem datA_take_succ (L : List Act) (k : Nat) (h : k < L.length) : datA (L.take (k + 1)) = datA (L.take k) + (L.getD k Act.zero).b.length := by
  have e : L.getD k Act.zero = L[k] := by simp [List.getD, h]
  rw [List.take_succ_eq_append_getElem h, e]
  unfold datA
  rw [List.map_append, List.sum_append]
  simp
theorem datA_take_le (L : List Act) (k : Nat) : datA (L.take k) ≤ datA L := by
  conv => rhs; rw [← List.take_append_drop k L]
  unfold datA
  rw [List.map_append, List.sum_append]
  omega
theorem datA_get (L : List Act) (k : Nat) (h : k < L.length) : (L.getD k Act.zero).b.length ≤ datA L := by
  have h1 := datA_take_succ L k h
  have h2 := datA_take_le L (k + 1)
  omega
def fewA (L : List Act) : Bool := decide (L.length ≤ 60) && decide (datA L ≤ 3000)
theorem fewA_out {L : List Act} (h : fewA L = true) : L.length ≤ 60 ∧ datA L ≤ 3000 := by simpa [fewA] using h

set_option maxRecDepth 100000 in
set_option maxHeartbeats 1000000 in
theorem few_any (v : Value) (L : List Act) (w : World) (hr : ActRow w v L) :
    Calls Try.prog 7 #[.int .i64 0, v] w fun e w' => e = .returned (.bool (fewA L)) ∧ w = w' := by
  obtain ⟨ad, cap, U, rfl, q2, q3, q4, q5⟩ := hr
  have HC := Lib.hid q5
  have HS := Lib.hid q4
  clear q4 q5
  go_enter Try.func7, Try.ntmps7
  go_wp2
  go_loop [5, 6] (fun n i => ∃ (k m : Nat), k ≤ L.length ∧ i = .int .i64 k ∧ n = .int .i64 m ∧ m ≤ 13000 ∧ Hid (m ≤ 3000 → datA (L.take k) = m) ∧ Hid (3000 < m → 3000 < datA (L.take k))) (fun _ i => L.length - (intOf i).toNat)
  case atStart => exact ⟨0, 0, Nat.zero_le _, rfl, rfl, by omega, fun _ => rfl, fun h => by omega⟩
  case round =>
    obtain ⟨k, m, hk, rfl, rfl, hm, HM, HN⟩ := hrel
    by_cases hlt : k < L.length
    · have hlt1 : (k : Int) < (L.length : Int) := by omega
      by_cases h3 : m ≤ 3000
      · have i3 : (m : Int) ≤ 3000 := by omega
        have hw := HM.out h3
        obtain ⟨b, off, rfl, hlb, hc⟩ := HC.out (by rintro rfl; simp at hlt)
        obtain ⟨hs1, hs2, -, -, -, -, -, -, -, hs⟩ := HS.out k hlt
        have h1 := datA_take_succ L k hlt
        rw [hw] at h1
        have hcell := hc k hlt 6 (L.getD k Act.zero).u (by rw [hs2]; rfl)
        obtain ⟨x, hx⟩ : ∃ x, x = L.getD k Act.zero := ⟨_, rfl⟩
        rw [← hx] at hs h1 hcell
        obtain ⟨ad2, cap2, hu, -, -, -, -⟩ := hs
        rw [hu] at hcell
        obtain ⟨y, hy⟩ : ∃ y, y = x.b.length := ⟨_, rfl⟩
        rw [← hy] at hcell h1
        have H1 := Lib.hid h1
        clear hc hx hw h1 HM HN hs1 hs2 hu hy
        by_cases hx : (y : Int) ≤ 9999
        · go_wp2
          go_round
          case rel => exact ⟨k + 1, m + y, by omega, by go_num, by go_num, by omega, fun h => by rw [H1.out], fun h => by rw [H1.out]; exact h⟩
          case measure => simp [intOf]; omega
        · have hx2 : (9999 : Int) < y := by omega
          clear hx
          go_wp2
          go_round
          case rel => exact ⟨k + 1, m + 9999, by omega, by go_num, by go_num, by omega, fun h => by omega, fun h => by rw [H1.out]; omega⟩
          case measure => simp [intOf]; omega
      · have i3 : ¬ (m : Int) ≤ 3000 := by omega
        have hbig : 3000 < datA L := by
          have h1 := HN.out (by omega)
          have h2 := datA_take_le L k
          omega
        have HF : Hid (fewA L = false) := by unfold Hid fewA; simp; omega
        clear HM HN hbig
        go_wp2
        all_goals go_ret
        all_goals exact ⟨ret_bool (by rw [HF.out]), rfl⟩
    · obtain rfl : k = L.length := by omega
      have hM := HM.out
      have hN := HN.out
      rw [List.take_length] at hM hN
      have HF : Hid (fewA L = (decide ((L.length : Int) ≤ 60) && decide ((m : Int) ≤ 3000))) := by
        unfold Hid fewA
        rw [Bool.eq_iff_iff]
        simp
        omega
      clear hM hN HM HN hlt
      go_wp2
      all_goals go_ret
      all_goals exact ⟨ret_bool (by rw [HF.out]; simp; try omega), rfl⟩
end Go.Proofs.Ytncbfagmdldclaa.Arn
