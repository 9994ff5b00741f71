/- Plain mathematics of the map of an arena: what each slab's bytes tell. A slab as it is read from an image: numbers, blocks, a free slab. A free slab: no byte that isn't nought. The blocks of a slab to which no link leads. -/
import Derived.Test.YtlcnhnhpaddkfaaGreatDoorJ4
import Derived.Test.YtlcnhnhpaddkfaaGreatDoorJ17
import Derived.Test.YtlcnhnhpaddkfaaGreatDoorJ2
import Derived.Test.YtlcnhnhpaddkfaaGreatDoorJ10
import Derived.Test.YtlcnhnhpaddkfaaGreatDoorJ0
namespace Go.Proofs.YtlcnhnhpaddkfaaGreatDoor.Reg
open Go.RowKit
open Cls (szC blC pdC)
open Sla (pl aT Sl bl_in bl_apart)
open Mem (rd)
set_option linter.unusedVariables false

/-- Which block begins there. -/
def ixP (A : Nat) (c : Int) (a : Int) : Option Nat := (List.range (blC c)).find? fun k => decide ((pl A c k : Int) = a)
theorem ixP_some {A : Nat} {c a : Int} {k : Nat} (h : ixP A c a = some k) : k < blC c ∧ (pl A c k : Int) = a := by
  have h1 := List.mem_of_find?_eq_some h
  have h2 := List.find?_some h
  exact ⟨List.mem_range.1 h1, by simpa using h2⟩
theorem pl_one {A : Nat} {c : Int} {k j : Nat} (hk : k < blC c) (hj : j < blC c) (h : pl A c k = pl A c j) : k = j := by
  have h1 := bl_in hk
  rcases Nat.lt_trichotomy k j with q | q | q
  · have := bl_apart c q
    unfold pl at h; omega
  · exact q
  · have := bl_apart c q
    unfold pl at h; omega
theorem ixP_at {A : Nat} {c : Int} {k : Nat} (hk : k < blC c) : ixP A c (pl A c k : Int) = some k := by
  cases h : ixP A c (pl A c k : Int) with
  | none =>
    have := List.find?_eq_none.1 h k (List.mem_range.2 hk)
    simp at this
  | some j =>
    obtain ⟨h1, h2⟩ := ixP_some h
    rw [pl_one (A := A) h1 hk (by omega)]
/-- The blocks to which links lead, from a place on. -/
def flw (l : List Int) (A : Nat) (c : Int) : Nat → Int → List Nat → Option (List Nat)
  | 0, _, _ => none
  | n + 1, a, seen => if a = 0 then some seen else match ixP A c a with
    | none => none
    | some k => if k ∈ seen then none else flw l A c n (rd l (pl A c k + 4) 4) (k :: seen)
theorem flw_zero {l : List Int} {A : Nat} {c : Int} {n : Nat} {seen F : List Nat} (h : flw l A c n 0 seen = some F) : F = seen := by
  cases n with
  | zero => cases h
  | succ n => rw [flw, if_pos rfl] at h; injection h with h; exact h.symm
theorem flw_step {l : List Int} {A : Nat} {c a : Int} {n : Nat} {seen F : List Nat} (h : flw l A c n a seen = some F) (ha : a ≠ 0) :
    ∃ m k, n = m + 1 ∧ k < blC c ∧ a = (pl A c k : Int) ∧ k ∉ seen ∧ flw l A c m (rd l (pl A c k + 4) 4) (k :: seen) = some F := by
  cases n with
  | zero => cases h
  | succ n =>
    rw [flw, if_neg ha] at h
    cases hx : ixP A c a with
    | none => rw [hx] at h; cases h
    | some k =>
      rw [hx] at h
      simp only at h
      by_cases hs : k ∈ seen
      · rw [if_pos hs] at h; cases h
      · rw [if_neg hs] at h
        obtain ⟨h1, h2⟩ := ixP_some hx
        exact ⟨n, k, rfl, h1, h2.symm, hs, h⟩
/-- The runs of a slab of a class. -/
def blkR (A : Nat) (c : Int) (F : List Nat) (k : Nat) : RZ := ((pl A c k : Int), ((szC c : Nat) : Int), if k ∈ F then 6 else 5)
def padR (A : Nat) (c : Int) : List RZ := if 0 < pdC c then [((A + 1024 - pdC c : Nat), ((pdC c : Nat) : Int), 8)] else []
def dvR (A : Nat) (c : Int) (F : List Nat) : List RZ := (List.range (blC c)).map (blkR A c F) ++ padR A c
/-- So many bytes are noughts. -/
def zer (l : List Int) (A n : Nat) : Bool := (List.range n).all fun i => l.getD (A + i) 0 == 0
theorem zer_iff {l : List Int} {A n : Nat} : zer l A n = true ↔ ∀ i, i < n → l.getD (A + i) 0 = 0 := by simp [zer]
/-- What a slab's bytes tell; none: that they are none. -/
def slR (l : List Int) (A : Nat) (cl lv fr : Int) : Option (List RZ) :=
  if 9 < cl then none
  else if cl = 0 then (if lv = 0 ∧ fr = 0 ∧ zer l A 1024 = true then some [((A : Int), 1024, 7)] else none)
  else match flw l A cl (blC cl + 1) fr [] with
    | none => none
    | some F => if F.length = blC cl ∨ lv ≠ ((blC cl - F.length : Nat) : Int) then none else some (dvR A cl F)
def slJ (S N : Nat) (l : List Int) (j : Nat) : Option (List RZ) := slR l (aT S N j) (rd l (128 + 16 * j) 2) (rd l (128 + 16 * j + 2) 2) (rd l (128 + 16 * j + 4) 4)
def mapS (S N : Nat) (l : List Int) : Nat → Option (List RZ)
  | 0 => some []
  | j + 1 => match mapS S N l j with
    | none => none
    | some P => match slJ S N l j with
      | none => none
      | some Q => some (P ++ Q)
theorem mapS_some {S N : Nat} {l : List Int} {j : Nat} {P : List RZ} (h : mapS S N l (j + 1) = some P) : ∃ P' Q, mapS S N l j = some P' ∧ slJ S N l j = some Q ∧ P = P' ++ Q := by
  rw [mapS] at h
  cases h1 : mapS S N l j with
  | none => rw [h1] at h; cases h
  | some P' =>
    rw [h1] at h
    simp only at h
    cases h2 : slJ S N l j with
    | none => rw [h2] at h; cases h
    | some Q =>
      rw [h2] at h
      injection h with h
      exact ⟨P', Q, rfl, rfl, h.symm⟩
theorem mapS_less {S N : Nat} {l : List Int} {P : List RZ} {n : Nat} (h : mapS S N l n = some P) : ∀ j, j ≤ n → ∃ Q, mapS S N l j = some Q := by
  induction n generalizing P with
  | zero => intro j hj; obtain rfl : j = 0 := by omega
            exact ⟨_, h⟩
  | succ n ih =>
    intro j hj
    obtain ⟨P', Q, h1, -, -⟩ := mapS_some h
    by_cases e : j = n + 1
    · subst e; exact ⟨_, h⟩
    · exact ih h1 j (by omega)
theorem blC_le (cl : Int) : blC cl ≤ 32 := by
  by_cases hz : szC cl = 0
  · rw [Cls.blC_no hz]; omega
  · rw [blC, if_neg hz]
    rcases Cls.szC_bd cl with q | q
    · exact absurd q hz
    · exact Nat.le_trans (Nat.div_le_div_left q.1 (by decide)) (by decide)
theorem slR_len {l : List Int} {A : Nat} {cl lv fr : Int} {P : List RZ} (h : slR l A cl lv fr = some P) : P.length ≤ 34 := by
  unfold slR at h
  split at h
  · cases h
  · split at h
    · split at h
      · injection h with h; rw [← h]; simp
      · cases h
    · split at h
      · cases h
      · split at h
        · cases h
        · injection h with h
          rw [← h]
          unfold dvR padR
          have hb := blC_le cl
          rw [List.length_append, List.length_map, List.length_range]
          split <;> simp <;> omega
theorem mapS_len {S N : Nat} {l : List Int} : ∀ {j : Nat} {P : List RZ}, mapS S N l j = some P → P.length ≤ 34 * j := by
  intro j
  induction j with
  | zero => intro P h; injection h with h; rw [← h]; simp
  | succ j ih =>
    intro P h
    obtain ⟨P', Q, h1, h2, rfl⟩ := mapS_some h
    have := ih h1
    have := slR_len h2
    rw [List.length_append]
    omega
/-- Runs ahead of the slabs. -/
def headR (S N : Nat) : List RZ := (Lay.runsT S N).dropLast.map fun r => ((r.1 : Int), (r.2.1 : Int), (r.2.2 : Int))
def mapC (S N : Nat) (l : List Int) : Option (List RZ) := (mapS S N l S).map fun P => joinZ (headR S N ++ P)
end Go.Proofs.YtlcnhnhpaddkfaaGreatDoor.Reg

namespace Go.Proofs.YtlcnhnhpaddkfaaGreatDoor.Reg
open Go.RowKit
open Cls (szC blC pdC)
open Sla (pl aT Sl bl_in bl_apart)
open Mem (rd)
set_option linter.unusedVariables false

theorem rd_bd4 {w : World} {u : Value} {l : List Int} (hr : Row .u8 w u l) (a : Nat) {n : Nat} (hn : n = 2 ∨ n = 4) : 0 ≤ rd l a n ∧ rd l a n < 4294967296 := by
  have := Mem.rd_bd (l := l) (fun i => hr.bytes i) a n
  rcases hn with rfl | rfl
  · have : (256 : Int) ^ 2 = 65536 := by decide
    omega
  · have : (256 : Int) ^ 4 = 4294967296 := by decide
    omega
theorem load_rd {w : World} {u : Value} {l : List Int} (hr : Row .u8 w u l) {a n : Nat} (hn : n = 2 ∨ n = 4) (h : a + n ≤ l.length) (ha : a % n = 0) : Num.ldv l (a : Int) (n : Int) = (rd l a n, 0) := by
  have hp : Num.plc l.length (a : Int) (n : Int) = 0 := by
    unfold Num.plc
    rw [if_neg (by omega), if_pos (by omega)]
  have hw : Num.isW (n : Int) = true := by rcases hn with rfl | rfl <;> decide
  rw [Num.ldv, if_pos hw, if_pos hp, Int.toNat_natCast, Int.toNat_natCast]
  rfl
theorem number_any (u : Value) (l : List Int) (a n : Nat) (w : World) (hr : Row .u8 w u l) (hn : n = 2 ∨ n = 4) (h : a + n ≤ l.length) (ha : a % n = 0) :
    Calls Tryz.prog 222 #[u, .int .i64 (a : Int), .int .i64 (n : Int)] w fun e w' => e = .returned (.int .i64 (rd l a n)) ∧ Below w.heap.size w w' := by
  have hl := Num.load_any u (a : Int) (n : Int) l w hr
  rw [load_rd hr hn h ha] at hl
  have hb := rd_bd4 hr a hn
  obtain ⟨y, hy⟩ : ∃ y, y = rd l a n := ⟨_, rfl⟩
  rw [← hy] at hl hb ⊢
  have HL := Lib.hid hl
  have hw1 : IntKind.i64.wrap y = y := wrap_id (by omega) (by omega)
  have hw2 : wrap64 y = y := IntWalk.wrap64_in _ (by omega)
  clear hl hy h ha hn hr
  go_enter Tryz.func222, Tryz.ntmps222
  go_wp2_with fail
  refine HL.out.mono ?_
  rintro e w1 ⟨rfl, hb1⟩
  go_wp2
  go_ret
  exact ⟨rfl, hb1⟩
/-- A slab's value. -/
def sV (u : Value) (A cl lv fr : Int) : Value := .agg #[u, .int .i64 A, .int .i64 cl, .int .i64 lv, .int .i64 fr]
/-- Its box. -/
def sB (u : Value) (A cl lv fr : Int) : Obj := .cells #[u, .int .i64 A, .int .i64 cl, .int .i64 lv, .int .i64 fr] 204
theorem box_slab (w : World) {p : Option Addr} {m c : Nat} {u : Value} (hu : u = .slice p m c) (A cl lv fr : Int) : (∀ W, Below (w.alloc (sB u A cl lv fr)).heap.size (w.alloc (sB u A cl lv fr)) W → W.cell? ⟨w.heap.size, 0, none⟩ = some u ∧ W.cell? ⟨w.heap.size, 1, none⟩ = some (.int .i64 A) ∧ W.cell? ⟨w.heap.size, 2, none⟩ = some (.int .i64 cl) ∧ W.cell? ⟨w.heap.size, 3, none⟩ = some (.int .i64 lv) ∧ W.cell? ⟨w.heap.size, 4, none⟩ = some (.int .i64 fr)) ∧ w.heap.size < (w.alloc (sB u A cl lv fr)).heap.size ∧ Below w.heap.size w (w.alloc (sB u A cl lv fr)) := by
  subst hu
  have hsz : (w.alloc (sB (.slice p m c) A cl lv fr)).heap.size = w.heap.size + 1 := Array.size_push _
  refine ⟨fun W hW => ?_, by omega, below_made _ _⟩
  have hb := (hW.block w.heap.size (by omega)).trans (heap_alloc_new w (sB (.slice p m c) A cl lv fr))
  exact ⟨(cell_block hb 0).trans rfl, (cell_block hb 1).trans rfl, (cell_block hb 2).trans rfl, (cell_block hb 3).trans rfl, (cell_block hb 4).trans rfl⟩
theorem block_any (p : Option Addr) (m c : Nat) (A : Nat) (cl lv fr : Int) (k : Nat) (w : World) (ht : Cls.Tab w) (hk : k < blC cl) (hA : A ≤ 1000000) :
    Calls Tryz.prog 252 #[sV (.slice p m c) A cl lv fr, .int .i64 (k : Int)] w fun e w' => e = .returned (.int .i64 (pl A cl k : Int)) ∧ Below w.heap.size w w' := by
  have hin := bl_in hk
  have hk32 := blC_le cl
  have hpc : Cls.plC cl (k : Int) = (k * szC cl, 0) := by
    rw [Cls.plC, if_neg (by omega), if_neg (by omega), Int.toNat_natCast]
  obtain ⟨hc, hlt, hb⟩ := box_slab w (u := .slice p m c) rfl (A : Int) cl lv fr
  have hp := Cls.place_any cl (k : Int) (w.alloc (sB (.slice p m c) A cl lv fr)) (tab_keep (below_made _ _) ht) (by omega) (by omega)
  rw [hpc] at hp
  obtain ⟨q, hq⟩ : ∃ q, q = k * szC cl := ⟨_, rfl⟩
  obtain ⟨s, hs⟩ : ∃ s, s = pl A cl k := ⟨_, rfl⟩
  have hs2 : s = A + q := by rw [hs, hq]; rfl
  rw [← hq] at hp
  rw [← hs]
  have hw1 : IntKind.i64.wrap ((A : Int) + (q : Int)) = (s : Int) := (wrap_id (by omega) (by omega)).trans (by omega)
  have HP := Lib.hid hp
  obtain ⟨c0, c1, c2, c3, c4⟩ := hc _ (Below.refl _ _)
  unfold sV
  unfold sB at HP c0 c1 c2 c3 c4 hb
  clear hp hpc hs hs2 hq hin hc hk hk32
  go_enter Tryz.func252, Tryz.ntmps252
  go_wp2_with fail
  refine HP.out.mono ?_
  rintro e w1 ⟨rfl, rfl⟩
  go_wp2
  go_ret
  exact ⟨rfl, hb⟩
end Go.Proofs.YtlcnhnhpaddkfaaGreatDoor.Reg

namespace Go.Proofs.YtlcnhnhpaddkfaaGreatDoor.Reg
open Go.RowKit
open Cls (szC blC pdC)
open Sla (pl aT Sl bl_in bl_apart)
open Mem (rd)
set_option linter.unusedVariables false

theorem sub_row {k : IntKind} {w : World} {b off cap lo hi : Nat} {l : List Int} (h : Row k w (.slice (some ⟨b, off, none⟩) l.length cap) l) (h1 : lo ≤ hi) (h2 : hi ≤ l.length) : Row k w (.slice (some ⟨b, off + lo, none⟩) (hi - lo) (cap - lo)) ((l.drop lo).take (hi - lo)) := by
  have h3 := Row.tail h (n := lo) (by omega)
  have hl : (l.drop lo).length = l.length - lo := List.length_drop
  rw [← hl] at h3
  exact Row.take h3 (by rw [hl]; omega)
theorem notZero_no (w : World) : Calls Tryz.prog 250 #[.int .u8 0] w fun e w' => e = .returned (.bool false) ∧ w = w' := by
  go_enter Tryz.func250, Tryz.ntmps250
  go_wp2
  go_ret
  exact ⟨rfl, rfl⟩
abbrev nzF : Value := .func (.func 250) #[] #[]
set_option maxRecDepth 100000 in
theorem indexFunc_no (u : Value) (X : List Int) (w : World) (hr : Row .u8 w u X) (hz : ∀ i, i < X.length → X.getD i 0 = 0) (hX : X.length ≤ 1000000) :
    Calls Tryz.prog 255 #[u, nzF] w fun e w' => e = .returned (.int .i64 (-1)) ∧ w = w' := by
  obtain ⟨p, c, rfl, h2, h3, h4, h5⟩ := hr
  have HC := Lib.hid h5
  have HZ := Lib.hid hz
  have HN := Lib.hid notZero_no
  clear h4 h5 hz
  go_enter Tryz.func255, Tryz.ntmps255
  go_wp2
  go_loopw [8] (fun i wr => ∃ k : Nat, k ≤ X.length ∧ i = .int .i64 k ∧ Hid (wr = w)) (fun i _ => X.length - (intOf i).toNat)
  case atStart => exact ⟨0, Nat.zero_le _, rfl, rfl⟩
  case round =>
    obtain ⟨k, hk, rfl, HW⟩ := hrel
    obtain rfl := HW.out
    by_cases hlt : k < X.length
    · have hlt1 : (k : Int) < (X.length : Int) := by omega
      have hlt0 : (0 : Int) ≤ (k : Int) := by omega
      obtain ⟨b, o, rfl, hb, hc⟩ := HC.out (by rintro rfl; simp at hlt)
      have c0 := hc k hlt
      rw [HZ.out k hlt] at c0
      have hkw : IntKind.i64.wrap ((k : Int) + 1) = ((k + 1 : Nat) : Int) := (wrap_id (by omega) (by omega)).trans (by omega)
      clear hc
      go_wp2_with fail
      refine (HN.out _).mono ?_
      rintro e w1 ⟨rfl, rfl⟩
      go_wp2
      go_roundw
      case rel => exact ⟨k + 1, by omega, by go_num, trivial⟩
      case measure => simp [intOf]; omega
    · obtain rfl : k = X.length := by omega
      go_wp2
      go_ret
      exact ⟨rfl, rfl⟩
theorem containsFunc_no (u : Value) (X : List Int) (w : World) (hr : Row .u8 w u X) (hz : ∀ i, i < X.length → X.getD i 0 = 0) (hX : X.length ≤ 1000000) :
    Calls Tryz.prog 249 #[u, nzF] w fun e w' => e = .returned (.bool false) ∧ w = w' := by
  have HI := Lib.hid (indexFunc_no u X w hr hz hX)
  clear hr hz
  go_enter Tryz.func249, Tryz.ntmps249
  go_wp2_with fail
  refine HI.out.mono ?_
  rintro e w1 ⟨rfl, rfl⟩
  go_wp2
  go_ret
  exact ⟨rfl, rfl⟩
/-- Runs that a call made, and no error. -/
def ROk (w : World) (P : List RZ) (e : Ending) (w' : World) : Prop := ∃ u, e = .returned (.tuple #[u, Value.nilIface]) ∧ Below w.heap.size w w' ∧ ZRow w' u P
set_option maxRecDepth 100000 in
theorem whole_ok (u : Value) (l : List Int) (A : Nat) (w : World) (hr : Row .u8 w u l) (hA : A + 1024 ≤ l.length) (hl : l.length ≤ 1000000) (hz : zer l A 1024 = true) :
    Calls Tryz.prog 223 #[sV u (A : Int) 0 0 0] w (ROk w [((A : Int), 1024, 7)]) := by
  obtain ⟨p, c, rfl, h2, h3, h4, h5⟩ := id hr
  obtain ⟨b, o, rfl, hlt, -⟩ := h5 (by rintro rfl; simp at hA)
  obtain ⟨hc, hbl, hb⟩ := box_slab w (u := .slice (some ⟨b, o, none⟩) l.length c) rfl (A : Int) 0 0 0
  have hr1 := hr.mono hb (Nat.le_refl _)
  obtain ⟨A2, hA2⟩ : ∃ A2 : Nat, A2 = A + 1024 := ⟨_, rfl⟩
  have hrow : Row .u8 (w.alloc (sB (.slice (some ⟨b, o, none⟩) l.length c) (A : Int) 0 0 0)) (.slice (some ⟨b, o + A, none⟩) (A2 - A) (c - A)) ((l.drop A).take (A2 - A)) := sub_row hr1 (by omega) (by omega)
  have hxl : ((l.drop A).take (A2 - A)).length = 1024 := by rw [List.length_take, List.length_drop]; omega
  have hzz : ∀ i, i < ((l.drop A).take (A2 - A)).length → ((l.drop A).take (A2 - A)).getD i 0 = 0 := fun i hi => by
    rw [hxl] at hi
    have := zer_iff.1 hz i hi
    unfold List.getD at this ⊢
    rw [List.getElem?_take_of_lt (by omega), List.getElem?_drop]
    exact this
  have HC := Lib.hid (containsFunc_no _ _ _ hrow hzz (by omega))
  have hw1 : IntKind.i64.wrap ((A : Int) + 1024) = (A2 : Int) := (wrap_id (by omega) (by omega)).trans (by omega)
  have hAc : (A : Int) ≤ (A2 : Int) := by omega
  have hAc2 : (A2 : Int) ≤ (c : Int) := by omega
  have hA0 : (0 : Int) ≤ (A : Int) := by omega
  obtain ⟨c0, c1, c2, c3, c4⟩ := hc _ (Below.refl _ _)
  unfold sV
  unfold sB at HC c0 c1 c2 c3 c4 hb hbl
  have hzr := ARow.made encZ_length rz0 (w.alloc (.cells #[.slice (some ⟨b, o, none⟩) l.length c, .int .i64 (A : Int), .int .i64 0, .int .i64 0, .int .i64 0] 204)) [((A : Int), 1024, 7)] 67 #[.int .i64 (A : Int), .int .i64 1024, .int .i64 7] rfl (by simp)
  rw [show (w.alloc (.cells #[.slice (some ⟨b, o, none⟩) l.length c, .int .i64 (A : Int), .int .i64 0, .int .i64 0, .int .i64 0] 204)).heap.size = w.heap.size + 1 from Array.size_push _] at hzr
  have HZ := Lib.hid hzr
  clear hzr hrow hxl hzz hz hr1 hr hc hA2 h4 h5
  go_enter Tryz.func223, Tryz.ntmps223
  go_wp2_with fail
  refine HC.out.mono ?_
  rintro e w1 ⟨rfl, rfl⟩
  go_wp2
  go_ret2
  exact ⟨_, rfl, hb.alloc hb.size _, HZ.out⟩
end Go.Proofs.YtlcnhnhpaddkfaaGreatDoor.Reg

namespace Go.Proofs.YtlcnhnhpaddkfaaGreatDoor.Reg
open Go.RowKit
open Cls (szC blC pdC)
open Sla (pl aT Sl bl_in bl_apart)
open Mem (rd)
set_option linter.unusedVariables false

/-- How many entries the map has. -/
def mapZ (w : World) (v : Value) : Nat := match v with
  | .map (some b) => match w.heap[b]? with
    | some (.map es _) => es.size
    | _ => 0
  | _ => 0
theorem SetM.mapZ {w : World} {b : Nat} {L : List Int} (h : SetM w b L) : mapZ w (.map (some b)) = L.length := by
  obtain ⟨n, D, h1, h2, h3, h4⟩ := h.ex
  obtain ⟨es, clock, q1, q2, q3, q4⟩ := h2
  have hsz : Maps.size D = es.size := by rw [q4]; simp [Maps.size, length_sorted]
  unfold Reg.mapZ
  simp only [q1]
  omega
/-- The first k blocks' places. -/
def plsL (A : Nat) (c : Int) (k : Nat) : List Int := (List.range k).map fun i => (pl A c i : Int)
theorem plsL_succ (A : Nat) (c : Int) (k : Nat) : plsL A c (k + 1) = plsL A c k ++ [(pl A c k : Int)] := by simp [plsL, List.range_succ]
theorem plsL_len (A : Nat) (c : Int) (k : Nat) : (plsL A c k).length = k := by simp [plsL]
theorem plsL_mem {A : Nat} {c : Int} {k : Nat} {x : Int} : x ∈ plsL A c k ↔ ∃ i, i < k ∧ x = (pl A c i : Int) := by
  simp only [plsL, List.mem_map, List.mem_range]
  constructor
  · rintro ⟨i, h1, h2⟩; exact ⟨i, h1, h2.symm⟩
  · rintro ⟨i, h1, h2⟩; exact ⟨i, h1, h2.symm⟩
theorem plsL_new {A : Nat} {c : Int} {k : Nat} (hk : k < blC c) : (pl A c k : Int) ∉ plsL A c k := by
  rw [plsL_mem]
  rintro ⟨i, h1, h2⟩
  have := pl_one (A := A) hk (show i < blC c by omega) (by omega)
  omega
/-- What is left: the blocks that are not seen yet. -/
structure LeftL (A : Nat) (c : Int) (seen : List Nat) (L : List Int) : Prop where
  mem : ∀ x, x ∈ L ↔ ∃ k, k < blC c ∧ k ∉ seen ∧ x = (pl A c k : Int)
  len : L.length + seen.length = blC c
theorem LeftL.start (A : Nat) (c : Int) : LeftL A c [] (plsL A c (blC c)) :=
  ⟨fun x => by rw [plsL_mem]; simp, by rw [plsL_len]; simp⟩
theorem LeftL.step {A : Nat} {c : Int} {seen : List Nat} {L : List Int} (h : LeftL A c seen L) (hn : L.Nodup) {k : Nat} (hk : k < blC c) (hs : k ∉ seen) : (pl A c k : Int) ∈ L ∧ LeftL A c (k :: seen) (L.erase (pl A c k : Int)) := by
  have hm : (pl A c k : Int) ∈ L := (h.mem _).2 ⟨k, hk, hs, rfl⟩
  refine ⟨hm, fun x => ?_, ?_⟩
  · rw [hn.mem_erase_iff, h.mem]
    constructor
    · rintro ⟨h1, i, h2, h3, h4⟩
      refine ⟨i, h2, ?_, h4⟩
      rintro q
      rcases List.mem_cons.1 q with rfl | q
      · exact h1 h4
      · exact h3 q
    · rintro ⟨i, h2, h3, h4⟩
      simp only [List.mem_cons, not_or] at h3
      refine ⟨?_, i, h2, h3.2, h4⟩
      rintro q
      exact h3.1 (pl_one (A := A) h2 hk (by omega))
  · have := List.length_erase_of_mem hm
    have := List.length_pos_of_mem hm
    have := h.len
    rw [List.length_cons]
    omega
theorem w64_of {x : Int} (h0 : -9223372036854775808 ≤ x) (h1 : x ≤ 9223372036854775807) : w64 x := by
  unfold w64
  simp [Lit.wf, IntKind.min, IntKind.max, IntKind.signed, IntKind.bits]
  omega
set_option maxRecDepth 100000 in
set_option maxHeartbeats 4000000 in
theorem remaining_ok (u : Value) (l : List Int) (A : Nat) (cl lv fr : Int) (F : List Nat) (w : World) (ht : Cls.Tab w) (hr : Row .u8 w u l) (hA : A + 1024 ≤ l.length) (hA16 : A % 16 = 0) (hl : l.length ≤ 1000000)
    (hf : flw l A cl (blC cl + 1) fr [] = some F) (hF : F.length ≠ blC cl) (hlv : lv = ((blC cl - F.length : Nat) : Int)) (hb0 : 1 ≤ blC cl) :
    Calls Tryz.prog 251 #[sV u (A : Int) cl lv fr] w fun e w' => ∃ b L, e = .returned (.tuple #[.map (some b), Value.nilIface]) ∧ Below w.heap.size w w' ∧ SetM w' b L ∧ LeftL A cl F L ∧ w.heap.size ≤ b := by
  have hbl := blC_le cl
  obtain ⟨p, c, rfl, h2, h3, h4, h5⟩ := id hr
  obtain ⟨hc, hlt, hb⟩ := box_slab w (u := .slice p l.length c) rfl (A : Int) cl lv fr
  have HBk := Lib.hid (fun (k : Nat) (W : World) (hW : Below w.heap.size w W) (hk : k < blC cl) => block_any p l.length c A cl lv fr k W (tab_keep hW ht) hk (by omega))
  have HNu := Lib.hid (fun (a : Nat) (W : World) (hW : Below w.heap.size w W) (h1 : a + 4 ≤ l.length) (h2 : a % 4 = 0) => number_any (.slice p l.length c) l a 4 W (hr.mono hW (Nat.le_refl _)) (.inr rfl) h1 h2)
  have HBl := Lib.hid (fun (W : World) (hW : Below w.heap.size w W) => Cls.blocks_any cl W (tab_keep hW ht))
  have HBox : Hid (∀ W, Below (w.alloc (sB (.slice p l.length c) (A : Int) cl lv fr)).heap.size (w.alloc (sB (.slice p l.length c) (A : Int) cl lv fr)) W → _) := hc
  have HIn : Hid (∀ k, k < blC cl → pl A cl k + 32 ≤ l.length ∧ pl A cl k % 16 = 0 ∧ w64 (pl A cl k : Int)) := fun k hk => by
    have h1 := bl_in hk
    have h2 := Sla.mul_mod cl k
    refine ⟨by unfold pl; omega, by unfold pl; omega, w64_of (by omega) (by unfold pl; omega)⟩
  have HFw : Hid (flw l A cl (blC cl + 1) fr [] = some F) := hf
  have HEnd : Hid (F.length ≠ blC cl ∧ lv = ((blC cl - F.length : Nat) : Int)) := ⟨hF, hlv⟩
  have HLs : Hid (LeftL A cl [] (plsL A cl (blC cl))) := LeftL.start A cl
  have HPs : Hid (∀ k, k < blC cl → plsL A cl (k + 1) = plsL A cl k ++ [(pl A cl k : Int)] ∧ (pl A cl k : Int) ∉ plsL A cl k ∧ (plsL A cl k).length = k) := fun k hk => ⟨plsL_succ _ _ _, plsL_new hk, plsL_len _ _ _⟩
  have hB1 := Lib.hid hb
  obtain ⟨c0, c1, c2, c3, c4⟩ := hc _ (Below.refl _ _)
  have hgl : w.heap.size < (w.alloc (sB (.slice p l.length c) (A : Int) cl lv fr)).heap.size := hlt
  have HM := SetM.made (w.alloc (sB (.slice p l.length c) (A : Int) cl lv fr))
  have hsz : (w.alloc (sB (.slice p l.length c) (A : Int) cl lv fr)).heap.size = w.heap.size + 1 := Array.size_push _
  rw [hsz] at HM
  have HM0 := Lib.hid HM
  have HBm : Hid (Below w.heap.size w ((w.alloc (sB (.slice p l.length c) (A : Int) cl lv fr)).alloc (.map #[] 0)) ∧ Below (w.alloc (sB (.slice p l.length c) (A : Int) cl lv fr)).heap.size (w.alloc (sB (.slice p l.length c) (A : Int) cl lv fr)) ((w.alloc (sB (.slice p l.length c) (A : Int) cl lv fr)).alloc (.map #[] 0))) := ⟨hb.alloc hb.size _, below_made _ _⟩
  unfold sV
  unfold sB at HBox c0 c1 c2 c3 c4 hgl HM0 HBm hB1
  unfold sV at HBk
  obtain ⟨n, hn⟩ : ∃ n, n = blC cl := ⟨_, rfl⟩
  rw [← hn] at HBl HBk HIn HFw HEnd HLs HPs hbl hb0
  have HNn := Lib.hid hn
  clear hf hF hlv hr hc hb ht h4 h5 HM hlt hn hA hA16 hsz
  go_enter Tryz.func251, Tryz.ntmps251
  have hmm := @run_makeMap Tryz.prog
  go_wp2_with fail
  clear hmm
  refine (HBl.out _ HBm.out.1).mono ?_
  rintro e w' ⟨rfl, rfl⟩
  obtain ⟨w1, hw1⟩ : ∃ w1, w1 = w.alloc (.cells #[.slice p l.length c, .int .i64 (A : Int), .int .i64 cl, .int .i64 lv, .int .i64 fr] 204) := ⟨_, rfl⟩
  rw [← hw1] at HM0 HBm HBox hgl hB1 c0 c1 c2 c3 c4
  rw [← hw1]
  have HSz : Hid (w1.heap.size = w.heap.size + 1) := by rw [hw1]; exact Array.size_push _
  clear hw1
  go_wp2
  go_loopw [11] (fun i wr => ∃ k : Nat, k ≤ n ∧ i = .int .i64 k ∧ Hid (SetM wr (w.heap.size + 1) (plsL A cl k)) ∧ Hid (Below w.heap.size w wr ∧ Below w1.heap.size w1 wr)) (fun i _ => n - (intOf i).toNat)
  case atStart => exact ⟨0, Nat.zero_le _, rfl, HM0.out, HBm.out⟩
  case round =>
    clear HM0 HBm c0 c1 c2 c3 c4
    obtain ⟨k, hk, rfl, HS, HB⟩ := hrel
    obtain ⟨c0, c1, c2, c3, c4⟩ := HBox.out _ HB.out.2
    by_cases hlt : k < n
    · have hlt1 : (k : Int) < (n : Int) := by omega
      have hkw : IntKind.i64.wrap ((k : Int) + 1) = ((k + 1 : Nat) : Int) := (wrap_id (by omega) (by omega)).trans (by omega)
      go_wp2_with fail
      refine (HBk.out k _ HB.out.1 hlt).mono ?_
      rintro e w3 ⟨rfl, hb3⟩
      obtain ⟨hp1, hp2, hp3⟩ := HPs.out k hlt
      obtain ⟨w4, hput, hS4, hg4⟩ := (HS.out.below hb3).put (HIn.out k hlt).2.2 hp2 (by rw [hp3]; omega)
      rw [← hp1] at hS4
      have HS4 := Lib.hid hS4
      have HB4 : Hid (Below w.heap.size w w4 ∧ Below w1.heap.size w1 w4) := ⟨(HB.out.1.trans (hb3.mono HB.out.1.size)).grown hg4 (Nat.le_trans HB.out.1.size hb3.size) (fun r hr => by injection hr with hr; omega), (HB.out.2.trans (hb3.mono HB.out.2.size)).grown hg4 (Nat.le_trans HB.out.2.size hb3.size) (fun r hr => by injection hr with hr; have := HSz.out; omega)⟩
      generalize (pl A cl k : Int) = P at hput
      clear hp1 hp2 hp3 hS4 hg4 hb3 HS HB c0 c1 c2 c3 c4
      go_wp2
      go_roundw
      case rel => exact ⟨k + 1, by omega, by go_num, HS4.out, HB4.out⟩
      case measure => simp [intOf]; omega
    · obtain rfl : k = n := by omega
      have HLn : Hid (LeftL A cl [] (plsL A cl k)) := HLs.out
      have HFn : Hid (flw l A cl (k + 1 - ([] : List Nat).length) fr [] = some F) := HFw.out
      clear HLs HFw HPs HBk HBl
      go_wp2
      go_loopw [6] (fun a wr => ∃ (seen : List Nat) (L : List Int) (x : Int), a = .int .i64 x ∧ Hid (flw l A cl (k + 1 - seen.length) x seen = some F) ∧ Hid (SetM wr (w.heap.size + 1) L) ∧ Hid (LeftL A cl seen L) ∧ Hid (Below w.heap.size w wr ∧ Below w1.heap.size w1 wr)) (fun _ wr => mapZ wr (.map (some (w.heap.size + 1))))
      case atStart => exact ⟨[], _, fr, rfl, HFn.out, HS.out, HLn.out, HB.out⟩
      case round =>
        clear HFn HLn HS HB c0 c1 c2 c3 c4
        obtain ⟨seen, L, x, rfl, HF, HS, HLe, HB⟩ := hrel
        obtain ⟨c0, c1, c2, c3, c4⟩ := HBox.out _ HB.out.2
        by_cases hx : x = 0
        · subst hx
          have hFs := flw_zero HF.out
          obtain ⟨hE1, hE2⟩ := HEnd.out
          rw [hFs] at hE1 hE2
          have hlen := HLe.out.len
          rw [← HNn.out] at hlen
          have hln := HS.out.len 3
          have hl0 : ((L.length : Int) == 0) = false := by rw [beq_eq_false_iff_ne]; omega
          have hlv : lv = (L.length : Int) := by omega
          have HFs := Lib.hid hFs
          subst hlv
          clear hE1 hE2 hFs hlen HF
          go_wp2
          go_ret2
          refine ⟨_, L, rfl, HB.out.1, HS.out, ?_, Nat.le_succ _⟩
          rw [HFs.out]
          exact HLe.out
        · have hx0 : (x == 0) = false := by simp [hx]
          obtain ⟨m, j, hm, hj, rfl, hjs, hfl⟩ := flw_step HF.out hx
          obtain ⟨hin1, hin2, hin3⟩ := HIn.out j (by rw [HNn.out]; exact hj)
          obtain ⟨hmem, hle⟩ := HLe.out.step HS.out.nd hj hjs
          have hlk := HS.out.look hin3
          rw [decide_eq_true hmem] at hlk
          obtain ⟨w4, hdel, hS4, hg4⟩ := HS.out.del hin3 hmem (0 : TypeId)
          have HS4 := Lib.hid hS4
          have HB4 : Hid (Below w.heap.size w w4 ∧ Below w1.heap.size w1 w4) := ⟨HB.out.1.grown hg4 HB.out.1.size (fun r hr => by injection hr with hr; omega), HB.out.2.grown hg4 HB.out.2.size (fun r hr => by injection hr with hr; have := HSz.out; omega)⟩
          have hlen := HLe.out.len
          rw [← HNn.out] at hlen
          have hlen2 := List.length_erase_of_mem hmem
          have hpos := List.length_pos_of_mem hmem
          have HMs : Hid (mapZ wr (.map (some (w.heap.size + 1))) = L.length) := HS.out.mapZ
          have HFl : Hid (flw l A cl (k + 1 - (j :: seen).length) (rd l (pl A cl j + 4) 4) (j :: seen) = some F) := by
            unfold Hid
            rw [List.length_cons, show k + 1 - (seen.length + 1) = m by omega]
            exact hfl
          have HLe2 := Lib.hid hle
          have HLz : Hid ((L.erase (pl A cl j : Int)).length < L.length) := by unfold Hid; omega
          obtain ⟨a4, ha4⟩ : ∃ a4, a4 = pl A cl j + 4 := ⟨_, rfl⟩
          have hw4 : IntKind.i64.wrap ((pl A cl j : Int) + 4) = (a4 : Int) := (wrap_id (by omega) (by omega)).trans (by omega)
          have hnu := HNu.out a4 w4 HB4.out.1 (by omega) (by omega)
          rw [← ha4] at HFl
          obtain ⟨y, hy⟩ : ∃ y, y = rd l a4 4 := ⟨_, rfl⟩
          rw [← hy] at hnu HFl
          have HNu4 := Lib.hid hnu
          obtain ⟨L2, hL2⟩ : ∃ L2, L2 = L.erase (pl A cl j : Int) := ⟨_, rfl⟩
          rw [← hL2] at HS4 HLe2 HLz
          obtain ⟨q, hq⟩ : ∃ q, q = pl A cl j := ⟨_, rfl⟩
          rw [← hq] at hlk hdel hw4 hx0
          rw [← hq]
          obtain ⟨d0, d1, d2, d3, d4⟩ := HBox.out _ HB4.out.2
          clear hx hm hj hjs hfl hin1 hin2 hin3 hmem hle hS4 hg4 hlen hlen2 hpos hnu hy hL2 hq ha4 HS HB HF HLe c0 c1 c2 c3 c4
          go_wp2_with fail
          refine HNu4.out.mono ?_
          rintro e w5 ⟨rfl, hb5⟩
          have HS5 := Lib.hid (HS4.out.below hb5)
          have HB5 : Hid (Below w.heap.size w w5 ∧ Below w1.heap.size w1 w5) := ⟨HB4.out.1.trans (hb5.mono HB4.out.1.size), HB4.out.2.trans (hb5.mono HB4.out.2.size)⟩
          clear hb5 HS4 HB4 d0 d1 d2 d3 d4 hlk hdel hw4 hx0
          go_wp2
          go_roundw
          case rel => exact ⟨j :: seen, L2, y, rfl, HFl.out, HS5.out, HLe2.out, HB5.out⟩
          case measure => rw [HS5.out.mapZ, HMs.out]; exact HLz.out
end Go.Proofs.YtlcnhnhpaddkfaaGreatDoor.Reg
